import Derived.Test.YtgkfnbbgohdalaaDoorLay0
namespace Go.Proofs.YtgkfnbbgohdalaaDoor
open Go.RowKit
set_option maxRecDepth 100000

set_option maxHeartbeats 4000000 in
theorem lay_6 {w : World} {g n : Nat} {c : List Value} {f : Fr} {da ra ma : Option Addr} {dc rc mc : Nat} {kb pb : BitVec 8} (hF : FrAt w c f da dc ra rc ma mc) (hk : f.kind = 6) (hn : n = 10) (hR : Row w g (bcells ([kb, pb] ++ (z 4 ++ z 4))) 5) :
    Calls Tryd.prog 19 #[.slice (some ⟨g, 0, none⟩) n n, .agg c.toArray] w fun e w' => e = .returned (.tuple #[]) ∧ Row w' g (bcells ([kb, pb] ++ (fieldsB f ++ z 4))) 5 ∧ Only g w w' := by
  obtain ⟨rfl, hd, hr, hm, hnum, hoff, hedge, hrlt, htok, hnon, hdl, hrl, hml⟩ := hF
  have eF : bcells ([kb, pb] ++ (fieldsB f ++ z 4)) = bcells ([kb, pb] ++ (be 4 f.token ++ z 4)) := by simp [fieldsB, hk]
  rw [eF]
  have HR : Hid (Row w g (bcells ([kb, pb] ++ (z 4 ++ z 4))) 5) := hR
  have HNU : Hid _ := hnum
  have HOF : Hid _ := hoff
  have HED : Hid _ := hedge
  have HTK : Hid (f.token < 18446744073709551616) := by show f.token < 18446744073709551616; omega
  have HNO : Hid (f.nonce < 18446744073709551616) := by show f.nonce < 18446744073709551616; omega
  have HDA : Hid (BytesAt w da f.data) := hd
  have HMA : Hid (BytesAt w ma f.mac) := hm
  have HG : Hid (g < w.heap.size) := hR.lt
  have htw : IntKind.u64.wrap (f.token : Int) = (f.token : Int) := by rw [IntKind.wrap_u64]; omega
  have hnw : IntKind.u64.wrap (f.nonce : Int) = (f.nonce : Int) := by rw [IntKind.wrap_u64]; omega
  have i2 : (6 : Int) ≤ (n : Int) := by omega
  have j2 : ¬ n = 2 := by omega
  clear hR hnum hoff hedge hrlt htok hnon hdl hrl hml hd hr hm eF
  go_enter Tryd.func19, Tryd.ntmps19
  go_upto_region 1 with (fail)
  refine wp_world fun W0 HW => ?_
  have HQ0 : Hid (Row W0 w.heap.size (fcells f (.slice da f.data.length dc) (.slice ra f.ranges.length rc) (.slice ma f.mac.length mc)) 27) := by show Row _ _ _ _; rw [HW.out]; exact Row.new' _ _ _ _ _ rfl rfl
  have HB0 : Hid (Below w.heap.size w W0) := by show Below _ _ _; rw [HW.out]; exact (Below.refl _ _).alloc (Nat.le_refl _) _
  have HR0 : Hid (Row W0 g (bcells ([kb, pb] ++ (z 4 ++ z 4))) 5) := HR.out.kept HB0.out HG.out
  have HO0 : Hid (Only g w W0) := Only.of_below HB0.out (Nat.le_refl _)
  have c0 : W0.cell? ⟨w.heap.size, 0, none⟩ = some (.int .i64 6) := by have := HQ0.out.cell 0 _ rfl; rw [hk] at this; exact this
  clear HW HB0 HR
  go_upto_region 29 with (fail)
  clear c0
  have cc := HQ0.out.cell 7 _ rfl
  go_region_with (go_at_call 20; refine (put_in (HR0.out.drawn _) (L' := [kb, pb] ++ (be 4 f.token ++ z 4)) (A := [kb, pb]) (X := z 4) (B := z 4) (by first | rfl | simp only [List.append_assoc]) (by first | rfl | simp only [List.length_append, List.length_cons, List.length_nil, z_len, be_len]) (z_len _) (by decide) f.token HTK.out (by first | rfl | simp only [List.append_assoc])).mono ?_; rintro e W1 ⟨rfl, hr, ho⟩; have HR1 : Hid _ := hr; have HP : Hid _ := ho; clear hr ho)
  clear cc
  have HQ1 : Hid (Row W1 w.heap.size (fcells f (.slice da f.data.length dc) (.slice ra f.ranges.length rc) (.slice ma f.mac.length mc)) 27) := HP.out.row (HQ0.out.drawn _) (show w.heap.size ≠ g by have := HG.out; omega)
  have HO1 : Hid (Only g w W1) := HO0.out.trans (((Only.refl g W0).drawn _).trans HP.out)
  clear HP HR0 HQ0 HO0
  go_wp2
  go_end0
  exact ⟨rfl, HR1.out, HO1.out⟩

set_option maxHeartbeats 4000000 in
theorem lay_7 {w : World} {g n : Nat} {c : List Value} {f : Fr} {da ra ma : Option Addr} {dc rc mc : Nat} {kb pb : BitVec 8} (hF : FrAt w c f da dc ra rc ma mc) (hk : f.kind = 7) (hn : n = 15) (hR : Row w g (bcells ([kb, pb] ++ (z 4 ++ (z 4 ++ (z 1 ++ z 4))))) 5) :
    Calls Tryd.prog 19 #[.slice (some ⟨g, 0, none⟩) n n, .agg c.toArray] w fun e w' => e = .returned (.tuple #[]) ∧ Row w' g (bcells ([kb, pb] ++ (fieldsB f ++ z 4))) 5 ∧ Only g w w' := by
  obtain ⟨rfl, hd, hr, hm, hnum, hoff, hedge, hrlt, htok, hnon, hdl, hrl, hml⟩ := hF
  have eF : bcells ([kb, pb] ++ (fieldsB f ++ z 4)) = bcells ([kb, pb] ++ (be 4 f.token ++ (be 4 f.nonce ++ ([flagB f.backup] ++ z 4)))) := by simp [fieldsB, hk]
  rw [eF]
  have HR : Hid (Row w g (bcells ([kb, pb] ++ (z 4 ++ (z 4 ++ (z 1 ++ z 4))))) 5) := hR
  have HNU : Hid _ := hnum
  have HOF : Hid _ := hoff
  have HED : Hid _ := hedge
  have HTK : Hid (f.token < 18446744073709551616) := by show f.token < 18446744073709551616; omega
  have HNO : Hid (f.nonce < 18446744073709551616) := by show f.nonce < 18446744073709551616; omega
  have HDA : Hid (BytesAt w da f.data) := hd
  have HMA : Hid (BytesAt w ma f.mac) := hm
  have HG : Hid (g < w.heap.size) := hR.lt
  have htw : IntKind.u64.wrap (f.token : Int) = (f.token : Int) := by rw [IntKind.wrap_u64]; omega
  have hnw : IntKind.u64.wrap (f.nonce : Int) = (f.nonce : Int) := by rw [IntKind.wrap_u64]; omega
  have i10 : (10 : Int) < (n : Int) := by omega
  have i2 : (6 : Int) ≤ (n : Int) := by omega
  have i6 : (10 : Int) ≤ (n : Int) := by omega
  have j2 : ¬ n = 2 := by omega
  have j6 : ¬ n = 6 := by omega
  clear hR hnum hoff hedge hrlt htok hnon hdl hrl hml hd hr hm eF
  go_enter Tryd.func19, Tryd.ntmps19
  go_upto_region 1 with (fail)
  refine wp_world fun W0 HW => ?_
  have HQ0 : Hid (Row W0 w.heap.size (fcells f (.slice da f.data.length dc) (.slice ra f.ranges.length rc) (.slice ma f.mac.length mc)) 27) := by show Row _ _ _ _; rw [HW.out]; exact Row.new' _ _ _ _ _ rfl rfl
  have HB0 : Hid (Below w.heap.size w W0) := by show Below _ _ _; rw [HW.out]; exact (Below.refl _ _).alloc (Nat.le_refl _) _
  have HR0 : Hid (Row W0 g (bcells ([kb, pb] ++ (z 4 ++ (z 4 ++ (z 1 ++ z 4))))) 5) := HR.out.kept HB0.out HG.out
  have HO0 : Hid (Only g w W0) := Only.of_below HB0.out (Nat.le_refl _)
  have c0 : W0.cell? ⟨w.heap.size, 0, none⟩ = some (.int .i64 7) := by have := HQ0.out.cell 0 _ rfl; rw [hk] at this; exact this
  clear HW HB0 HR
  go_upto_region 27 with (fail)
  clear c0
  have cc := HQ0.out.cell 8 _ rfl
  go_region_with (go_at_call 20; refine (put_in (HR0.out.drawn _) (L' := [kb, pb] ++ (z 4 ++ (be 4 f.nonce ++ (z 1 ++ z 4)))) (A := ([kb, pb] ++ z 4)) (X := z 4) (B := (z 1 ++ z 4)) (by first | rfl | simp only [List.append_assoc]) (by first | rfl | simp only [List.length_append, List.length_cons, List.length_nil, z_len, be_len]) (z_len _) (by decide) f.nonce HNO.out (by first | rfl | simp only [List.append_assoc])).mono ?_; rintro e W1 ⟨rfl, hr, ho⟩; have HR1 : Hid _ := hr; have HP : Hid _ := ho; clear hr ho)
  clear cc
  have HQ1 : Hid (Row W1 w.heap.size (fcells f (.slice da f.data.length dc) (.slice ra f.ranges.length rc) (.slice ma f.mac.length mc)) 27) := HP.out.row (HQ0.out.drawn _) (show w.heap.size ≠ g by have := HG.out; omega)
  have HO1 : Hid (Only g w W1) := HO0.out.trans (((Only.refl g W0).drawn _).trans HP.out)
  clear HP HR0 HQ0 HO0
  go_upto_region 28 with (fail)
  have cc := HQ1.out.cell 10 _ rfl
  have fz := HR1.out.frozen 10
  obtain ⟨vv, cv⟩ : ∃ v, W1.cell? ⟨g, 10, none⟩ = some v := ⟨_, HR1.out.cell 10 _ (bcells_get (show 10 < 15 by decide))⟩
  go_upto_region 29 with (go_at_call 38; refine (flag_any _ _).mono ?_; rintro e w1 ⟨rfl, rfl⟩)
  refine wp_world fun W2 HW => ?_
  have HR2 : Hid (Row W2 g (bcells ([kb, pb] ++ (z 4 ++ (be 4 f.nonce ++ ([flagB f.backup] ++ z 4))))) 5) := by
    show Row _ _ _ _
    rw [HW.out]
    have := HR1.out.set 10 (.int .u8 (ub (flagB f.backup)))
    rw [bcells_set, show [kb, pb] ++ (z 4 ++ (be 4 f.nonce ++ (z 1 ++ z 4))) = (([kb, pb] ++ z 4) ++ be 4 f.nonce) ++ (z 1 ++ z 4) by first | rfl | simp only [List.append_assoc], set_in (A := (([kb, pb] ++ z 4) ++ be 4 f.nonce)) (B := z 4) (by first | rfl | simp only [List.length_append, List.length_cons, List.length_nil, z_len, be_len])] at this
    first | exact this | simpa only [List.append_assoc] using this
  have HQ2 : Hid (Row W2 w.heap.size (fcells f (.slice da f.data.length dc) (.slice ra f.ranges.length rc) (.slice ma f.mac.length mc)) 27) := by show Row _ _ _ _; rw [HW.out]; exact HQ1.out.setOther _ (show w.heap.size ≠ g by have := HG.out; omega) _
  have HO2 : Hid (Only g w W2) := by show Only _ _ _; rw [HW.out]; exact HO1.out.setCell _ _
  clear HW cc fz cv HR1 HQ1 HO1
  go_upto_region 29 with (fail)
  have cc := HQ2.out.cell 7 _ rfl
  go_region_with (go_at_call 20; refine (put_in (HR2.out.drawn _) (L' := [kb, pb] ++ (be 4 f.token ++ (be 4 f.nonce ++ ([flagB f.backup] ++ z 4)))) (A := [kb, pb]) (X := z 4) (B := (be 4 f.nonce ++ ([flagB f.backup] ++ z 4))) (by first | rfl | simp only [List.append_assoc]) (by first | rfl | simp only [List.length_append, List.length_cons, List.length_nil, z_len, be_len]) (z_len _) (by decide) f.token HTK.out (by first | rfl | simp only [List.append_assoc])).mono ?_; rintro e W3 ⟨rfl, hr, ho⟩; have HR3 : Hid _ := hr; have HP : Hid _ := ho; clear hr ho)
  clear cc
  have HQ3 : Hid (Row W3 w.heap.size (fcells f (.slice da f.data.length dc) (.slice ra f.ranges.length rc) (.slice ma f.mac.length mc)) 27) := HP.out.row (HQ2.out.drawn _) (show w.heap.size ≠ g by have := HG.out; omega)
  have HO3 : Hid (Only g w W3) := HO2.out.trans (((Only.refl g W2).drawn _).trans HP.out)
  clear HP HR2 HQ2 HO2
  go_wp2
  go_end0
  exact ⟨rfl, HR3.out, HO3.out⟩

set_option maxHeartbeats 4000000 in
theorem lay_10 {w : World} {g n : Nat} {c : List Value} {f : Fr} {da ra ma : Option Addr} {dc rc mc : Nat} {kb pb : BitVec 8} (hF : FrAt w c f da dc ra rc ma mc) (hk : f.kind = 10) (hn : n = 7) (hR : Row w g (bcells ([kb, pb] ++ (z 1 ++ z 4))) 5) :
    Calls Tryd.prog 19 #[.slice (some ⟨g, 0, none⟩) n n, .agg c.toArray] w fun e w' => e = .returned (.tuple #[]) ∧ Row w' g (bcells ([kb, pb] ++ (fieldsB f ++ z 4))) 5 ∧ Only g w w' := by
  obtain ⟨rfl, hd, hr, hm, hnum, hoff, hedge, hrlt, htok, hnon, hdl, hrl, hml⟩ := hF
  have eF : bcells ([kb, pb] ++ (fieldsB f ++ z 4)) = bcells ([kb, pb] ++ ([flagB f.backup] ++ z 4)) := by simp [fieldsB, hk]
  rw [eF]
  have HR : Hid (Row w g (bcells ([kb, pb] ++ (z 1 ++ z 4))) 5) := hR
  have HNU : Hid _ := hnum
  have HOF : Hid _ := hoff
  have HED : Hid _ := hedge
  have HTK : Hid (f.token < 18446744073709551616) := by show f.token < 18446744073709551616; omega
  have HNO : Hid (f.nonce < 18446744073709551616) := by show f.nonce < 18446744073709551616; omega
  have HDA : Hid (BytesAt w da f.data) := hd
  have HMA : Hid (BytesAt w ma f.mac) := hm
  have HG : Hid (g < w.heap.size) := hR.lt
  have htw : IntKind.u64.wrap (f.token : Int) = (f.token : Int) := by rw [IntKind.wrap_u64]; omega
  have hnw : IntKind.u64.wrap (f.nonce : Int) = (f.nonce : Int) := by rw [IntKind.wrap_u64]; omega
  have i2 : (2 : Int) < (n : Int) := by omega
  clear hR hnum hoff hedge hrlt htok hnon hdl hrl hml hd hr hm eF
  go_enter Tryd.func19, Tryd.ntmps19
  go_upto_region 1 with (fail)
  refine wp_world fun W0 HW => ?_
  have HQ0 : Hid (Row W0 w.heap.size (fcells f (.slice da f.data.length dc) (.slice ra f.ranges.length rc) (.slice ma f.mac.length mc)) 27) := by show Row _ _ _ _; rw [HW.out]; exact Row.new' _ _ _ _ _ rfl rfl
  have HB0 : Hid (Below w.heap.size w W0) := by show Below _ _ _; rw [HW.out]; exact (Below.refl _ _).alloc (Nat.le_refl _) _
  have HR0 : Hid (Row W0 g (bcells ([kb, pb] ++ (z 1 ++ z 4))) 5) := HR.out.kept HB0.out HG.out
  have HO0 : Hid (Only g w W0) := Only.of_below HB0.out (Nat.le_refl _)
  have c0 : W0.cell? ⟨w.heap.size, 0, none⟩ = some (.int .i64 10) := by have := HQ0.out.cell 0 _ rfl; rw [hk] at this; exact this
  clear HW HB0 HR
  go_upto_region 33 with (fail)
  clear c0
  have cc := HQ0.out.cell 10 _ rfl
  have fz := HR0.out.frozen 2
  obtain ⟨vv, cv⟩ : ∃ v, W0.cell? ⟨g, 2, none⟩ = some v := ⟨_, HR0.out.cell 2 _ (bcells_get (show 2 < 7 by decide))⟩
  go_wp2_with (go_at_call 38; refine (flag_any _ _).mono ?_; rintro e w1 ⟨rfl, rfl⟩)
  go_end0
  refine ⟨rfl, ?_, HO0.out.setCell _ _⟩
  have := HR0.out.set 2 (.int .u8 (ub (flagB f.backup)))
  rw [bcells_set, show [kb, pb] ++ (z 1 ++ z 4) = [kb, pb] ++ (z 1 ++ z 4) by first | rfl | simp only [List.append_assoc], set_in (A := [kb, pb]) (B := z 4) (by first | rfl | simp only [List.length_append, List.length_cons, List.length_nil, z_len, be_len])] at this
  first | exact this | simpa only [List.append_assoc] using this

set_option maxHeartbeats 4000000 in
theorem lay_11 {w : World} {g n : Nat} {c : List Value} {f : Fr} {da ra ma : Option Addr} {dc rc mc : Nat} {kb pb : BitVec 8} (hF : FrAt w c f da dc ra rc ma mc) (hk : f.kind = 11) (hn : n = 7) (hR : Row w g (bcells ([kb, pb] ++ (z 1 ++ z 4))) 5) :
    Calls Tryd.prog 19 #[.slice (some ⟨g, 0, none⟩) n n, .agg c.toArray] w fun e w' => e = .returned (.tuple #[]) ∧ Row w' g (bcells ([kb, pb] ++ (fieldsB f ++ z 4))) 5 ∧ Only g w w' := by
  obtain ⟨rfl, hd, hr, hm, hnum, hoff, hedge, hrlt, htok, hnon, hdl, hrl, hml⟩ := hF
  have eF : bcells ([kb, pb] ++ (fieldsB f ++ z 4)) = bcells ([kb, pb] ++ ([BitVec.ofInt 8 f.which] ++ z 4)) := by simp [fieldsB, hk]
  rw [eF]
  have HR : Hid (Row w g (bcells ([kb, pb] ++ (z 1 ++ z 4))) 5) := hR
  have HNU : Hid _ := hnum
  have HOF : Hid _ := hoff
  have HED : Hid _ := hedge
  have HTK : Hid (f.token < 18446744073709551616) := by show f.token < 18446744073709551616; omega
  have HNO : Hid (f.nonce < 18446744073709551616) := by show f.nonce < 18446744073709551616; omega
  have HDA : Hid (BytesAt w da f.data) := hd
  have HMA : Hid (BytesAt w ma f.mac) := hm
  have HG : Hid (g < w.heap.size) := hR.lt
  have htw : IntKind.u64.wrap (f.token : Int) = (f.token : Int) := by rw [IntKind.wrap_u64]; omega
  have hnw : IntKind.u64.wrap (f.nonce : Int) = (f.nonce : Int) := by rw [IntKind.wrap_u64]; omega
  have i2 : (2 : Int) < (n : Int) := by omega
  clear hR hnum hoff hedge hrlt htok hnon hdl hrl hml hd hr hm eF
  go_enter Tryd.func19, Tryd.ntmps19
  go_upto_region 1 with (fail)
  refine wp_world fun W0 HW => ?_
  have HQ0 : Hid (Row W0 w.heap.size (fcells f (.slice da f.data.length dc) (.slice ra f.ranges.length rc) (.slice ma f.mac.length mc)) 27) := by show Row _ _ _ _; rw [HW.out]; exact Row.new' _ _ _ _ _ rfl rfl
  have HB0 : Hid (Below w.heap.size w W0) := by show Below _ _ _; rw [HW.out]; exact (Below.refl _ _).alloc (Nat.le_refl _) _
  have HR0 : Hid (Row W0 g (bcells ([kb, pb] ++ (z 1 ++ z 4))) 5) := HR.out.kept HB0.out HG.out
  have HO0 : Hid (Only g w W0) := Only.of_below HB0.out (Nat.le_refl _)
  have c0 : W0.cell? ⟨w.heap.size, 0, none⟩ = some (.int .i64 11) := by have := HQ0.out.cell 0 _ rfl; rw [hk] at this; exact this
  clear HW HB0 HR
  go_upto_region 34 with (fail)
  clear c0
  have cc := HQ0.out.cell 11 _ rfl
  have fz := HR0.out.frozen 2
  obtain ⟨vv, cv⟩ : ∃ v, W0.cell? ⟨g, 2, none⟩ = some v := ⟨_, HR0.out.cell 2 _ (bcells_get (show 2 < 7 by decide))⟩
  have hw := ub_wrap f.which
  have hw' : f.which % 256 = ub (BitVec.ofInt 8 f.which) := by rw [← IntKind.wrap_u8']; exact hw
  go_wp2
  go_end0
  refine ⟨rfl, ?_, HO0.out.setCell _ _⟩
  have := HR0.out.set 2 (.int .u8 (ub (BitVec.ofInt 8 f.which)))
  rw [bcells_set, show [kb, pb] ++ (z 1 ++ z 4) = [kb, pb] ++ (z 1 ++ z 4) by first | rfl | simp only [List.append_assoc], set_in (A := [kb, pb]) (B := z 4) (by first | rfl | simp only [List.length_append, List.length_cons, List.length_nil, z_len, be_len])] at this
  first | exact this | simpa only [List.append_assoc] using this
end Go.Proofs.YtgkfnbbgohdalaaDoor
