import Derived.Test.YtgkfnbbgohdalaaDoorLay0
namespace Go.Proofs.YtgkfnbbgohdalaaDoor
open Go.RowKit
set_option maxRecDepth 100000

set_option maxHeartbeats 4000000 in
theorem lay_2 {w : World} {g n : Nat} {c : List Value} {f : Fr} {da ra ma : Option Addr} {dc rc mc : Nat} {kb pb : BitVec 8} (hF : FrAt w c f da dc ra rc ma mc) (hk : f.kind = 2) (hn : n = 22) (hR : Row w g (bcells ([kb, pb] ++ (z 8 ++ (z 8 ++ z 4)))) 5) :
    Calls Tryd.prog 19 #[.slice (some ⟨g, 0, none⟩) n n, .agg c.toArray] w fun e w' => e = .returned (.tuple #[]) ∧ Row w' g (bcells ([kb, pb] ++ (fieldsB f ++ z 4))) 5 ∧ Only g w w' := by
  obtain ⟨rfl, hd, hr, hm, hnum, hoff, hedge, hrlt, htok, hnon, hdl, hrl, hml⟩ := hF
  have eF : bcells ([kb, pb] ++ (fieldsB f ++ z 4)) = bcells ([kb, pb] ++ (be 8 f.num ++ (be 8 f.off ++ z 4))) := by simp [fieldsB, hk]
  rw [eF]
  have HR : Hid (Row w g (bcells ([kb, pb] ++ (z 8 ++ (z 8 ++ z 4)))) 5) := hR
  have HNU : Hid _ := hnum
  have HOF : Hid _ := hoff
  have HED : Hid _ := hedge
  have HTK : Hid (f.token < 18446744073709551616) := by show f.token < 18446744073709551616; omega
  have HNO : Hid (f.nonce < 18446744073709551616) := by show f.nonce < 18446744073709551616; omega
  have HDA : Hid (BytesAt w da f.data) := hd
  have HMA : Hid (BytesAt w ma f.mac) := hm
  have HG : Hid (g < w.heap.size) := hR.lt
  have htw : IntKind.u64.wrap (f.token : Int) = (f.token : Int) := by rw [IntKind.wrap_u64]; omega
  have hnw : IntKind.u64.wrap (f.nonce : Int) = (f.nonce : Int) := by rw [IntKind.wrap_u64]; omega
  have i10 : (18 : Int) ≤ (n : Int) := by omega
  have i2 : (10 : Int) ≤ (n : Int) := by omega
  have j10 : ¬ n = 10 := by omega
  have j2 : ¬ n = 2 := by omega
  clear hR hnum hoff hedge hrlt htok hnon hdl hrl hml hd hr hm eF
  go_enter Tryd.func19, Tryd.ntmps19
  go_upto_region 1 with (fail)
  refine wp_world fun W0 HW => ?_
  have HQ0 : Hid (Row W0 w.heap.size (fcells f (.slice da f.data.length dc) (.slice ra f.ranges.length rc) (.slice ma f.mac.length mc)) 27) := by show Row _ _ _ _; rw [HW.out]; exact Row.new' _ _ _ _ _ rfl rfl
  have HB0 : Hid (Below w.heap.size w W0) := by show Below _ _ _; rw [HW.out]; exact (Below.refl _ _).alloc (Nat.le_refl _) _
  have HR0 : Hid (Row W0 g (bcells ([kb, pb] ++ (z 8 ++ (z 8 ++ z 4)))) 5) := HR.out.kept HB0.out HG.out
  have HO0 : Hid (Only g w W0) := Only.of_below HB0.out (Nat.le_refl _)
  have c0 : W0.cell? ⟨w.heap.size, 0, none⟩ = some (.int .i64 2) := by have := HQ0.out.cell 0 _ rfl; rw [hk] at this; exact this
  clear HW HB0 HR
  go_upto_region 15 with (fail)
  clear c0
  have cc := HQ0.out.cell 3 _ rfl
  go_region_with (go_at_call 20; refine (put_in (HR0.out.drawn _) (L' := [kb, pb] ++ (z 8 ++ (be 8 f.off ++ z 4))) (A := ([kb, pb] ++ z 8)) (X := z 8) (B := z 4) (by first | rfl | simp only [List.append_assoc]) (by first | rfl | simp only [List.length_append, List.length_cons, List.length_nil, z_len, be_len]) (z_len _) (by decide) f.off HOF.out (by first | rfl | simp only [List.append_assoc])).mono ?_; rintro e W1 ⟨rfl, hr, ho⟩; have HR1 : Hid _ := hr; have HP : Hid _ := ho; clear hr ho)
  clear cc
  have HQ1 : Hid (Row W1 w.heap.size (fcells f (.slice da f.data.length dc) (.slice ra f.ranges.length rc) (.slice ma f.mac.length mc)) 27) := HP.out.row (HQ0.out.drawn _) (show w.heap.size ≠ g by have := HG.out; omega)
  have HO1 : Hid (Only g w W1) := HO0.out.trans (((Only.refl g W0).drawn _).trans HP.out)
  clear HP HR0 HQ0 HO0
  go_upto_region 16 with (fail)
  have cc := HQ1.out.cell 2 _ rfl
  go_region_with (go_at_call 20; refine (put_in (HR1.out.drawn _) (L' := [kb, pb] ++ (be 8 f.num ++ (be 8 f.off ++ z 4))) (A := [kb, pb]) (X := z 8) (B := (be 8 f.off ++ z 4)) (by first | rfl | simp only [List.append_assoc]) (by first | rfl | simp only [List.length_append, List.length_cons, List.length_nil, z_len, be_len]) (z_len _) (by decide) f.num HNU.out (by first | rfl | simp only [List.append_assoc])).mono ?_; rintro e W2 ⟨rfl, hr, ho⟩; have HR2 : Hid _ := hr; have HP : Hid _ := ho; clear hr ho)
  clear cc
  have HQ2 : Hid (Row W2 w.heap.size (fcells f (.slice da f.data.length dc) (.slice ra f.ranges.length rc) (.slice ma f.mac.length mc)) 27) := HP.out.row (HQ1.out.drawn _) (show w.heap.size ≠ g by have := HG.out; omega)
  have HO2 : Hid (Only g w W2) := HO1.out.trans (((Only.refl g W1).drawn _).trans HP.out)
  clear HP HR1 HQ1 HO1
  go_wp2
  go_end0
  exact ⟨rfl, HR2.out, HO2.out⟩

set_option maxHeartbeats 4000000 in
theorem lay_3 {w : World} {g n : Nat} {c : List Value} {f : Fr} {da ra ma : Option Addr} {dc rc mc : Nat} {kb pb : BitVec 8} (hF : FrAt w c f da dc ra rc ma mc) (hk : f.kind = 3) (hn : n = 14) (hR : Row w g (bcells ([kb, pb] ++ (z 8 ++ z 4))) 5) :
    Calls Tryd.prog 19 #[.slice (some ⟨g, 0, none⟩) n n, .agg c.toArray] w fun e w' => e = .returned (.tuple #[]) ∧ Row w' g (bcells ([kb, pb] ++ (fieldsB f ++ z 4))) 5 ∧ Only g w w' := by
  obtain ⟨rfl, hd, hr, hm, hnum, hoff, hedge, hrlt, htok, hnon, hdl, hrl, hml⟩ := hF
  have eF : bcells ([kb, pb] ++ (fieldsB f ++ z 4)) = bcells ([kb, pb] ++ (be 8 f.num ++ z 4)) := by simp [fieldsB, hk]
  rw [eF]
  have HR : Hid (Row w g (bcells ([kb, pb] ++ (z 8 ++ z 4))) 5) := hR
  have HNU : Hid _ := hnum
  have HOF : Hid _ := hoff
  have HED : Hid _ := hedge
  have HTK : Hid (f.token < 18446744073709551616) := by show f.token < 18446744073709551616; omega
  have HNO : Hid (f.nonce < 18446744073709551616) := by show f.nonce < 18446744073709551616; omega
  have HDA : Hid (BytesAt w da f.data) := hd
  have HMA : Hid (BytesAt w ma f.mac) := hm
  have HG : Hid (g < w.heap.size) := hR.lt
  have htw : IntKind.u64.wrap (f.token : Int) = (f.token : Int) := by rw [IntKind.wrap_u64]; omega
  have hnw : IntKind.u64.wrap (f.nonce : Int) = (f.nonce : Int) := by rw [IntKind.wrap_u64]; omega
  have i2 : (10 : Int) ≤ (n : Int) := by omega
  have j2 : ¬ n = 2 := by omega
  clear hR hnum hoff hedge hrlt htok hnon hdl hrl hml hd hr hm eF
  go_enter Tryd.func19, Tryd.ntmps19
  go_upto_region 1 with (fail)
  refine wp_world fun W0 HW => ?_
  have HQ0 : Hid (Row W0 w.heap.size (fcells f (.slice da f.data.length dc) (.slice ra f.ranges.length rc) (.slice ma f.mac.length mc)) 27) := by show Row _ _ _ _; rw [HW.out]; exact Row.new' _ _ _ _ _ rfl rfl
  have HB0 : Hid (Below w.heap.size w W0) := by show Below _ _ _; rw [HW.out]; exact (Below.refl _ _).alloc (Nat.le_refl _) _
  have HR0 : Hid (Row W0 g (bcells ([kb, pb] ++ (z 8 ++ z 4))) 5) := HR.out.kept HB0.out HG.out
  have HO0 : Hid (Only g w W0) := Only.of_below HB0.out (Nat.le_refl _)
  have c0 : W0.cell? ⟨w.heap.size, 0, none⟩ = some (.int .i64 3) := by have := HQ0.out.cell 0 _ rfl; rw [hk] at this; exact this
  clear HW HB0 HR
  go_upto_region 16 with (fail)
  clear c0
  have cc := HQ0.out.cell 2 _ rfl
  go_region_with (go_at_call 20; refine (put_in (HR0.out.drawn _) (L' := [kb, pb] ++ (be 8 f.num ++ z 4)) (A := [kb, pb]) (X := z 8) (B := z 4) (by first | rfl | simp only [List.append_assoc]) (by first | rfl | simp only [List.length_append, List.length_cons, List.length_nil, z_len, be_len]) (z_len _) (by decide) f.num HNU.out (by first | rfl | simp only [List.append_assoc])).mono ?_; rintro e W1 ⟨rfl, hr, ho⟩; have HR1 : Hid _ := hr; have HP : Hid _ := ho; clear hr ho)
  clear cc
  have HQ1 : Hid (Row W1 w.heap.size (fcells f (.slice da f.data.length dc) (.slice ra f.ranges.length rc) (.slice ma f.mac.length mc)) 27) := HP.out.row (HQ0.out.drawn _) (show w.heap.size ≠ g by have := HG.out; omega)
  have HO1 : Hid (Only g w W1) := HO0.out.trans (((Only.refl g W0).drawn _).trans HP.out)
  clear HP HR0 HQ0 HO0
  go_wp2
  go_end0
  exact ⟨rfl, HR1.out, HO1.out⟩

set_option maxHeartbeats 4000000 in
theorem lay_5 {w : World} {g n : Nat} {c : List Value} {f : Fr} {da ra ma : Option Addr} {dc rc mc : Nat} {kb pb : BitVec 8} (hF : FrAt w c f da dc ra rc ma mc) (hk : f.kind = 5) (hn : n = 22) (hR : Row w g (bcells ([kb, pb] ++ (z 8 ++ (z 8 ++ z 4)))) 5) :
    Calls Tryd.prog 19 #[.slice (some ⟨g, 0, none⟩) n n, .agg c.toArray] w fun e w' => e = .returned (.tuple #[]) ∧ Row w' g (bcells ([kb, pb] ++ (fieldsB f ++ z 4))) 5 ∧ Only g w w' := by
  obtain ⟨rfl, hd, hr, hm, hnum, hoff, hedge, hrlt, htok, hnon, hdl, hrl, hml⟩ := hF
  have eF : bcells ([kb, pb] ++ (fieldsB f ++ z 4)) = bcells ([kb, pb] ++ (be 8 f.off ++ (be 8 f.edge ++ z 4))) := by simp [fieldsB, hk]
  rw [eF]
  have HR : Hid (Row w g (bcells ([kb, pb] ++ (z 8 ++ (z 8 ++ z 4)))) 5) := hR
  have HNU : Hid _ := hnum
  have HOF : Hid _ := hoff
  have HED : Hid _ := hedge
  have HTK : Hid (f.token < 18446744073709551616) := by show f.token < 18446744073709551616; omega
  have HNO : Hid (f.nonce < 18446744073709551616) := by show f.nonce < 18446744073709551616; omega
  have HDA : Hid (BytesAt w da f.data) := hd
  have HMA : Hid (BytesAt w ma f.mac) := hm
  have HG : Hid (g < w.heap.size) := hR.lt
  have htw : IntKind.u64.wrap (f.token : Int) = (f.token : Int) := by rw [IntKind.wrap_u64]; omega
  have hnw : IntKind.u64.wrap (f.nonce : Int) = (f.nonce : Int) := by rw [IntKind.wrap_u64]; omega
  have i10 : (18 : Int) ≤ (n : Int) := by omega
  have i2 : (10 : Int) ≤ (n : Int) := by omega
  have j10 : ¬ n = 10 := by omega
  have j2 : ¬ n = 2 := by omega
  clear hR hnum hoff hedge hrlt htok hnon hdl hrl hml hd hr hm eF
  go_enter Tryd.func19, Tryd.ntmps19
  go_upto_region 1 with (fail)
  refine wp_world fun W0 HW => ?_
  have HQ0 : Hid (Row W0 w.heap.size (fcells f (.slice da f.data.length dc) (.slice ra f.ranges.length rc) (.slice ma f.mac.length mc)) 27) := by show Row _ _ _ _; rw [HW.out]; exact Row.new' _ _ _ _ _ rfl rfl
  have HB0 : Hid (Below w.heap.size w W0) := by show Below _ _ _; rw [HW.out]; exact (Below.refl _ _).alloc (Nat.le_refl _) _
  have HR0 : Hid (Row W0 g (bcells ([kb, pb] ++ (z 8 ++ (z 8 ++ z 4)))) 5) := HR.out.kept HB0.out HG.out
  have HO0 : Hid (Only g w W0) := Only.of_below HB0.out (Nat.le_refl _)
  have c0 : W0.cell? ⟨w.heap.size, 0, none⟩ = some (.int .i64 5) := by have := HQ0.out.cell 0 _ rfl; rw [hk] at this; exact this
  clear HW HB0 HR
  go_upto_region 25 with (fail)
  clear c0
  have cc := HQ0.out.cell 3 _ rfl
  go_region_with (go_at_call 20; refine (put_in (HR0.out.drawn _) (L' := [kb, pb] ++ (be 8 f.off ++ (z 8 ++ z 4))) (A := [kb, pb]) (X := z 8) (B := (z 8 ++ z 4)) (by first | rfl | simp only [List.append_assoc]) (by first | rfl | simp only [List.length_append, List.length_cons, List.length_nil, z_len, be_len]) (z_len _) (by decide) f.off HOF.out (by first | rfl | simp only [List.append_assoc])).mono ?_; rintro e W1 ⟨rfl, hr, ho⟩; have HR1 : Hid _ := hr; have HP : Hid _ := ho; clear hr ho)
  clear cc
  have HQ1 : Hid (Row W1 w.heap.size (fcells f (.slice da f.data.length dc) (.slice ra f.ranges.length rc) (.slice ma f.mac.length mc)) 27) := HP.out.row (HQ0.out.drawn _) (show w.heap.size ≠ g by have := HG.out; omega)
  have HO1 : Hid (Only g w W1) := HO0.out.trans (((Only.refl g W0).drawn _).trans HP.out)
  clear HP HR0 HQ0 HO0
  go_upto_region 26 with (fail)
  have cc := HQ1.out.cell 4 _ rfl
  go_region_with (go_at_call 20; refine (put_in (HR1.out.drawn _) (L' := [kb, pb] ++ (be 8 f.off ++ (be 8 f.edge ++ z 4))) (A := ([kb, pb] ++ be 8 f.off)) (X := z 8) (B := z 4) (by first | rfl | simp only [List.append_assoc]) (by first | rfl | simp only [List.length_append, List.length_cons, List.length_nil, z_len, be_len]) (z_len _) (by decide) f.edge HED.out (by first | rfl | simp only [List.append_assoc])).mono ?_; rintro e W2 ⟨rfl, hr, ho⟩; have HR2 : Hid _ := hr; have HP : Hid _ := ho; clear hr ho)
  clear cc
  have HQ2 : Hid (Row W2 w.heap.size (fcells f (.slice da f.data.length dc) (.slice ra f.ranges.length rc) (.slice ma f.mac.length mc)) 27) := HP.out.row (HQ1.out.drawn _) (show w.heap.size ≠ g by have := HG.out; omega)
  have HO2 : Hid (Only g w W2) := HO1.out.trans (((Only.refl g W1).drawn _).trans HP.out)
  clear HP HR1 HQ1 HO1
  go_wp2
  go_end0
  exact ⟨rfl, HR2.out, HO2.out⟩
end Go.Proofs.YtgkfnbbgohdalaaDoor
