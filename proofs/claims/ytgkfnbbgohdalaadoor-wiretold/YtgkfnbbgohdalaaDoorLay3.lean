import Derived.Test.YtgkfnbbgohdalaaDoorLay0
namespace Go.Proofs.YtgkfnbbgohdalaaDoor
open Go.RowKit
set_option maxRecDepth 100000

set_option maxHeartbeats 4000000 in
theorem lay_8 {w : World} {g n : Nat} {c : List Value} {f : Fr} {da ra ma : Option Addr} {dc rc mc : Nat} {kb pb : BitVec 8} (hF : FrAt w c f da dc ra rc ma mc) (hk : f.kind = 8) (hm8 : f.mac.length = 8) (hma : ∀ ad, ma = some ad → ad.block ≠ g) (hn : n = 18) (hR : Row w g (bcells ([kb, pb] ++ (z 4 ++ (z 8 ++ z 4)))) 5) :
    Calls Tryd.prog 19 #[.slice (some ⟨g, 0, none⟩) n n, .agg c.toArray] w fun e w' => e = .returned (.tuple #[]) ∧ Row w' g (bcells ([kb, pb] ++ (fieldsB f ++ z 4))) 5 ∧ Only g w w' := by
  obtain ⟨rfl, hd, hr, hm, hnum, hoff, hedge, hrlt, htok, hnon, hdl, hrl, hml⟩ := hF
  have eF : bcells ([kb, pb] ++ (fieldsB f ++ z 4)) = bcells ([kb, pb] ++ (be 4 f.nonce ++ (f.mac ++ z 4))) := by simp [fieldsB, hk]
  rw [eF]
  have HR : Hid (Row w g (bcells ([kb, pb] ++ (z 4 ++ (z 8 ++ z 4)))) 5) := hR
  have HNU : Hid _ := hnum
  have HOF : Hid _ := hoff
  have HED : Hid _ := hedge
  have HTK : Hid (f.token < 18446744073709551616) := by show f.token < 18446744073709551616; omega
  have HNO : Hid (f.nonce < 18446744073709551616) := by show f.nonce < 18446744073709551616; omega
  have HDA : Hid (BytesAt w da f.data) := hd
  have HMA : Hid (BytesAt w ma f.mac) := hm
  have HG : Hid (g < w.heap.size) := hR.lt
  have htw : IntKind.u64.wrap (f.token : Int) = (f.token : Int) := by rw [IntKind.wrap_u64]; omega
  have hnw : IntKind.u64.wrap (f.nonce : Int) = (f.nonce : Int) := by rw [IntKind.wrap_u64]; omega
  have HDN : Hid (∀ ad, ma = some ad → ad.block ≠ g) := hma
  have HM8 : Hid _ := hm8
  have i2 : (6 : Int) ≤ (n : Int) := by omega
  have i6 : (14 : Int) ≤ (n : Int) := by omega
  have j2 : ¬ n = 2 := by omega
  have j6 : ¬ n = 6 := by omega
  clear hR hnum hoff hedge hrlt htok hnon hdl hrl hml hd hr hm eF hma hm8 hn
  go_enter Tryd.func19, Tryd.ntmps19
  go_upto_region 1 with (fail)
  refine wp_world fun W0 HW => ?_
  have HQ0 : Hid (Row W0 w.heap.size (fcells f (.slice da f.data.length dc) (.slice ra f.ranges.length rc) (.slice ma f.mac.length mc)) 27) := by show Row _ _ _ _; rw [HW.out]; exact Row.new' _ _ _ _ _ rfl rfl
  have HB0 : Hid (Below w.heap.size w W0) := by show Below _ _ _; rw [HW.out]; exact (Below.refl _ _).alloc (Nat.le_refl _) _
  have HR0 : Hid (Row W0 g (bcells ([kb, pb] ++ (z 4 ++ (z 8 ++ z 4)))) 5) := HR.out.kept HB0.out HG.out
  have HO0 : Hid (Only g w W0) := Only.of_below HB0.out (Nat.le_refl _)
  have c0 : W0.cell? ⟨w.heap.size, 0, none⟩ = some (.int .i64 8) := by have := HQ0.out.cell 0 _ rfl; rw [hk] at this; exact this
  clear HW HB0 HR
  go_upto_region 30 with (fail)
  clear c0
  have cc := HQ0.out.cell 8 _ rfl
  go_region_with (go_at_call 20; refine (put_in (HR0.out.drawn _) (L' := [kb, pb] ++ (be 4 f.nonce ++ (z 8 ++ z 4))) (A := [kb, pb]) (X := z 4) (B := (z 8 ++ z 4)) (by first | rfl | simp only [List.append_assoc]) (by first | rfl | simp only [List.length_append, List.length_cons, List.length_nil, z_len, be_len]) (z_len _) (by decide) f.nonce HNO.out (by first | rfl | simp only [List.append_assoc])).mono ?_; rintro e W1 ⟨rfl, hr, ho⟩; have HR1 : Hid _ := hr; have HP : Hid _ := ho; clear hr ho)
  clear cc
  have HQ1 : Hid (Row W1 w.heap.size (fcells f (.slice da f.data.length dc) (.slice ra f.ranges.length rc) (.slice ma f.mac.length mc)) 27) := HP.out.row (HQ0.out.drawn _) (show w.heap.size ≠ g by have := HG.out; omega)
  have HO1 : Hid (Only g w W1) := HO0.out.trans (((Only.refl g W0).drawn _).trans HP.out)
  clear HP HR0 HQ0 HO0
  go_upto_region 31 with (fail)
  obtain ⟨gd, od, hma⟩ := HMA.out.addr (by have h2 := HM8.out; omega)
  subst hma
  have cc := HQ1.out.cell 9 _ rfl
  have HSRC : BytesAt W1.drew (some ⟨gd, od, none⟩) f.mac := HMA.out.only HDN.out (HO1.out.drawn _)
  have HDST : Row W1.drew g (bcells ([kb, pb] ++ (be 4 f.nonce ++ (z 8 ++ z 4)))) 5 := HR1.out.drawn _
  have hrun := run_copy_row (P := Tryd.prog) W1.drew 23 23 3 5 g 6 8 (n - 6) ⟨gd, od, none⟩ 8 mc (bcells ([kb, pb] ++ (be 4 f.nonce ++ (z 8 ++ z 4)))).toArray 5 (bcells f.mac) Tryd.underlying23 (by kernel_rfl) HDST.at_ (by rw [bcells_len, HM8.out]; rfl) (fun j v hv => by
    have hj : j < f.mac.length := by have := (List.getElem?_eq_some_iff.1 hv).1; rwa [bcells_len] at this
    obtain ⟨g2, o2, e2, c2⟩ := HSRC j hj
    cases e2
    rw [bcells_get hj] at hv
    rw [Addr.add_mid, c2]
    exact hv) (by rw [bcells_len, HM8.out]; show 14 ≤ 18; decide) (bcells_one _)
  have hlist : (bcells ([kb, pb] ++ (be 4 f.nonce ++ (z 8 ++ z 4)))).toArray.toList.take 6 ++ bcells f.mac ++ (bcells ([kb, pb] ++ (be 4 f.nonce ++ (z 8 ++ z 4)))).toArray.toList.drop (6 + (bcells f.mac).length) = bcells ([kb, pb] ++ (be 4 f.nonce ++ (f.mac ++ z 4))) := by
    rw [List.toList_toArray, bcells_len, show [kb, pb] ++ (be 4 f.nonce ++ (z 8 ++ z 4)) = ([kb, pb] ++ be 4 f.nonce) ++ (z 8 ++ z 4) by first | rfl | simp only [List.append_assoc], show [kb, pb] ++ (be 4 f.nonce ++ (f.mac ++ z 4)) = ([kb, pb] ++ be 4 f.nonce) ++ (f.mac ++ z 4) by first | rfl | simp only [List.append_assoc], bcells_over (A := ([kb, pb] ++ be 4 f.nonce)) (X := z 8) (B := z 4) (Y := f.mac) (by first | rfl | simp only [List.length_append, List.length_cons, List.length_nil, z_len, be_len]) (by rw [z_len]; exact HM8.out.symm)]
  rw [hlist, bcells_len, HM8.out] at hrun
  obtain ⟨W2, hc⟩ : ∃ wc, wc = W1.drew.setRow g (bcells ([kb, pb] ++ (be 4 f.nonce ++ (f.mac ++ z 4)))).toArray := ⟨_, rfl⟩
  rw [← hc] at hrun
  have HR2 : Hid (Row W2 g (bcells ([kb, pb] ++ (be 4 f.nonce ++ (f.mac ++ z 4)))) 5) := by show Row _ _ _ _; rw [hc]; exact HDST.row _
  have HQ2 : Hid (Row W2 w.heap.size (fcells f (.slice da f.data.length dc) (.slice ra f.ranges.length rc) (.slice (some ⟨gd, od, none⟩) f.mac.length mc)) 27) := by show Row _ _ _ _; rw [hc]; exact (HQ1.out.drawn _).rowOther (show w.heap.size ≠ g by have := HG.out; omega) _
  have HO2 : Hid (Only g w W2) := by show Only _ _ _; rw [hc]; exact (HO1.out.drawn _).setRow _
  clear HR1 HQ1 HO1 hc hlist HSRC HDST
  rw [HM8.out] at cc
  go_region
  clear hrun cc
  go_wp2
  go_end0
  exact ⟨rfl, HR2.out, HO2.out⟩

set_option maxHeartbeats 4000000 in
theorem lay_9 {w : World} {g n : Nat} {c : List Value} {f : Fr} {da ra ma : Option Addr} {dc rc mc : Nat} {kb pb : BitVec 8} (hF : FrAt w c f da dc ra rc ma mc) (hk : f.kind = 9) (hm8 : f.mac.length = 20) (hma : ∀ ad, ma = some ad → ad.block ≠ g) (hn : n = 26) (hR : Row w g (bcells ([kb, pb] ++ (z 20 ++ z 4))) 5) :
    Calls Tryd.prog 19 #[.slice (some ⟨g, 0, none⟩) n n, .agg c.toArray] w fun e w' => e = .returned (.tuple #[]) ∧ Row w' g (bcells ([kb, pb] ++ (fieldsB f ++ z 4))) 5 ∧ Only g w w' := by
  obtain ⟨rfl, hd, hr, hm, hnum, hoff, hedge, hrlt, htok, hnon, hdl, hrl, hml⟩ := hF
  have eF : bcells ([kb, pb] ++ (fieldsB f ++ z 4)) = bcells ([kb, pb] ++ (f.mac ++ z 4)) := by simp [fieldsB, hk]
  rw [eF]
  have HR : Hid (Row w g (bcells ([kb, pb] ++ (z 20 ++ z 4))) 5) := hR
  have HNU : Hid _ := hnum
  have HOF : Hid _ := hoff
  have HED : Hid _ := hedge
  have HTK : Hid (f.token < 18446744073709551616) := by show f.token < 18446744073709551616; omega
  have HNO : Hid (f.nonce < 18446744073709551616) := by show f.nonce < 18446744073709551616; omega
  have HDA : Hid (BytesAt w da f.data) := hd
  have HMA : Hid (BytesAt w ma f.mac) := hm
  have HG : Hid (g < w.heap.size) := hR.lt
  have htw : IntKind.u64.wrap (f.token : Int) = (f.token : Int) := by rw [IntKind.wrap_u64]; omega
  have hnw : IntKind.u64.wrap (f.nonce : Int) = (f.nonce : Int) := by rw [IntKind.wrap_u64]; omega
  have HDN : Hid (∀ ad, ma = some ad → ad.block ≠ g) := hma
  have HM8 : Hid _ := hm8
  have i2 : (22 : Int) ≤ (n : Int) := by omega
  have j2 : ¬ n = 2 := by omega
  clear hR hnum hoff hedge hrlt htok hnon hdl hrl hml hd hr hm eF hma hm8 hn
  go_enter Tryd.func19, Tryd.ntmps19
  go_upto_region 1 with (fail)
  refine wp_world fun W0 HW => ?_
  have HQ0 : Hid (Row W0 w.heap.size (fcells f (.slice da f.data.length dc) (.slice ra f.ranges.length rc) (.slice ma f.mac.length mc)) 27) := by show Row _ _ _ _; rw [HW.out]; exact Row.new' _ _ _ _ _ rfl rfl
  have HB0 : Hid (Below w.heap.size w W0) := by show Below _ _ _; rw [HW.out]; exact (Below.refl _ _).alloc (Nat.le_refl _) _
  have HR0 : Hid (Row W0 g (bcells ([kb, pb] ++ (z 20 ++ z 4))) 5) := HR.out.kept HB0.out HG.out
  have HO0 : Hid (Only g w W0) := Only.of_below HB0.out (Nat.le_refl _)
  have c0 : W0.cell? ⟨w.heap.size, 0, none⟩ = some (.int .i64 9) := by have := HQ0.out.cell 0 _ rfl; rw [hk] at this; exact this
  clear HW HB0 HR
  go_upto_region 32 with (fail)
  clear c0
  obtain ⟨gd, od, hma⟩ := HMA.out.addr (by have h2 := HM8.out; omega)
  subst hma
  have cc := HQ0.out.cell 9 _ rfl
  have HSRC : BytesAt W0.drew (some ⟨gd, od, none⟩) f.mac := HMA.out.only HDN.out (HO0.out.drawn _)
  have HDST : Row W0.drew g (bcells ([kb, pb] ++ (z 20 ++ z 4))) 5 := HR0.out.drawn _
  have hrun := run_copy_row (P := Tryd.prog) W0.drew 23 23 3 5 g 2 20 (n - 2) ⟨gd, od, none⟩ 20 mc (bcells ([kb, pb] ++ (z 20 ++ z 4))).toArray 5 (bcells f.mac) Tryd.underlying23 (by kernel_rfl) HDST.at_ (by rw [bcells_len, HM8.out]; rfl) (fun j v hv => by
    have hj : j < f.mac.length := by have := (List.getElem?_eq_some_iff.1 hv).1; rwa [bcells_len] at this
    obtain ⟨g2, o2, e2, c2⟩ := HSRC j hj
    cases e2
    rw [bcells_get hj] at hv
    rw [Addr.add_mid, c2]
    exact hv) (by rw [bcells_len, HM8.out]; show 22 ≤ 26; decide) (bcells_one _)
  have hlist : (bcells ([kb, pb] ++ (z 20 ++ z 4))).toArray.toList.take 2 ++ bcells f.mac ++ (bcells ([kb, pb] ++ (z 20 ++ z 4))).toArray.toList.drop (2 + (bcells f.mac).length) = bcells ([kb, pb] ++ (f.mac ++ z 4)) := by
    rw [List.toList_toArray, bcells_len, show [kb, pb] ++ (z 20 ++ z 4) = [kb, pb] ++ (z 20 ++ z 4) by first | rfl | simp only [List.append_assoc], show [kb, pb] ++ (f.mac ++ z 4) = [kb, pb] ++ (f.mac ++ z 4) by first | rfl | simp only [List.append_assoc], bcells_over (A := [kb, pb]) (X := z 20) (B := z 4) (Y := f.mac) (by first | rfl | simp only [List.length_append, List.length_cons, List.length_nil, z_len, be_len]) (by rw [z_len]; exact HM8.out.symm)]
  rw [hlist, bcells_len, HM8.out] at hrun
  obtain ⟨W1, hc⟩ : ∃ wc, wc = W0.drew.setRow g (bcells ([kb, pb] ++ (f.mac ++ z 4))).toArray := ⟨_, rfl⟩
  rw [← hc] at hrun
  have HR1 : Hid (Row W1 g (bcells ([kb, pb] ++ (f.mac ++ z 4))) 5) := by show Row _ _ _ _; rw [hc]; exact HDST.row _
  have HQ1 : Hid (Row W1 w.heap.size (fcells f (.slice da f.data.length dc) (.slice ra f.ranges.length rc) (.slice (some ⟨gd, od, none⟩) f.mac.length mc)) 27) := by show Row _ _ _ _; rw [hc]; exact (HQ0.out.drawn _).rowOther (show w.heap.size ≠ g by have := HG.out; omega) _
  have HO1 : Hid (Only g w W1) := by show Only _ _ _; rw [hc]; exact (HO0.out.drawn _).setRow _
  clear HR0 HQ0 HO0 hc hlist HSRC HDST
  rw [HM8.out] at cc
  go_region
  clear hrun cc
  go_wp2
  go_end0
  exact ⟨rfl, HR1.out, HO1.out⟩
end Go.Proofs.YtgkfnbbgohdalaaDoor
