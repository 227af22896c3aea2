import Derived.Test.YtgkfnbbgohdalaaDoorLay0
namespace Go.Proofs.YtgkfnbbgohdalaaDoor
open Go.RowKit
set_option maxRecDepth 100000

set_option maxHeartbeats 4000000 in
theorem lay_1 {w : World} {g n : Nat} {c : List Value} {f : Fr} {da ra ma : Option Addr} {dc rc mc : Nat} {kb pb : BitVec 8} (hF : FrAt w c f da dc ra rc ma mc) (hk : f.kind = 1) (h1 : 1 ≤ f.data.length) (h2 : f.data.length ≤ 1024) (hda : ∀ ad, da = some ad → ad.block ≠ g) (hn : n = 24 + f.data.length) (hR : Row w g (bcells ([kb, pb] ++ (z 8 ++ (z 8 ++ (z 2 ++ (z f.data.length ++ z 4)))))) 5) :
    Calls Tryd.prog 19 #[.slice (some ⟨g, 0, none⟩) n n, .agg c.toArray] w fun e w' => e = .returned (.tuple #[]) ∧ Row w' g (bcells ([kb, pb] ++ (fieldsB f ++ z 4))) 5 ∧ Only g w w' := by
  obtain ⟨rfl, hd, hr, hm, hnum, hoff, hedge, hrlt, htok, hnon, hdl, hrl, hml⟩ := hF
  have eF : bcells ([kb, pb] ++ (fieldsB f ++ z 4)) = bcells ([kb, pb] ++ (be 8 f.num ++ (be 8 f.off ++ (be 2 f.data.length ++ (f.data ++ z 4))))) := by simp [fieldsB, hk]
  rw [eF]
  have HR : Hid (Row w g (bcells ([kb, pb] ++ (z 8 ++ (z 8 ++ (z 2 ++ (z f.data.length ++ z 4)))))) 5) := hR
  have HNU : Hid _ := hnum
  have HOF : Hid _ := hoff
  have HED : Hid _ := hedge
  have HTK : Hid (f.token < 18446744073709551616) := by show f.token < 18446744073709551616; omega
  have HNO : Hid (f.nonce < 18446744073709551616) := by show f.nonce < 18446744073709551616; omega
  have HDA : Hid (BytesAt w da f.data) := hd
  have HMA : Hid (BytesAt w ma f.mac) := hm
  have HG : Hid (g < w.heap.size) := hR.lt
  have htw : IntKind.u64.wrap (f.token : Int) = (f.token : Int) := by rw [IntKind.wrap_u64]; omega
  have hnw : IntKind.u64.wrap (f.nonce : Int) = (f.nonce : Int) := by rw [IntKind.wrap_u64]; omega
  obtain ⟨dl, hdl2⟩ : ∃ dl, dl = f.data.length := ⟨_, rfl⟩
  have hlw : IntKind.u64.wrap (dl : Int) = (dl : Int) := by rw [IntKind.wrap_u64]; omega
  have HDL : Hid _ := hdl2
  have HDN : Hid (∀ ad, da = some ad → ad.block ≠ g) := hda
  have kn : (24 : Int) ≤ (n : Int) := by omega
  have HNN : Hid (n = 24 + dl) := by show n = 24 + dl; omega
  have HD1 : Hid (1 ≤ dl ∧ dl ≤ 1024) := by show 1 ≤ dl ∧ dl ≤ 1024; omega
  have i10 : (18 : Int) ≤ (n : Int) := by omega
  have i18 : (20 : Int) ≤ (n : Int) := by omega
  have i2 : (10 : Int) ≤ (n : Int) := by omega
  have i20 : (20 : Int) ≤ (n : Int) := by omega
  have j10 : ¬ n = 10 := by omega
  have j18 : ¬ n = 18 := by omega
  have j2 : ¬ n = 2 := by omega
  have j20 : ¬ n = 20 := by omega
  clear hR hnum hoff hedge hrlt htok hnon hdl hrl hml hd hr hm eF hda h1 h2 hdl2 hn
  have hcells : fcells f (.slice da f.data.length dc) (.slice ra f.ranges.length rc) (.slice ma f.mac.length mc) = fcells f (.slice da dl dc) (.slice ra f.ranges.length rc) (.slice ma f.mac.length mc) := by rw [HDL.out]
  rw [hcells]
  clear hcells
  go_enter Tryd.func19, Tryd.ntmps19
  go_upto_region 1 with (fail)
  refine wp_world fun W0 HW => ?_
  have HQ0 : Hid (Row W0 w.heap.size (fcells f (.slice da dl dc) (.slice ra f.ranges.length rc) (.slice ma f.mac.length mc)) 27) := by show Row _ _ _ _; rw [HW.out]; exact Row.new' _ _ _ _ _ rfl rfl
  have HB0 : Hid (Below w.heap.size w W0) := by show Below _ _ _; rw [HW.out]; exact (Below.refl _ _).alloc (Nat.le_refl _) _
  have HR0 : Hid (Row W0 g (bcells ([kb, pb] ++ (z 8 ++ (z 8 ++ (z 2 ++ (z f.data.length ++ z 4)))))) 5) := HR.out.kept HB0.out HG.out
  have HO0 : Hid (Only g w W0) := Only.of_below HB0.out (Nat.le_refl _)
  have c0 : W0.cell? ⟨w.heap.size, 0, none⟩ = some (.int .i64 1) := by have := HQ0.out.cell 0 _ rfl; rw [hk] at this; exact this
  clear HW HB0 HR
  go_upto_region 13 with (fail)
  clear c0
  have cc := HQ0.out.cell 5 _ rfl
  go_region_with (go_at_call 20; refine (put_in (HR0.out.drawn _) (L' := [kb, pb] ++ (z 8 ++ (z 8 ++ (be 2 f.data.length ++ (z f.data.length ++ z 4))))) (A := (([kb, pb] ++ z 8) ++ z 8)) (X := z 2) (B := (z f.data.length ++ z 4)) (by first | rfl | simp only [List.append_assoc]) (by first | rfl | simp only [List.length_append, List.length_cons, List.length_nil, z_len, be_len]) (z_len _) (by decide) dl (by have := HD1.out; omega) (by rw [HDL.out]; first | rfl | simp only [List.append_assoc])).mono ?_; rintro e W1 ⟨rfl, hr, ho⟩; have HR1 : Hid _ := hr; have HP : Hid _ := ho; clear hr ho)
  clear cc
  have HQ1 : Hid (Row W1 w.heap.size (fcells f (.slice da dl dc) (.slice ra f.ranges.length rc) (.slice ma f.mac.length mc)) 27) := HP.out.row (HQ0.out.drawn _) (show w.heap.size ≠ g by have := HG.out; omega)
  have HO1 : Hid (Only g w W1) := HO0.out.trans (((Only.refl g W0).drawn _).trans HP.out)
  clear HP HR0 HQ0 HO0
  go_upto_region 14 with (fail)
  obtain ⟨gd, od, hda⟩ := HDA.out.addr (by have h1 := HD1.out; have h2 := HDL.out; omega)
  subst hda
  have cc := HQ1.out.cell 5 _ rfl
  have HSRC : BytesAt W1.drew (some ⟨gd, od, none⟩) f.data := HDA.out.only HDN.out (HO1.out.drawn _)
  have HDST : Row W1.drew g (bcells ([kb, pb] ++ (z 8 ++ (z 8 ++ (be 2 f.data.length ++ (z f.data.length ++ z 4)))))) 5 := HR1.out.drawn _
  have hrun := run_copy_row (P := Tryd.prog) W1.drew 23 23 3 5 g 20 (n - 20) (n - 20) ⟨gd, od, none⟩ dl dc (bcells ([kb, pb] ++ (z 8 ++ (z 8 ++ (be 2 f.data.length ++ (z f.data.length ++ z 4)))))).toArray 5 (bcells f.data) Tryd.underlying23 (by kernel_rfl) HDST.at_ (by rw [bcells_len, ← HDL.out]; have h1 := HNN.out; simp only [Nat.min_def]; split <;> omega) (fun j v hv => by
    have hj : j < f.data.length := by have := (List.getElem?_eq_some_iff.1 hv).1; rwa [bcells_len] at this
    obtain ⟨g2, o2, e2, c2⟩ := HSRC j hj
    cases e2
    rw [bcells_get hj] at hv
    rw [Addr.add_mid, c2]
    exact hv) (by rw [bcells_len, ← HDL.out]; simp [bcells_len, z_len, be_len]; omega) (bcells_one _)
  have hlist : (bcells ([kb, pb] ++ (z 8 ++ (z 8 ++ (be 2 f.data.length ++ (z f.data.length ++ z 4)))))).toArray.toList.take 20 ++ bcells f.data ++ (bcells ([kb, pb] ++ (z 8 ++ (z 8 ++ (be 2 f.data.length ++ (z f.data.length ++ z 4)))))).toArray.toList.drop (20 + (bcells f.data).length) = bcells ([kb, pb] ++ (z 8 ++ (z 8 ++ (be 2 f.data.length ++ (f.data ++ z 4))))) := by
    rw [List.toList_toArray, bcells_len, show [kb, pb] ++ (z 8 ++ (z 8 ++ (be 2 f.data.length ++ (z f.data.length ++ z 4)))) = ((([kb, pb] ++ z 8) ++ z 8) ++ be 2 f.data.length) ++ (z f.data.length ++ z 4) by first | rfl | simp only [List.append_assoc], show [kb, pb] ++ (z 8 ++ (z 8 ++ (be 2 f.data.length ++ (f.data ++ z 4)))) = ((([kb, pb] ++ z 8) ++ z 8) ++ be 2 f.data.length) ++ (f.data ++ z 4) by first | rfl | simp only [List.append_assoc], bcells_over (A := ((([kb, pb] ++ z 8) ++ z 8) ++ be 2 f.data.length)) (X := z f.data.length) (B := z 4) (Y := f.data) (by first | rfl | simp only [List.length_append, List.length_cons, List.length_nil, z_len, be_len]) (by rw [z_len])]
  rw [hlist] at hrun
  obtain ⟨W2, hc⟩ : ∃ wc, wc = W1.drew.setRow g (bcells ([kb, pb] ++ (z 8 ++ (z 8 ++ (be 2 f.data.length ++ (f.data ++ z 4)))))).toArray := ⟨_, rfl⟩
  rw [← hc, bcells_len, HDL.out.symm] at hrun
  have HR2 : Hid (Row W2 g (bcells ([kb, pb] ++ (z 8 ++ (z 8 ++ (be 2 f.data.length ++ (f.data ++ z 4)))))) 5) := by show Row _ _ _ _; rw [hc]; exact HDST.row _
  have HQ2 : Hid (Row W2 w.heap.size (fcells f (.slice (some ⟨gd, od, none⟩) dl dc) (.slice ra f.ranges.length rc) (.slice ma f.mac.length mc)) 27) := by show Row _ _ _ _; rw [hc]; exact (HQ1.out.drawn _).rowOther (show w.heap.size ≠ g by have := HG.out; omega) _
  have HO2 : Hid (Only g w W2) := by show Only _ _ _; rw [hc]; exact (HO1.out.drawn _).setRow _
  clear HR1 HQ1 HO1 hc hlist HSRC HDST
  go_region
  clear hrun cc
  go_upto_region 15 with (fail)
  have cc := HQ2.out.cell 3 _ rfl
  go_region_with (go_at_call 20; refine (put_in (HR2.out.drawn _) (L' := [kb, pb] ++ (z 8 ++ (be 8 f.off ++ (be 2 f.data.length ++ (f.data ++ z 4))))) (A := ([kb, pb] ++ z 8)) (X := z 8) (B := (be 2 f.data.length ++ (f.data ++ z 4))) (by first | rfl | simp only [List.append_assoc]) (by first | rfl | simp only [List.length_append, List.length_cons, List.length_nil, z_len, be_len]) (z_len _) (by decide) f.off HOF.out (by first | rfl | simp only [List.append_assoc])).mono ?_; rintro e W3 ⟨rfl, hr, ho⟩; have HR3 : Hid _ := hr; have HP : Hid _ := ho; clear hr ho)
  clear cc
  have HQ3 : Hid (Row W3 w.heap.size (fcells f (.slice (some ⟨gd, od, none⟩) dl dc) (.slice ra f.ranges.length rc) (.slice ma f.mac.length mc)) 27) := HP.out.row (HQ2.out.drawn _) (show w.heap.size ≠ g by have := HG.out; omega)
  have HO3 : Hid (Only g w W3) := HO2.out.trans (((Only.refl g W2).drawn _).trans HP.out)
  clear HP HR2 HQ2 HO2
  go_upto_region 16 with (fail)
  have cc := HQ3.out.cell 2 _ rfl
  go_region_with (go_at_call 20; refine (put_in (HR3.out.drawn _) (L' := [kb, pb] ++ (be 8 f.num ++ (be 8 f.off ++ (be 2 f.data.length ++ (f.data ++ z 4))))) (A := [kb, pb]) (X := z 8) (B := (be 8 f.off ++ (be 2 f.data.length ++ (f.data ++ z 4)))) (by first | rfl | simp only [List.append_assoc]) (by first | rfl | simp only [List.length_append, List.length_cons, List.length_nil, z_len, be_len]) (z_len _) (by decide) f.num HNU.out (by first | rfl | simp only [List.append_assoc])).mono ?_; rintro e W4 ⟨rfl, hr, ho⟩; have HR4 : Hid _ := hr; have HP : Hid _ := ho; clear hr ho)
  clear cc
  have HQ4 : Hid (Row W4 w.heap.size (fcells f (.slice (some ⟨gd, od, none⟩) dl dc) (.slice ra f.ranges.length rc) (.slice ma f.mac.length mc)) 27) := HP.out.row (HQ3.out.drawn _) (show w.heap.size ≠ g by have := HG.out; omega)
  have HO4 : Hid (Only g w W4) := HO3.out.trans (((Only.refl g W3).drawn _).trans HP.out)
  clear HP HR3 HQ3 HO3
  go_wp2
  go_end0
  exact ⟨rfl, HR4.out, HO4.out⟩
end Go.Proofs.YtgkfnbbgohdalaaDoor
