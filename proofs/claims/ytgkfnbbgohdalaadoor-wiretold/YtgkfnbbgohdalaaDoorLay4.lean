import Derived.Test.YtgkfnbbgohdalaaDoorLay0
namespace Go.Proofs.YtgkfnbbgohdalaaDoor
open Go.RowKit
set_option maxRecDepth 100000

theorem rangesB_len (l : List (Nat × Nat)) : (rangesB l).length = 16 * l.length := by
  induction l with
  | nil => rfl
  | cons r l ih => rw [show rangesB (r :: l) = be 8 r.1 ++ be 8 r.2 ++ rangesB l from by simp [rangesB], List.length_append, List.length_append, be_len, be_len, ih, List.length_cons]; omega
theorem rangesB_snoc (l : List (Nat × Nat)) (k : Nat) (h : k < l.length) : rangesB (l.take (k + 1)) = rangesB (l.take k) ++ (be 8 (l[k]).1 ++ be 8 (l[k]).2) := by
  unfold rangesB
  rw [List.take_succ_eq_append_getElem h, List.map_append, List.flatten_append]
  simp only [List.map_cons, List.map_nil, List.flatten_cons, List.flatten_nil, List.append_nil]
/-- The row while k ranges are laid. -/
def rowL (kb pb cb : BitVec 8) (l : List (Nat × Nat)) (k : Nat) : List (BitVec 8) := [kb, pb, cb] ++ (rangesB (l.take k) ++ (z (16 * (l.length - k)) ++ z 4))
theorem rowL_in (kb pb cb : BitVec 8) (l : List (Nat × Nat)) (k : Nat) (h : k < l.length) : rowL kb pb cb l k = ([kb, pb, cb] ++ rangesB (l.take k)) ++ (z 8 ++ (z 8 ++ (z (16 * (l.length - (k + 1))) ++ z 4))) := by
  unfold rowL
  rw [show 16 * (l.length - k) = 8 + (8 + 16 * (l.length - (k + 1))) by omega, z_add, z_add]
  simp only [List.append_assoc]
theorem rowL_front (kb pb cb : BitVec 8) (l : List (Nat × Nat)) (k : Nat) (h : k < l.length) : ([kb, pb, cb] ++ rangesB (l.take k)).length = 3 + 16 * k := by
  rw [List.length_append, rangesB_len, List.length_take]; simp; omega
theorem rowL_next (kb pb cb : BitVec 8) (l : List (Nat × Nat)) (k : Nat) (h : k < l.length) : (([kb, pb, cb] ++ rangesB (l.take k)) ++ be 8 (l[k]).1) ++ (be 8 (l[k]).2 ++ (z (16 * (l.length - (k + 1))) ++ z 4)) = rowL kb pb cb l (k + 1) := by
  unfold rowL
  rw [rangesB_snoc _ _ h]
  simp only [List.append_assoc]
theorem RangesAt.pair {w : World} {a : Option Addr} {l : List (Nat × Nat)} (h : RangesAt w a l) (k : Nat) (hk : k < l.length) : ∃ g o, a = some ⟨g, o, none⟩ ∧ w.cell? ⟨g, o + k * 2, none⟩ = some (.int .u64 ((l[k]).1 : Int)) ∧ w.cell? ⟨g, o + k * 2 + 1, none⟩ = some (.int .u64 ((l[k]).2 : Int)) := h k hk

set_option maxHeartbeats 4000000 in
theorem lay_4 {w : World} {g n : Nat} {c : List Value} {f : Fr} {da ra ma : Option Addr} {dc rc mc : Nat} {kb pb : BitVec 8} (hF : FrAt w c f da dc ra rc ma mc) (hk : f.kind = 4) (h8 : f.ranges.length ≤ 8) (hra : ∀ ad, ra = some ad → ad.block ≠ g) (hn : n = 7 + 16 * f.ranges.length) (hR : Row w g (bcells ([kb, pb] ++ (z 1 ++ (z (16 * f.ranges.length) ++ z 4)))) 5) :
    Calls Tryd.prog 19 #[.slice (some ⟨g, 0, none⟩) n n, .agg c.toArray] w fun e w' => e = .returned (.tuple #[]) ∧ Row w' g (bcells ([kb, pb] ++ (fieldsB f ++ z 4))) 5 ∧ Only g w w' := by
  obtain ⟨rfl, hd, hr, hm, hnum, hoff, hedge, hrlt, htok, hnon, hdl, hrl, hml⟩ := hF
  obtain ⟨cb, hcb⟩ : ∃ cb, cb = BitVec.ofNat 8 f.ranges.length := ⟨_, rfl⟩
  have eF : bcells ([kb, pb] ++ (fieldsB f ++ z 4)) = bcells (rowL kb pb cb f.ranges f.ranges.length) := by simp [fieldsB, hk, rowL, hcb, z]
  rw [eF]
  obtain ⟨l, hl⟩ : ∃ l, l = f.ranges := ⟨_, rfl⟩
  obtain ⟨m, hm2⟩ : ∃ m, m = f.ranges.length := ⟨_, rfl⟩
  have HR : Hid _ := hR
  have HG : Hid (g < w.heap.size) := hR.lt
  have HRN : Hid (RangesAt w ra l) := by show RangesAt w ra l; rw [hl]; exact hr
  have HNE : Hid (∀ ad, ra = some ad → ad.block ≠ g) := hra
  have HLT : Hid (∀ r ∈ l, r.1 < 18446744073709551616 ∧ r.2 < 18446744073709551616) := by show ∀ r ∈ l, _; rw [hl]; exact hrlt
  have HML : Hid (l.length = m) := by show l.length = m; rw [hl, hm2]
  have m8 : (m : Int) ≤ 8 := by omega
  have HNN : Hid (n = 7 + 16 * m) := by show n = _; omega
  have i2 : (2 : Int) < (n : Int) := by omega
  have hw : IntKind.u8.wrap (m : Int) = ub cb := by rw [ub_wrap, BitVec.ofInt_natCast, hcb, hm2]
  have hw' : (m : Int) % 256 = ub cb := by rw [← IntKind.wrap_u8']; exact hw
  have hcells : fcells f (.slice da f.data.length dc) (.slice ra f.ranges.length rc) (.slice ma f.mac.length mc) = fcells f (.slice da f.data.length dc) (.slice ra m rc) (.slice ma f.mac.length mc) := by rw [hm2]
  rw [hcells]
  rw [← hm2, ← hl] at *
  clear hcells hR hnum hoff hedge hrlt htok hnon hdl hrl hml hd hr hm eF hra h8 hn hcb
  go_enter Tryd.func19, Tryd.ntmps19
  go_upto_region 1 with (fail)
  refine wp_world fun W0 HW => ?_
  have HQ0 : Hid (Row W0 w.heap.size (fcells f (.slice da f.data.length dc) (.slice ra m rc) (.slice ma f.mac.length mc)) 27) := by show Row _ _ _ _; rw [HW.out]; exact Row.new' _ _ _ _ _ rfl rfl
  have HB0 : Hid (Below w.heap.size w W0) := by show Below _ _ _; rw [HW.out]; exact (Below.refl _ _).alloc (Nat.le_refl _) _
  have HR0 : Hid (Row W0 g (bcells ([kb, pb] ++ (z 1 ++ (z (16 * m) ++ z 4)))) 5) := HR.out.kept HB0.out HG.out
  have HO0 : Hid (Only g w W0) := Only.of_below HB0.out (Nat.le_refl _)
  have c0 : W0.cell? ⟨w.heap.size, 0, none⟩ = some (.int .i64 4) := by have := HQ0.out.cell 0 _ rfl; rw [hk] at this; exact this
  clear HW HB0 HR
  go_upto_region 17 with (fail)
  clear c0
  have cc := HQ0.out.cell 6 _ rfl
  have fz := HR0.out.frozen 2
  obtain ⟨vv, cv⟩ : ∃ v, W0.cell? ⟨g, 2, none⟩ = some v := ⟨_, HR0.out.cell 2 _ rfl⟩
  go_upto_region 18 with (fail)
  refine wp_world fun W1 HW => ?_
  have HR1 : Hid (Row W1 g (bcells (rowL kb pb cb l 0)) 5) := by
    show Row _ _ _ _
    rw [HW.out]
    have := HR0.out.set 2 (.int .u8 (ub cb))
    rw [bcells_set, set_in (A := [kb, pb]) (B := z (16 * m) ++ z 4) (o := 2) rfl] at this
    have e : rowL kb pb cb l 0 = [kb, pb] ++ ([cb] ++ (z (16 * m) ++ z 4)) := by
      unfold rowL; rw [HML.out]; rfl
    rw [e]; exact this
  have HQ1 : Hid (Row W1 w.heap.size (fcells f (.slice da f.data.length dc) (.slice ra m rc) (.slice ma f.mac.length mc)) 27) := by show Row _ _ _ _; rw [HW.out]; exact HQ0.out.setOther _ (show w.heap.size ≠ g by have := HG.out; omega) _
  have HO1 : Hid (Only g w W1) := by show Only _ _ _; rw [HW.out]; exact HO0.out.setCell _ _
  clear HW cc fz cv HR0 HQ0 HO0
  have cc := HQ1.out.cell 6 _ rfl
  go_wp2
  clear cc
  go_loopw [62] (fun i wr => ∃ k : Nat, k ≤ m ∧ i = .int .i64 k ∧ Row wr g (bcells (rowL kb pb cb l k)) 5 ∧ Only g w wr) (fun i _ => m - (intOf i).toNat)
  case atStart => exact ⟨0, Nat.zero_le _, rfl, HR1.out, HO1.out⟩
  case round =>
    obtain ⟨k, hkm, rfl, R, ho⟩ := hrel
    clear HR1 HQ1 HO1
    have HRk : Hid (Row wr g (bcells (rowL kb pb cb l k)) 5) := R
    have HOk : Hid (Only g w wr) := ho
    clear R ho
    by_cases hlt : k < m
    · have hki : (k : Int) < (m : Int) := by omega
      have hkl : k < l.length := by rw [HML.out]; exact hlt
      obtain ⟨gr, og, rfl, d0, d1⟩ := (HRN.out.only HNE.out HOk.out).pair k hkl
      obtain ⟨lo, hlo⟩ : ∃ x, x = (l[k]).1 := ⟨_, rfl⟩
      obtain ⟨hi, hhi⟩ : ∃ x, x = (l[k]).2 := ⟨_, rfl⟩
      have HLO : Hid (lo < 18446744073709551616) := by show lo < _; rw [hlo]; exact (HLT.out _ (List.getElem_mem hkl)).1
      have HHI : Hid (hi < 18446744073709551616) := by show hi < _; rw [hhi]; exact (HLT.out _ (List.getElem_mem hkl)).2
      have HNX : Hid ((([kb, pb, cb] ++ rangesB (l.take k)) ++ be 8 lo) ++ (be 8 hi ++ (z (16 * (l.length - (k + 1))) ++ z 4)) = rowL kb pb cb l (k + 1)) := by show _ = _; rw [hlo, hhi]; exact rowL_next kb pb cb l k hkl
      have HIN : Hid _ := rowL_in kb pb cb l k hkl
      have HFR : Hid _ := rowL_front kb pb cb l k hkl
      rw [← hlo] at d0
      rw [← hhi] at d1
      obtain ⟨j, hj⟩ : ∃ j, j = 3 + 16 * k := ⟨_, rfl⟩
      have HJ : Hid _ := hj
      have j0 : (3 : Int) + 16 * (k : Int) = (j : Int) := by omega
      have j1 : (j : Int) ≤ (n : Int) := by have := HNN.out; omega
      have j2 : ¬ n = j := by have := HNN.out; omega
      have j3 : ¬ n - j = 8 := by have := HNN.out; omega
      have j4 : (8 : Int) ≤ ((n - j : Nat) : Int) := by have := HNN.out; omega
      have j5 : (16 : Int) ≤ ((n - j : Nat) : Int) := by have := HNN.out; omega
      clear hlo hhi hj
      go_upto_region 22 with (fail)
      refine wp_world fun W2 HW => ?_
      have HT2 : Hid (Row W2 wr.heap.size [.int .u64 (lo : Int), .int .u64 (hi : Int)] 56) := by show Row _ _ _ _; rw [HW.out]; exact Row.new' _ _ _ _ _ rfl rfl
      have HR2 : Hid (Row W2 g (bcells (rowL kb pb cb l k)) 5) := by show Row _ _ _ _; rw [HW.out]; exact HRk.out.alloc _
      have HO2 : Hid (Only g w W2) := by show Only _ _ _; rw [HW.out]; exact HOk.out.trans (Only.of_below ((Below.refl _ _).alloc (Nat.le_refl _) _) (Nat.le_refl _))
      have HGR : Hid (g < wr.heap.size) := HRk.out.lt
      clear HW HRk HOk d0 d1
      have cc := HT2.out.cell 0 _ rfl
      go_region_with (go_at_call 20; refine (put_in (HR2.out.drawn _) (L' := (([kb, pb, cb] ++ rangesB (l.take k)) ++ be 8 lo) ++ (z 8 ++ (z (16 * (l.length - (k + 1))) ++ z 4))) (A := [kb, pb, cb] ++ rangesB (l.take k)) (X := z 8) (B := z 8 ++ (z (16 * (l.length - (k + 1))) ++ z 4)) HIN.out (HFR.out.trans HJ.out.symm) (z_len _) (by decide) lo HLO.out (by simp only [List.append_assoc])).mono ?_; rintro e W3 ⟨rfl, hr, ho⟩; have HR3 : Hid _ := hr; have HP : Hid _ := ho; clear hr ho)
      clear cc
      have HT3 : Hid (Row W3 wr.heap.size [.int .u64 (lo : Int), .int .u64 (hi : Int)] 56) := HP.out.row (HT2.out.drawn _) (show wr.heap.size ≠ g by have := HGR.out; omega)
      have HO3 : Hid (Only g w W3) := HO2.out.trans (((Only.refl g W2).drawn _).trans HP.out)
      clear HP HR2 HT2 HO2
      go_upto_region 23 with (fail)
      have cc := HT3.out.cell 1 _ rfl
      go_region_with (go_at_call 20; refine (put_in (HR3.out.drawn _) (L' := rowL kb pb cb l (k + 1)) (A := ([kb, pb, cb] ++ rangesB (l.take k)) ++ be 8 lo) (X := z 8) (B := z (16 * (l.length - (k + 1))) ++ z 4) rfl (by rw [List.length_append, HFR.out, be_len, HJ.out]) (z_len _) (by decide) hi HHI.out HNX.out).mono ?_; rintro e W4 ⟨rfl, hr, ho⟩; have HR4 : Hid _ := hr; have HP : Hid _ := ho; clear hr ho)
      clear cc
      have HO4 : Hid (Only g w W4) := HO3.out.trans (((Only.refl g W3).drawn _).trans HP.out)
      go_wp2
      go_roundw
      case rel => exact ⟨k + 1, hlt, by go_num, HR4.out, HO4.out⟩
      case measure => simp [intOf]; omega
    · have e : k = m := by omega
      subst e
      go_wp2
      go_end0
      exact ⟨rfl, HRk.out, HOk.out⟩
end Go.Proofs.YtgkfnbbgohdalaaDoor
