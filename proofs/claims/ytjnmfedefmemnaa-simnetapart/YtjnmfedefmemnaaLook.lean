import Derived.Test.YtjnmfedefmemnaaSame
namespace Go.Proofs.Ytjnmfedefmemnaa
open Go.RowKit
set_option maxRecDepth 100000

set_option maxHeartbeats 2000000 in
/-- Put onto a path that is down, or into a bag that is full. -/
theorem put_lost {w : World} {p n g k d : Nat} {c : List Value} {C P L : Int} {up : Bool} {v : Value} {qs : List Nat} {fr : Value}
    (HN : Row w p [.slice (some ⟨g, 0, none⟩) n n] 52) (R : Row w g c 67) (hk : k < n) (hd : d < 2) (hup : c[k * 16]? = some (.bool up)) (hC : c[k * 16 + 1]? = some (.int .i64 C)) (hP : c[k * 16 + 4 + d]? = some (.int .u64 P))
    (hL : c[k * 16 + 6 + d]? = some (.int .u64 L)) (hv : c[k * 16 + 14 + d]? = some v) (hB : BagAt w v qs) (hlt : up = false ∨ C ≤ (qs.length : Int)) (hL0 : 0 ≤ L) (hL1 : L ≤ 1000000000000000) :
    Calls Try.prog 10 #[.pointer (some ⟨p, 0, none⟩), .int .i64 k, .int .i64 d, fr] w fun e w' => e = .returned (.tuple #[.bool false, .int .i64 0]) ∧ ∃ P', Row w' g ((c.set (k * 16 + 4 + d) (.int .u64 P')).set (k * 16 + 6 + d) (.int .u64 (L + 1))) 67 ∧ Only [g] w w' := by
  have HBI := hid (bag_in (HN.cell 0 _ rfl) hk hd)
  have k1 : (0 : Int) ≤ (d : Int) := by omega
  have k2 : (d : Int) < 2 := by omega
  have HR := hid R
  have HUP := hid hup
  have HC := hid hC
  have HV := hid hv
  have HLL := hid hL
  have e1 := R.cell _ _ hP
  have f1 := R.frozen (k * 16 + 4 + d)
  obtain ⟨av, capv, rfl⟩ := hB.shape
  have HLT := hid hlt
  clear R hup hC hv hB HN hk hL hlt
  go_enter Try.func10, Try.ntmps10
  go_upto_region 4 with (go_at_call 23; refine Calls.mono HBI.out ?_; rintro e w' ⟨rfl, rfl⟩)
  refine wp_region_still_tail 12 (by kernel_rfl) (by kernel_rfl) ?_
  replace e1 := cell_drawn (w'.drawn + 1) e1
  replace f1 := frozen_drawn (w'.drawn + 1) f1
  replace HR : Hid _ := HR.out.drawn (w'.drawn + 1)
  have HB0 := hid (below_drawn (Below.refl w'.heap.size w') (w'.drawn + 1))
  generalize ({ w' with drawn := w'.drawn + 1 } : World) = wq at *
  simp only [List.take_succ_cons, List.take_zero, List.drop_succ_cons, List.drop_zero]
  iterate 12 still_step
  refine wpStill_nil ?_
  go_upto_region 5 with (fail)
  refine wp_world fun w2 HW => ?_
  have hR2 : ∃ P', Row w2 g (c.set (k * 16 + 4 + d) (.int .u64 P')) 67 ∧ Only [g] w' w2 := by
    rw [HW.out]
    exact ⟨_, HR.out.set _ _, (Only.of_below (S := [g]) HB0.out (Nat.le_refl _)).setCell g _ _ (.inl (by simp))⟩
  obtain ⟨P', R2, O2⟩ := hR2
  have u0 := R2.cell (k * 16) _ (set_at HUP.out (by omega))
  have u1 := R2.cell (k * 16 + 1) _ (set_at HC.out (by omega))
  have u2 := R2.cell (k * 16 + 14 + d) _ (set_at HV.out (by omega))
  have HFU := hid (full_any hd u1 u2)
  have HL2 := hid (set_at (x := .int .u64 P') (j := k * 16 + 4 + d) HLL.out (by omega))
  have HR2 := hid R2
  have HO2 := hid O2
  clear e1 f1 HR HW R2 O2 u1 u2 hP HB0
  cases up
  · go_upto_region 6 with (fail)
    have t1 := HR2.out.cell _ _ HL2.out
    have t2 := HR2.out.frozen (k * 16 + 6 + d)
    refine wp_region_still_tail 12 (by kernel_rfl) (by kernel_rfl) ?_
    replace t1 := cell_drawn (w2.drawn + 1) t1
    replace t2 := frozen_drawn (w2.drawn + 1) t2
    replace HR2 : Hid _ := HR2.out.drawn (w2.drawn + 1)
    replace HO2 : Hid _ := HO2.out.drawn (w2.drawn + 1)
    generalize ({ w2 with drawn := w2.drawn + 1 } : World) = w3 at *
    simp only [List.take_succ_cons, List.take_zero, List.drop_succ_cons, List.drop_zero]
    iterate 12 still_step
    refine wpStill_nil ?_
    go_wp2
    go_ret2
    have h1 := HR2.out.set (k * 16 + 6 + d) (.int .u64 (L + 1))
    have h2 := HO2.out.setCell g (k * 16 + 6 + d) (.int .u64 (L + 1)) (.inl (by simp))
    first | exact ⟨rfl, P', h1, h2⟩ | exact ⟨rfl, ⟨P', h1⟩, h2⟩
  · have hge : decide (C ≤ (qs.length : Int)) = true := by
      rcases HLT.out with h | h
      · cases h
      · simpa using h
    go_upto_region 6 with (go_at_call 24; refine Calls.mono HFU.out ?_; rintro e w3 ⟨rfl, q3, rfl⟩; rw [hge])
    have HR3 := hid (HR2.out.drewN q3)
    have HO3 := hid (HO2.out.drew q3)
    clear u0 HR2 HO2 HFU
    generalize w2.drewN q3 = w2 at *
    have t1 := HR3.out.cell _ _ HL2.out
    have t2 := HR3.out.frozen (k * 16 + 6 + d)
    refine wp_region_still_tail 12 (by kernel_rfl) (by kernel_rfl) ?_
    replace t1 := cell_drawn (w2.drawn + 1) t1
    replace t2 := frozen_drawn (w2.drawn + 1) t2
    replace HR3 : Hid _ := HR3.out.drawn (w2.drawn + 1)
    replace HO3 : Hid _ := HO3.out.drawn (w2.drawn + 1)
    generalize ({ w2 with drawn := w2.drawn + 1 } : World) = w3 at *
    simp only [List.take_succ_cons, List.take_zero, List.drop_succ_cons, List.drop_zero]
    iterate 12 still_step
    refine wpStill_nil ?_
    go_wp2
    go_ret2
    have h1 := HR3.out.set (k * 16 + 6 + d) (.int .u64 (L + 1))
    have h2 := HO3.out.setCell g (k * 16 + 6 + d) (.int .u64 (L + 1)) (.inl (by simp))
    first | exact ⟨rfl, P', h1, h2⟩ | exact ⟨rfl, ⟨P', h1⟩, h2⟩
theorem rangeAt_row {w : World} {g : Nat} {c : List Value} {t : TypeId} (R : Row w g c t) (b n : Nat) : w.rangeAt g b ((c.drop b).take n) := R.range b _ fun j v hj => by
  have hjn : j < n := by have := (List.getElem?_eq_some_iff.1 hj).1; simp at this; omega
  rw [List.getElem?_take_of_lt hjn, List.getElem?_drop] at hj
  exact hj
set_option maxHeartbeats 2000000 in
theorem look1_any {w : World} {g b n0 n1 cap0 cap1 : Nat} {a0 a1 : Option Addr} {c : List Value} (R : Row w g c 67) (hl : b + 16 ≤ c.length) (h0 : c[b + 14]? = some (.slice a0 n0 cap0)) (h1 : c[b + 15]? = some (.slice a1 n1 cap1)) (h1c : ∀ v ∈ c, v.oneCell' = true) :
    Calls Try.prog 35 #[.pointer (some ⟨g, b, none⟩)] w fun e w' => e = .returned (.agg ((((c.drop b).take 14).set 2 (.int .i64 n0)).set 3 (.int .i64 n1)).toArray) ∧ Below w.heap.size w w' := by
  have hlen : ((c.drop b).take 14).length = 14 := by simp; omega
  have hb0 := below_grow (Below.refl w.heap.size w) (.cells vz.toArray 41)
  have R0 := Row.new w vz 41
  have HR := hid (R.kept hb0 R.lt)
  have HZ := hid R0
  have HB := hid hb0
  have H0 := hid h0
  have H1 := hid h1
  have HLN := hid hlen
  have HONE : Hid (∀ v ∈ (c.drop b).take 14, v.oneCell' = true) := fun v hv => h1c v (List.mem_of_mem_drop (List.mem_of_mem_take hv))
  clear R hb0 R0 h0 h1 hlen h1c hl
  go_enter Try.func35, Try.ntmps35
  go_upto_region 1 with (fail)
  refine wp_world fun wa HW => ?_
  have HRa : Hid (Row wa g c 67) := by show Row _ _ _ _; rw [HW.out]; exact HR.out
  have HZa : Hid (Row wa w.heap.size vz 41) := by show Row _ _ _ _; rw [HW.out]; exact HZ.out
  have HBa : Hid (Below w.heap.size w wa) := by show Below _ _ _; rw [HW.out]; exact HB.out
  clear HR HZ HB HW
  have HRG := hid (rangeAt_row HRa.out b 14)
  generalize hcv : (c.drop b).take 14 = cv at *
  have HLN' : Hid (cv.length = 14) := HLN.out
  go_upto_region 2 with (first
    | (show wpList _ _ _ (Oper.mk (some 8) (.load 41 (.tmp 7)) _ _ _ _ :: _) _ _; refine wpList_load_mid rfl 41 (.tmp 7) rfl g b rfl cv _ HRG.out Try.underlying41 rfl (by rw [HLN'.out]; exact i41) ?_)
    | (show wpList _ _ _ (Oper.mk none (.store 41 (.tmp 3) (.tmp 8)) _ _ _ _ :: _) _ _; refine Row.wpStore' (Row.new' wa _ vz 41 _ rfl rfl) 41 (.tmp 3) (.tmp 8) cv rfl rfl rfl rfl (by rw [HLN'.out]; rfl) HONE.out (by rw [HLN'.out]; exact i41) ?_; intro w2 HZ2))
  have HV2 : Hid (Row w2 wa.heap.size cv 41) := by show Row _ _ _ _; rw [HZ2.out]; exact (Row.new' wa _ vz 41 _ rfl rfl).row _
  have HK2 : Hid (Below wa.heap.size wa w2) := by show Below _ _ _; rw [HZ2.out]; exact below_setRow (below_grow (Below.refl _ _) _) (Nat.le_refl _) _
  have HR2 := hid (HRa.out.kept HK2.out HRa.out.lt)
  have HZ2' := hid (HZa.out.kept HK2.out HZa.out.lt)
  have HB2 := hid (HBa.out.trans (HK2.out.mono HBa.out.size))
  have HNE : Hid (g ≠ wa.heap.size) := by show g ≠ _; have := HRa.out.lt; omega
  have HNE2 : Hid (w.heap.size ≠ wa.heap.size) := by show w.heap.size ≠ _; have := HZa.out.lt; omega
  have HSZ : Hid (w.heap.size ≤ wa.heap.size) := HBa.out.size
  generalize wa.heap.size = vb at *
  clear HZ2 HK2 HRa HZa HBa HRG
  have b0 := HR2.out.cell _ _ H0.out
  have v2 := HV2.out.cell 2 _ (List.getElem?_eq_getElem (by rw [HLN'.out]; decide))
  have f2 := HV2.out.frozen 2
  go_wp2
  refine wp_loop_rounds 3 ?_
  rw [rounds_succ]
  go_wp2
  have HV3 := hid (HV2.out.set 2 (.int .i64 n0))
  have HR3 := hid (HR2.out.setOther ⟨vb, 2, none⟩ HNE.out (.int .i64 n0))
  have HZ3 := hid (HZ2'.out.setOther ⟨vb, 2, none⟩ HNE2.out (.int .i64 n0))
  have HB3 : Hid (Below w.heap.size w (w2.setCell ⟨vb, 2, none⟩ (.int .i64 n0))) := HB2.out.setCell HSZ.out _
  clear b0 v2 f2 HV2 HR2 HZ2' HB2
  generalize w2.setCell ⟨vb, 2, none⟩ (.int .i64 n0) = w3 at *
  have b1 := HR3.out.cell _ _ H1.out
  have v3 := HV3.out.cell 3 _ (List.getElem?_eq_getElem (by rw [List.length_set, HLN'.out]; decide))
  have f3 := HV3.out.frozen 3
  rw [rounds_succ]
  go_wp2
  have HV4 := hid (HV3.out.set 3 (.int .i64 n1))
  have HZ4 := hid (HZ3.out.setOther ⟨vb, 3, none⟩ HNE2.out (.int .i64 n1))
  have HB4 : Hid (Below w.heap.size w (w3.setCell ⟨vb, 3, none⟩ (.int .i64 n1))) := HB3.out.setCell HSZ.out _
  clear b1 v3 f3 HV3 HR3 HZ3 HB3
  generalize w3.setCell ⟨vb, 3, none⟩ (.int .i64 n1) = w4 at *
  rw [rounds_succ]
  have HC4 : Hid (((cv.set 2 (.int .i64 n0)).set 3 (.int .i64 n1)).length = 14) := by show _ = _; rw [List.length_set, List.length_set, HLN'.out]
  have HON4 : Hid (∀ v ∈ (cv.set 2 (.int .i64 n0)).set 3 (.int .i64 n1), v.oneCell' = true) := fun v hv => by
    rcases List.mem_or_eq_of_mem_set hv with hv | rfl
    · rcases List.mem_or_eq_of_mem_set hv with hv | rfl
      · exact HONE.out v hv
      · rfl
    · rfl
  go_wp2_with (first
    | (show wpList _ _ _ (Oper.mk (some 23) (.load 41 (.tmp 3)) _ _ _ _ :: _) _ _; refine HV4.out.wpLoad 41 (.tmp 3) rfl rfl rfl _ Try.underlying41 rfl (by rw [HC4.out]; exact i41) ?_)
    | (show wpList _ _ _ (Oper.mk none (.store 41 (.tmp 2) (.tmp 23)) _ _ _ _ :: _) _ _; refine HZ4.out.wpStore' 41 (.tmp 2) (.tmp 23) ((cv.set 2 (.int .i64 n0)).set 3 (.int .i64 n1)) rfl rfl rfl rfl (by rw [HC4.out]; rfl) HON4.out (by rw [HC4.out]; exact i41) ?_; intro w5 HZ5))
  have h1 : Row w5 w.heap.size ((cv.set 2 (.int .i64 n0)).set 3 (.int .i64 n1)) 41 := by rw [HZ5.out]; exact HZ4.out.row _
  have h3 : Below w.heap.size w w5 := by rw [HZ5.out]; exact below_setRow HB4.out (Nat.le_refl _) _
  exact bodyPost_ret (v := .agg ((cv.set 2 (.int .i64 n0)).set 3 (.int .i64 n1)).toArray) (h1.result Try.results35 _ rfl _ Try.underlying41 rfl (by rw [HC4.out]; exact i41)) rfl ⟨by rw [hcv], h3⟩
set_option maxHeartbeats 2000000 in
theorem look_in {w : World} {p n g k n0 n1 cap0 cap1 : Nat} {a0 a1 : Option Addr} {c : List Value} (HN : Row w p [.slice (some ⟨g, 0, none⟩) n n] 52) (R : Row w g c 67) (hk : k < n) (hl : k * 16 + 16 ≤ c.length) (h0 : c[k * 16 + 14]? = some (.slice a0 n0 cap0)) (h1 : c[k * 16 + 15]? = some (.slice a1 n1 cap1)) (h1c : ∀ v ∈ c, v.oneCell' = true) :
    Calls Try.prog 15 #[.pointer (some ⟨p, 0, none⟩), .int .i64 k] w fun e w' => e = .returned (.tuple #[.agg ((((c.drop (k * 16)).take 14).set 2 (.int .i64 n0)).set 3 (.int .i64 n1)).toArray, .int .i64 0]) ∧ Below w.heap.size w w' := by
  have hb0 := below_grow (Below.refl w.heap.size w) (.cells vz.toArray 41)
  have HZ := hid (Row.new w vz 41)
  have HRI := hid (road_in ((HN.kept hb0 HN.lt).cell 0 _ rfl) hk)
  have HLK := hid (look1_any (R.kept hb0 R.lt) hl h0 h1 h1c)
  have HB := hid hb0
  have hlen : ((((c.drop (k * 16)).take 14).set 2 (.int .i64 n0)).set 3 (.int .i64 n1)).length = 14 := by simp; omega
  have hone : ∀ v ∈ (((c.drop (k * 16)).take 14).set 2 (.int .i64 n0)).set 3 (.int .i64 n1), v.oneCell' = true := fun v hv => by
    rcases List.mem_or_eq_of_mem_set hv with hv | rfl
    · rcases List.mem_or_eq_of_mem_set hv with hv | rfl
      · exact h1c v (List.mem_of_mem_drop (List.mem_of_mem_take hv))
      · rfl
    · rfl
  have HLN := hid hlen
  have HON := hid hone
  clear hb0 HN R hk hl h0 h1 h1c hlen hone
  generalize (((c.drop (k * 16)).take 14).set 2 (.int .i64 n0)).set 3 (.int .i64 n1) = cv at *
  go_enter Try.func15, Try.ntmps15
  go_upto_region 1 with (fail)
  refine wp_world fun wa HW => ?_
  have HZa : Hid (Row wa w.heap.size vz 41) := by show Row _ _ _ _; rw [HW.out]; exact HZ.out
  have HBa : Hid (Below w.heap.size w wa) := by show Below _ _ _; rw [HW.out]; exact HB.out
  have hRIa : Calls Try.prog 34 #[.pointer (some ⟨p, 0, none⟩), .int .i64 k] wa fun e w' => e = .returned (.pointer (some ⟨g, k * 16, none⟩)) ∧ w' = wa := by rw [HW.out]; exact HRI.out
  have hLKa : Calls Try.prog 35 #[.pointer (some ⟨g, k * 16, none⟩)] wa fun e w' => e = .returned (.agg cv.toArray) ∧ Below wa.heap.size wa w' := by rw [HW.out]; exact HLK.out
  have HRIa := hid hRIa
  have HLKa := hid hLKa
  clear HRI HLK HB HZ HW hRIa hLKa
  go_wp2_with (first
    | (go_at_call 34; refine Calls.mono HRIa.out ?_; rintro e w' ⟨rfl, rfl⟩)
    | (go_at_call 35; refine Calls.mono HLKa.out ?_; rintro e w3 ⟨rfl, hb⟩; have HB3 := hid (HBa.out.trans (hb.mono HBa.out.size)); have HZ3 := hid (HZa.out.kept hb HZa.out.lt); clear hb)
    | (show wpList _ _ _ (Oper.mk none (.store 41 (.tmp 4) (.tmp 14)) _ _ _ _ :: _) _ _; refine HZ3.out.wpStore' 41 (.tmp 4) (.tmp 14) cv rfl rfl rfl rfl (by rw [HLN.out]; rfl) HON.out (by rw [HLN.out]; exact i41) ?_; intro w5 HZ5))
  have h1 : Row w5 w.heap.size cv 41 := by rw [HZ5.out]; exact HZ3.out.row _
  have h3 : Below w.heap.size w w5 := by rw [HZ5.out]; exact below_setRow HB3.out (Nat.le_refl _) _
  exact bodyPost_ret (v := .tuple #[.agg cv.toArray, .int .i64 0]) (h1.result2 Try.results15 _ rfl rfl _ Try.underlying41 rfl (by rw [HLN.out]; exact i41)) rfl ⟨rfl, h3⟩
end Go.Proofs.Ytjnmfedefmemnaa
