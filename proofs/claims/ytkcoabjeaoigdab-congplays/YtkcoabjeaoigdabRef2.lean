import Derived.Test.YtkcoabjeaoigdabRef1
namespace Go.Proofs.Ytkcoabjeaoigdab
open Go.RowKit
set_option maxRecDepth 100000

theorem upd_upd (D : Nat → Ln) (k : Nat) (a b : Ln) : upd (upd D k a) k b = upd D k b := by
  funext j
  unfold upd
  split <;> rfl
set_option maxHeartbeats 1000000 in
theorem rcut_in {w : World} {r q n k : Nat} {D : Nat → Ln} (h : RAt w r q n D) (hk : k < n) :
    Calls Try.prog 15 #[.pointer (some ⟨r, 0, none⟩), .int .i64 k] w fun e w' => e = .returned (.tuple #[]) ∧ RAt w' r q n (loseD D n k false) ∧ Only [q] w w' := by
  have HE : Hid (loseD D n k false = upd D k { D k with c := half (D k).c, t := half (D k).c }) := by
    show _ = _
    unfold loseD
    rw [if_pos (by omega)]
    simp
  have HL := hid (has_in h hk)
  have ok := h.ok k hk
  have hb := half_ok ok.c0 ok.c1
  have HLW := hid (fun w => low_any (w := w) (c := (D k).c) (by have := ok.c0; omega) ok.c1)
  have HO1 : Hid (∀ j, j < n → (upd D k { D k with t := half (D k).c } j).Ok) := ok_upd h.ok ⟨ok.c0, ok.c1, hb.1, by simp only; omega, ok.r0, ok.r1⟩
  have HO2 : Hid (∀ j, j < n → (upd D k { D k with c := half (D k).c, t := half (D k).c } j).Ok) := ok_upd h.ok ⟨by simp only; omega, by simp only; omega, hb.1, by simp only; omega, ok.r0, ok.r1⟩
  have H := hid h
  have HK := hid hk
  have l1 : (k : Int) < (n : Int) := by omega
  clear h ok hb
  go_enter Try.func15, Try.ntmps15
  go_upto_region 1 with (go_at_call 20; refine Calls.mono HL.out ?_; rintro e w2 ⟨rfl, rfl⟩)
  clear HL
  have HQ := hid (H.out.drawn (w2.drawn + 1))
  have HX : Hid (Only [q] w2 { w2 with drawn := w2.drawn + 1 }) := (Only.refl _ _).drawn _
  clear H
  refine wp_region_still_tail 16 (by kernel_rfl) (by decide +kernel) ?_
  generalize ({ w2 with drawn := w2.drawn + 1 } : World) = wq at *
  obtain ⟨cap, c0⟩ := HQ.out.cell_hd
  have a0 := HQ.out.cell_c hk
  have a1 := HQ.out.cell_t hk
  have f1 := HQ.out.frozen (k * 4 + 1)
  generalize hhc : half (D k).c = hc at *
  generalize hcc : (D k).c = c at *
  generalize htt : (D k).t = t at *
  simp only [List.take_succ_cons, List.take_zero, List.drop_succ_cons, List.drop_zero]
  iterate 13 still_step
  still_call (HLW.out _)
  iterate 2 still_step
  refine wpStill_nil ?_
  go_upto_region 2 with (fail)
  refine wp_world fun w3 HW => ?_
  obtain ⟨D1, hD1⟩ : ∃ D1, D1 = upd D k { D k with t := hc } := ⟨_, rfl⟩
  have HQ3 : Hid (RAt { w3 with drawn := w3.drawn + 1 } r q n D1) := by
    show RAt _ _ _ _ _
    rw [HW.out, hD1]
    exact (HQ.out.set_t hk hc (by have ho := HO1.out; rw [← hcc] at ho; exact ho)).drawn _
  have HX3 : Hid (Only [q] w2 { w3 with drawn := w3.drawn + 1 }) := by
    show Only _ _ _
    rw [HW.out]
    exact (HX.out.setCell _ _ _ (.inl (by simp))).drawn _
  have e1 : (D1 k).t = hc := by rw [hD1, upd_at]
  have HE2 : Hid (upd D1 k { D1 k with c := hc } = loseD D n k false) := by
    show _ = _
    rw [HE.out, hD1, upd_at, upd_upd]
  have HO3 : Hid (∀ j, j < n → (upd D1 k { D1 k with c := hc } j).Ok) := by
    have := HO2.out
    rw [← HE.out, ← HE2.out] at this
    exact this
  clear HW HQ HX hD1 c0 a0 a1 f1 HE HO1 HO2
  refine wp_region_still_tail 15 (by kernel_rfl) (by decide +kernel) ?_
  generalize ({ w3 with drawn := w3.drawn + 1 } : World) = wp at *
  obtain ⟨cap, c0⟩ := HQ3.out.cell_hd
  have a0 := HQ3.out.cell_c hk
  have a1 := HQ3.out.cell_t hk
  have f0 := HQ3.out.frozen (k * 4)
  rw [e1] at a1
  simp only [List.take_succ_cons, List.take_zero, List.drop_succ_cons, List.drop_zero]
  iterate 15 still_step
  refine wpStill_nil ?_
  go_wp2
  refine bodyPost_end (results_none Try.results15 _ _ _) rfl ?_
  refine ⟨rfl, ?_, HX3.out.setCell _ _ _ (.inl (by simp))⟩
  rw [← HE2.out]
  exact HQ3.out.set_c hk _ HO3.out
set_option maxHeartbeats 1000000 in
theorem rtimeout_in {w : World} {r q n k : Nat} {D : Nat → Ln} (h : RAt w r q n D) (hk : k < n) :
    Calls Try.prog 17 #[.pointer (some ⟨r, 0, none⟩), .int .i64 k] w fun e w' => e = .returned (.tuple #[]) ∧ RAt w' r q n (loseD D n k true) ∧ Only [q] w w' := by
  have HE : Hid (loseD D n k true = upd D k { D k with c := 1024, t := half (D k).c }) := by
    show _ = _
    unfold loseD
    rw [if_pos (by omega)]
    simp
  have HL := hid (has_in h hk)
  have ok := h.ok k hk
  have hb := half_ok ok.c0 ok.c1
  have HLW := hid (fun w => low_any (w := w) (c := (D k).c) (by have := ok.c0; omega) ok.c1)
  have HO1 : Hid (∀ j, j < n → (upd D k { D k with t := half (D k).c } j).Ok) := ok_upd h.ok ⟨ok.c0, ok.c1, hb.1, by simp only; omega, ok.r0, ok.r1⟩
  have HO2 : Hid (∀ j, j < n → (upd D k { D k with c := 1024, t := half (D k).c } j).Ok) := ok_upd h.ok ⟨by simp only; omega, by simp only; omega, hb.1, by simp only; omega, ok.r0, ok.r1⟩
  have H := hid h
  have HK := hid hk
  have l1 : (k : Int) < (n : Int) := by omega
  clear h ok hb
  go_enter Try.func17, Try.ntmps17
  go_upto_region 1 with (go_at_call 20; refine Calls.mono HL.out ?_; rintro e w2 ⟨rfl, rfl⟩)
  clear HL
  have HQ := hid (H.out.drawn (w2.drawn + 1))
  have HX : Hid (Only [q] w2 { w2 with drawn := w2.drawn + 1 }) := (Only.refl _ _).drawn _
  clear H
  refine wp_region_still_tail 16 (by kernel_rfl) (by decide +kernel) ?_
  generalize ({ w2 with drawn := w2.drawn + 1 } : World) = wq at *
  obtain ⟨cap, c0⟩ := HQ.out.cell_hd
  have a0 := HQ.out.cell_c hk
  have a1 := HQ.out.cell_t hk
  have f1 := HQ.out.frozen (k * 4 + 1)
  generalize hhc : half (D k).c = hc at *
  generalize hcc : (D k).c = c at *
  generalize htt : (D k).t = t at *
  simp only [List.take_succ_cons, List.take_zero, List.drop_succ_cons, List.drop_zero]
  iterate 13 still_step
  still_call (HLW.out _)
  iterate 2 still_step
  refine wpStill_nil ?_
  go_upto_region 2 with (fail)
  refine wp_world fun w3 HW => ?_
  obtain ⟨D1, hD1⟩ : ∃ D1, D1 = upd D k { D k with t := hc } := ⟨_, rfl⟩
  have HQ3 : Hid (RAt w3 r q n D1) := by
    show RAt _ _ _ _ _
    rw [HW.out, hD1]
    exact HQ.out.set_t hk hc (by have ho := HO1.out; rw [← hcc] at ho; exact ho)
  have HX3 : Hid (Only [q] w2 w3) := by
    show Only _ _ _
    rw [HW.out]
    exact HX.out.setCell _ _ _ (.inl (by simp))
  have HE2 : Hid (upd D1 k { D1 k with c := 1024 } = loseD D n k true) := by
    show _ = _
    rw [HE.out, hD1, upd_at, upd_upd]
  have HO3 : Hid (∀ j, j < n → (upd D1 k { D1 k with c := 1024 } j).Ok) := by
    have := HO2.out
    rw [← HE.out, ← HE2.out] at this
    exact this
  clear HW HQ HX hD1 c0 a0 a1 f1 HE HO1 HO2
  obtain ⟨cap, c0⟩ := HQ3.out.cell_hd
  have a0 := HQ3.out.cell_c hk
  have f0 := HQ3.out.frozen (k * 4)
  go_wp2
  refine bodyPost_end (results_none Try.results17 _ _ _) rfl ?_
  refine ⟨rfl, ?_, HX3.out.setCell _ _ _ (.inl (by simp))⟩
  rw [← HE2.out]
  exact HQ3.out.set_c hk _ HO3.out
theorem rcut_any {w : World} {r q n : Nat} {D : Nat → Ln} (h : RAt w r q n D) (p : Int) :
    Calls Try.prog 15 #[.pointer (some ⟨r, 0, none⟩), .int .i64 p] w fun e w' => e = .returned (.tuple #[]) ∧ RAt w' r q n (loseD D n p false) ∧ Only [q] w w' := by
  by_cases hp : 0 ≤ p ∧ p < n
  · obtain ⟨k, rfl, hk, _⟩ := in_of hp
    exact rcut_in h hk
  · have HE : Hid (loseD D n p false = D) := by show _ = _; unfold loseD; rw [if_neg hp]
    have HL := hid (has_out h (out_of hp))
    have H := hid h
    clear h hp
    go_enter Try.func15, Try.ntmps15
    go_wp2_with (go_at_call 20; refine Calls.mono HL.out ?_; rintro e w2 ⟨rfl, rfl⟩)
    refine bodyPost_end (results_none Try.results15 _ _ _) rfl ?_
    exact ⟨rfl, by rw [HE.out]; exact H.out, Only.refl _ _⟩
theorem rtimeout_any {w : World} {r q n : Nat} {D : Nat → Ln} (h : RAt w r q n D) (p : Int) :
    Calls Try.prog 17 #[.pointer (some ⟨r, 0, none⟩), .int .i64 p] w fun e w' => e = .returned (.tuple #[]) ∧ RAt w' r q n (loseD D n p true) ∧ Only [q] w w' := by
  by_cases hp : 0 ≤ p ∧ p < n
  · obtain ⟨k, rfl, hk, _⟩ := in_of hp
    exact rtimeout_in h hk
  · have HE : Hid (loseD D n p true = D) := by show _ = _; unfold loseD; rw [if_neg hp]
    have HL := hid (has_out h (out_of hp))
    have H := hid h
    clear h hp
    go_enter Try.func17, Try.ntmps17
    go_wp2_with (go_at_call 20; refine Calls.mono HL.out ?_; rintro e w2 ⟨rfl, rfl⟩)
    refine bodyPost_end (results_none Try.results17 _ _ _) rfl ?_
    exact ⟨rfl, by rw [HE.out]; exact H.out, Only.refl _ _⟩
end Go.Proofs.Ytkcoabjeaoigdab
