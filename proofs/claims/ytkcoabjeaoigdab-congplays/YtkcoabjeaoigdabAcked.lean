import Derived.Test.YtkcoabjeaoigdabGrow
namespace Go.Proofs.Ytkcoabjeaoigdab
open Go.RowKit
set_option maxRecDepth 100000

def growD (D : Nat → Ln) (n k : Nat) : Nat → Ln := upd D k { D k with c := upc D n k }
set_option maxHeartbeats 1000000 in
theorem grow_any {w : World} {g n k : Nat} {D : Nat → Ln} (h : GAt w g n D) (hk : k < n) :
    Calls Try.prog 21 #[.pointer (some ⟨g, 0, none⟩), .pointer (some ⟨g, k * 4, none⟩)] w fun e w' => e = .returned (.tuple #[]) ∧ GAt w' g n (growD D n k) ∧ Only [g] w w' := by
  have h8 : k < 8 := Nat.lt_of_lt_of_le hk h.le
  have ok := h.ok k hk
  have HO : Hid (∀ j, j < n → (upd D k { D k with c := upc D n k } j).Ok) := ok_upd h.ok (upc_ok ok)
  have HG := hid h
  have HK := hid hk
  have a0 := h.cell_c h8
  have a1 := h.cell_t h8
  have f0 := h.frozen (k * 4)
  obtain ⟨k0, k1, k2, k3, _, _⟩ := ok
  by_cases hlt : (D k).c < (D k).t
  · have HE : Hid (upc D n k = min ((D k).c + 1024) (D k).t) := by show _ = _; unfold upc; rw [if_pos hlt]
    have e1 : wrap64 ((D k).c + 1024) = (D k).c + 1024 := by unfold wrap64; omega
    have i1 : IntKind.i64.wrap ((D k).c + 1024) = (D k).c + 1024 := (wr _).trans e1
    have d1 : decide ((D k).c < (D k).t) = true := decide_eq_true hlt
    clear h hk k0 k1 k2 k3 hlt
    generalize hcc : (D k).c = c at *
    generalize htt : (D k).t = t at *
    go_enter Try.func21, Try.ntmps21
    go_upto_region 0 with (fail)
    go_region
    go_upto_region 1 with (fail)
    refine wp_world fun w2 HW => ?_
    have HG2 : Hid (GAt { w2 with drawn := w2.drawn + 1 } g n D) := by
      show GAt _ _ _ _
      rw [HW.out]
      exact HG.out.kept (below_drawn (Below.refl _ _) _)
    have HO2 : Hid (Only [g] w { w2 with drawn := w2.drawn + 1 }) := by
      show Only _ _ _
      rw [HW.out]
      exact (Only.refl [g] w).drawn _
    clear HW a0 a1 f0
    refine wp_region_still_tail 16 (by kernel_rfl) (by kernel_rfl) ?_
    generalize ({ w2 with drawn := w2.drawn + 1 } : World) = wq at *
    have a0 := HG2.out.cell_c h8
    have a1 := HG2.out.cell_t h8
    have f0 := HG2.out.frozen (k * 4)
    rw [hcc] at a0
    rw [htt] at a1
    simp only [List.take_succ_cons, List.take_zero, List.drop_succ_cons, List.drop_zero]
    iterate 16 still_step
    refine wpStill_nil ?_
    go_wp2
    refine bodyPost_ret (results_none Try.results21 _ _ _) rfl ?_
    refine ⟨rfl, ?_, HO2.out.setCell _ _ _ (.inl (by simp))⟩
    unfold growD
    rw [HE.out, ← hcc]
    rw [HE.out, ← hcc] at HO
    exact HG2.out.set_c h8 _ HO.out
  · have HE : Hid (upc D n k = min ((D k).c + stepD D n k) 262144) := by show _ = _; unfold upc; rw [if_neg hlt]
    have sb := stepD_b (n := n) (HG.out.ok k hk)
    have ob := own_b k0 k1
    have HS := hid (step_any (w := w.drew.drew) (HG.out.kept (below_drawn (Below.refl _ _) _)) hk)
    have e1 : wrap64 ((D k).c + stepD D n k) = (D k).c + stepD D n k := by unfold wrap64; omega
    have i1 : IntKind.i64.wrap ((D k).c + stepD D n k) = (D k).c + stepD D n k := (wr _).trans e1
    have d1 : decide ((D k).c < (D k).t) = false := decide_eq_false hlt
    have HD : Hid (Below w.heap.size w w.drew.drew) := below_drawn (Below.refl _ _) _
    clear h hk k0 k1 k2 k3 hlt sb ob
    generalize hst : stepD D n k = st at *
    generalize hcc : (D k).c = c at *
    generalize htt : (D k).t = t at *
    clear hst
    go_enter Try.func21, Try.ntmps21
    go_upto_region 0 with (fail)
    go_region
    go_upto_region 2 with (fail)
    go_region_with (go_at_call 28; refine HS.out.mono ?_; rintro e w3 ⟨rfl, hb2⟩; clear a0 a1 f0; have HB3 := hid (HD.out.trans (hb2.mono HD.out.size)); have HG3 := hid (HG.out.kept HB3.out); have a0 := HG3.out.cell_c h8; rw [hcc] at a0; have f0 := HG3.out.frozen (k * 4); clear hb2)
    all_goals
      refine bodyPost_end (results_none Try.results21 _ _ _) rfl ?_
      refine ⟨rfl, ?_, (Only.of_below HB3.out (Nat.le_refl _)).setCell _ _ _ (.inl (by simp))⟩
      unfold growD
      rw [HE.out]
      have ho := HO.out
      rw [HE.out] at ho
      rw [← hcc]
      rw [← hcc] at ho
      exact HG3.out.set_c h8 _ ho
end Go.Proofs.Ytkcoabjeaoigdab
