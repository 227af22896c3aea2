import Derived.Test.YtnohammflhadpaaSb19
namespace Go.Proofs.Ytnohammflhadpaa
open Go.RowKit Go.Maps Go.Sort
set_option maxRecDepth 100000

/-- Has the end gone out? -/
def Sb.endOut (F : Sb) : Bool := F.closed && (F.done || (match F.L.getLast? with | some c => c.out | none => false))
/-- Of a closed stream whose end is not acknowledged the last chunk is the end. -/
def Sb.Fin (F : Sb) : Prop := F.closed = true → F.acked ≤ F.end_ → ∃ c, F.L.getLast? = some c ∧ c.fin = true
section
variable {w : World} {p : Nat} {F : Sb} {a : Option Addr} {cap : Nat}
set_option maxHeartbeats 2000000 in
theorem endOut_d (h : SbR w p F a cap) (hc : F.closed = true) (hd : F.end_ < F.acked) : Calls Try.prog 72 #[.pointer (some ⟨p, 0, none⟩)] w fun e w' => e = .returned (.bool true) ∧ Below w.heap.size w w' := by
  have hdone : F.done = true := by unfold Sb.done; rw [hc]; simp [hd]
  have c6 := cell_regrown (w := w) (a := ⟨p, 6, none⟩) (v := .bool true) (by rw [← hc]; exact h.row.cell 6 _ rfl)
  obtain ⟨D, hD⟩ : ∃ D : Bool, D = true := ⟨_, rfl⟩
  have HN : Hid (D = true) := hD
  have HD := hid (toK (n := 13) (args := #[.pointer (some ⟨p, 0, none⟩)]) (v := .bool D) (w := w) (fun w' hb => (done_any (h.kept hb)).mono (by rintro e w'' ⟨rfl, q, rfl⟩; exact ⟨by rw [hdone, hD], below_drewN (Below.refl _ _) q⟩)))
  clear h hc hd hdone hD
  go_enter Try.func72, Try.ntmps72
  go_upto_region 1 with (fail)
  refine wp_region_quiet_below (by kernel_rfl) (by decide +kernel) ?_
  iterate 8 (quiet_step (first | (go_at_call 13; exact HD.out _ _)))
  iterate 13 (refine wpQuiet_step (fun K hK => ?_); go_simp; (try rw [if_pos HN.out]); refine hK _ ?_; clear hK K)
  iterate 3 (refine wpQuiet_step (fun K hK => ?_); go_simp; (try rw [if_pos HN.out]); refine hK _ ?_; clear hK K)
  refine wpQuiet_nil ?_
  intro w1 hw'
  obtain ⟨⟨dq, osq⟩, hw''⟩ := hw'
  subst hw''
  go_wp2_with fail
  go_ret
  exact ⟨by simp [HN.out], below_regrown w dq osq⟩
set_option maxHeartbeats 2000000 in
theorem endOut_n (h : SbR w p F a cap) (hc : F.closed = true) (hd : F.acked ≤ F.end_) {N : Nat} (hN : F.L.length = N + 1) : Calls Try.prog 72 #[.pointer (some ⟨p, 0, none⟩)] w fun e w' => e = .returned (.bool (F.L[N]'(by omega)).out) ∧ Below w.heap.size w w' := by
  have hdone : F.done = false := by unfold Sb.done; rw [hc]; simp; omega
  obtain ⟨g, o, rfl, q0, q1, q2, q3, q4, q5⟩ := h.ck.cell (show N < F.L.length by omega)
  have c6 := cell_regrown (w := w) (a := ⟨p, 6, none⟩) (v := .bool true) (by rw [← hc]; exact h.row.cell 6 _ rfl)
  have c7 := cell_regrown (w := w) (a := ⟨p, 7, none⟩) (v := .slice (some ⟨g, o, none⟩) (N + 1) cap) (by rw [← hN]; exact h.row.cell 7 _ rfl)
  have r4 := cell_regrown q4
  have HD := hid (toK (n := 13) (args := #[.pointer (some ⟨p, 0, none⟩)]) (v := .bool false) (w := w) (fun w' hb => (done_any (h.kept hb)).mono (by rintro e w'' ⟨rfl, q, rfl⟩; exact ⟨by rw [hdone], below_drewN (Below.refl _ _) q⟩)))
  have hNm : (N : Int) ≤ 65536 := by have := h.ok.nl; omega
  have wN : IntKind.i64.wrap (N : Int) = N := by rw [IntKind.wrap_i64]; omega
  have lN : (N : Int) < (N : Int) + 1 := by omega
  have hlc := h.lc
  rw [hN] at hlc
  generalize (F.L[N]'(by omega)).out = ou at *
  clear h hc hd hdone q0 q1 q2 q3 q4 q5
  go_enter Try.func72, Try.ntmps72
  go_upto_region 1 with (fail)
  refine wp_region_quiet_below (by kernel_rfl) (by decide +kernel) ?_
  iterate 24 (quiet_step (first | (go_at_call 13; exact HD.out _ _)))
  refine wpQuiet_nil ?_
  intro w1 hw'
  obtain ⟨⟨dq, osq⟩, hw''⟩ := hw'
  subst hw''
  go_wp2_with fail
  go_ret
  exact ⟨by first | rfl | simp, below_regrown w dq osq⟩
end
end Go.Proofs.Ytnohammflhadpaa
