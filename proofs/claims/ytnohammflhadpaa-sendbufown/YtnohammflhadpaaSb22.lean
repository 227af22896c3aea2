import Derived.Test.YtnohammflhadpaaSb21
namespace Go.Proofs.Ytnohammflhadpaa
open Go.RowKit Go.Maps Go.Sort
set_option maxRecDepth 100000

section
variable {w : World} {p : Nat} {F : Sb} {a : Option Addr} {cap : Nat}
set_option maxHeartbeats 2000000 in
theorem endOut_f (h : SbR w p F a cap) (hc : F.closed = false) : Calls Try.prog 72 #[.pointer (some ⟨p, 0, none⟩)] w fun e w' => e = .returned (.bool false) ∧ Below w.heap.size w w' := by
  have c6 := cell_regrown (w := w) (a := ⟨p, 6, none⟩) (v := .bool false) (by rw [← hc]; exact h.row.cell 6 _ rfl)
  clear h hc
  go_enter Try.func72, Try.ntmps72
  go_upto_region 1 with (fail)
  refine wp_region_quiet_below (by kernel_rfl) (by decide +kernel) ?_
  iterate 5 (quiet_step (fail))
  iterate 17 go_big_quiet_skip
  iterate 2 (quiet_step (fail))
  refine wpQuiet_nil ?_
  intro w1 hw'
  obtain ⟨⟨dq, osq⟩, hw''⟩ := hw'
  subst hw''
  go_wp2_with fail
  go_ret
  exact ⟨by first | rfl | simp, below_regrown w dq osq⟩
theorem endOut_any (h : SbR w p F a cap) (hF : F.Fin) : Calls Try.prog 72 #[.pointer (some ⟨p, 0, none⟩)] w fun e w' => e = .returned (.bool F.endOut) ∧ Below w.heap.size w w' := by
  unfold Sb.endOut Sb.done
  cases hc : F.closed with
  | false => exact endOut_f h hc
  | true =>
    by_cases hd : F.end_ < F.acked
    · rw [decide_eq_true hd]
      exact endOut_d h hc hd
    · rw [decide_eq_false hd]
      obtain ⟨c, hl, _⟩ := hF hc (by omega)
      rw [hl]
      have hne : F.L ≠ [] := by intro e; rw [e] at hl; simp at hl
      obtain ⟨N, hN⟩ : ∃ N, F.L.length = N + 1 := ⟨F.L.length - 1, by have := List.length_pos_iff.2 hne; omega⟩
      have e : F.L[N]'(by omega) = c := by
        rw [List.getLast?_eq_getElem?] at hl
        rw [hN, Nat.add_sub_cancel, List.getElem?_eq_getElem (by omega)] at hl
        simpa using hl
      have := endOut_n h hc (by omega) hN
      rw [e] at this
      simpa using this
set_option maxHeartbeats 1000000 in
theorem most_by (h : SbR w p F a cap) {b : Bool} (he : Calls Try.prog 72 #[.pointer (some ⟨p, 0, none⟩)] w fun e w' => e = .returned (.bool b) ∧ Below w.heap.size w w') :
    Calls Try.prog 43 #[.pointer (some ⟨p, 0, none⟩)] w fun e w' => e = .returned (.int .u64 (if b = true then F.high + 1 else F.high)) ∧ Below w.heap.size w w' := by
  have c3 := h.row.cell 3 _ rfl
  have h0 := h.ok.h0
  have h1 := h.ok.h1
  have h2 := h.ok.e1
  have hw : IntKind.u64.wrap (F.high + 1) = F.high + 1 := by rw [IntKind.wrap_u64]; omega
  clear h h0 h1 h2
  go_enter Try.func43, Try.ntmps43
  go_wp2_with fail
  refine he.mono ?_
  rintro e w1 ⟨rfl, hb⟩
  have c := cell_kept hb c3
  have HB := hid hb
  clear hb c3
  cases b with
  | true =>
    go_wp2_with fail
    go_ret
    exact ⟨by first | rfl | simp, HB.out⟩
  | false =>
    go_wp2_with fail
    go_ret
    exact ⟨by first | rfl | simp, HB.out⟩
end
end Go.Proofs.Ytnohammflhadpaa
