import Derived.Test.YtjbjaklbckhodabRemove
namespace Go.Proofs.Ytjbjaklbckhodab
open Go.RowKit
set_option maxRecDepth 100000

/-- A slice of the caller's, in whatever memory: its stretches' cells. -/
structure Cells (w : World) (a : Option Addr) (L : List Rg) : Prop where
  row : L ≠ [] → ∃ ad, a = some ad ∧ ∀ j v, (flat L)[j]? = some v → w.cell? (ad.add j) = some v
theorem Cells.kept {w w' : World} {a : Option Addr} {L : List Rg} (C : Cells w a L) (hb : Below w.heap.size w w') : Cells w' a L :=
  ⟨fun h => by obtain ⟨ad, e, hc⟩ := C.row h; exact ⟨ad, e, fun j v hj => cell_kept hb (hc j v hj)⟩⟩

set_option maxHeartbeats 1000000 in
/-- copied: a new row with the same stretches. -/
theorem copied_any {w : World} {a : Option Addr} {cap : Nat} {L : List Rg} (C : Cells w a L) (hf : L.length * 16 ≤ 140737488355328) :
    Calls Try.prog 17 #[.slice a L.length cap] w fun e w' => ∃ g, e = .returned (.slice (some ⟨g, 0, none⟩) L.length L.length) ∧ w.heap.size ≤ g ∧ w'.heap[g]? = some (.cells (flat L).toArray 25 (0, 0)) ∧ Below w.heap.size w w' := by
  obtain ⟨i, hi, hz0, hz1, hz2⟩ := info_parts info29
  obtain ⟨w1, hmk, hown, hg1⟩ := run_make_full (P := Try.prog) w 0 22 25 i _ 2 Try.underlying22 hi hz0 hz1 .i64 .i64 L.length (by rw [hz2]; omega) (by unfold maxLen; omega) (Nat.zero_le _)
  obtain ⟨hl1, ⟨h, _⟩ | ⟨g, cp, cur, hv, _, hg, _, _, hcs, _⟩⟩ := hown
  · simp at h
  simp only [Value.slice.injEq, Option.some.injEq, Addr.mk.injEq, and_true, true_and] at hv
  obtain ⟨rfl, rfl⟩ := hv
  have hb1 : Below w.heap.size w w1 := (Below.refl _ _).grown hg1 (Nat.le_refl _) (fun k e => by simp at e)
  obtain ⟨w2, hcp, hrow, hg2⟩ := run_copy2 w1 3 (some ⟨w.heap.size, 0, none⟩) a L.length L.length L.length cap w.heap.size 0 cur.toList (by simpa using hg) (flat L) (by rw [length_flat]; simp only [Nat.min_def]; split <;> omega)
    (fun hp => by
      obtain ⟨ad, rfl, hc⟩ := C.row (fun e => by rw [e] at hp; simp [flat] at hp)
      exact ⟨rfl, ad, rfl, fun j v hj => cell_kept hb1 (hc j v hj)⟩) (by rw [length_flat]; simp [hcs]) (flat_one L)
  have hfull : splice cur.toList 0 (flat L) = flat L := by
    unfold splice
    rw [List.drop_eq_nil_of_le (by rw [length_flat]; simp [hcs])]
    simp
  rw [hfull] at hrow
  have HE : Hid (w2.heap[w.heap.size]? = some (.cells (flat L).toArray 25 (0, 0)) ∧ Below w.heap.size w w2) := ⟨hrow, hb1.grown hg2 hb1.size (fun k e => by simp at e; omega)⟩
  clear hrow hfull hg2 hb1 hg hcs hl1 hg1 hi hz0 hz1 hz2 C
  go_enter Try.func17, Try.ntmps17
  go_wp2
  go_ret
  exact ⟨_, rfl, Nat.le_refl _, HE.out⟩

theorem View.cells {w : World} {p : Nat} {a : Option Addr} {cap : Nat} {L : List Rg} (V : View w p a cap L) : Cells w a L := by
  refine ⟨fun hne => ?_⟩
  have hl : 0 < L.length := List.length_pos_iff.2 hne
  obtain ⟨g, rfl, _⟩ := V.row 0 hl
  refine ⟨_, rfl, fun j v hj => ?_⟩
  have hjl : j < L.length * 2 := by rw [← length_flat]; exact (List.getElem?_eq_some_iff.1 hj).1
  have hk : j / 2 < L.length := by omega
  have hf := flat_get L (j / 2) hk
  obtain ⟨c1, c2⟩ := V.at (j / 2) hk
  rw [Addr.add_lit, Nat.zero_add]
  by_cases he : j % 2 = 0
  · rw [show j / 2 * 2 = j by omega] at hf c1
    rw [hf.1] at hj
    rw [c1, hj]
  · rw [show j / 2 * 2 + 1 = j by omega] at hf c2
    rw [hf.2] at hj
    rw [c2, hj]

set_option maxHeartbeats 1000000 in
/-- Ranges: a new row with the set's stretches. -/
theorem ranges_any {w : World} {p : Nat} {a : Option Addr} {cap : Nat} {L : List Rg} (V : View w p a cap L) (hf : L.length * 16 ≤ 140737488355328) :
    Calls Try.prog 11 #[.pointer (some ⟨p, 0, none⟩)] w fun e w' => ∃ g, e = .returned (.slice (some ⟨g, 0, none⟩) L.length L.length) ∧ w.heap.size ≤ g ∧ w'.heap[g]? = some (.cells (flat L).toArray 25 (0, 0)) ∧ Below w.heap.size w w' := by
  have hC := copied_any (cap := cap) V.cells hf
  have hd := V.head
  clear V
  go_enter Try.func11, Try.ntmps11
  go_wp2_with fail
  refine hC.mono ?_
  rintro e w' ⟨g, rfl, h1, h2, h3⟩
  have HE : Hid _ := And.intro h1 (And.intro h2 h3)
  clear h1 h2 h3
  go_wp2
  go_ret
  exact ⟨_, rfl, HE.out⟩

end Go.Proofs.Ytjbjaklbckhodab
