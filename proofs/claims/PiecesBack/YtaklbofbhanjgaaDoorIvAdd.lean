import Derived.Test.YtaklbofbhanjgaaDoorIvReplace
import Derived.Deep.Cut
import Derived.BigRegion
namespace Go.Proofs.YtaklbofbhanjgaaDoor
open Go.RowKit
set_option maxRecDepth 100000

/-- The set at p: its list v holds these stretches. -/
structure SetAt (w : World) (p : Nat) (v : Value) (L : List Rg) : Prop where
  hp : w.heap[p]? = some (.cells #[v] 60 (0, 0))
  own : w.ownsRow 0 92 2 v L.length (flat L)

/-- Of what was there nothing has turned but the set at p and its list's row. -/
structure Turned (w w' : World) (p : Nat) (v v' : Value) : Prop where
  os : w'.os = w.os
  tape : w'.tape = w.tape
  output : w'.output = w.output
  size : w.heap.size ≤ w'.heap.size
  block : ∀ k, k < w.heap.size → k ≠ p → some k ≠ v.ownBlock → w'.heap[k]? = w.heap[k]?
  row : v'.ownBlock = v.ownBlock ∨ ∃ g, v'.ownBlock = some g ∧ w.heap.size ≤ g

theorem SetAt.view {w : World} {p : Nat} {v : Value} {L : List Rg} (S : SetAt w p v L) (hf : (L.length + 1) * 16 ≤ 140737488355328) : ∃ a cap, v = .slice a L.length cap ∧ View w p a cap L := by
  have hc : w.cell? ⟨p, 0, none⟩ = some v := by rw [cell_of_row w p 0 _ _ _ S.hp]; rfl
  obtain ⟨hl, ⟨rfl, hn⟩ | ⟨g, cap, cur, rfl, _, hg, hnc, hcm, hcs, htk⟩⟩ := S.own
  · refine ⟨none, 0, by rw [hn], ⟨by rw [hn]; exact hc, fun i h => by omega, by omega, by unfold maxLen; omega, by omega, .inl ⟨rfl, rfl⟩⟩⟩
  · refine ⟨some ⟨g, 0, none⟩, cap, rfl, ⟨hc, fun i h => ⟨g, rfl, ?_, ?_⟩, hnc, hcm, by omega, .inr ⟨g, rfl⟩⟩⟩
    · rw [cell_of_row w g _ _ _ _ hg, ← (flat_get L i h).1, ← htk, List.getElem?_take, if_pos (by omega), Array.getElem?_toList]
    · rw [cell_of_row w g _ _ _ _ hg, ← (flat_get L i h).2, ← htk, List.getElem?_take, if_pos (by omega), Array.getElem?_toList]
theorem SetAt.kept {w w' : World} {p : Nat} {v : Value} {L : List Rg} (S : SetAt w p v L) (hb : Below w.heap.size w w') : SetAt w' p v L := by
  refine ⟨by rw [hb.block p (Array.getElem?_eq_some_iff.1 S.hp).1]; exact S.hp, S.own.1, ?_⟩
  obtain h | ⟨g, cap, cur, hv, h1, hg, h2⟩ := S.own.2
  · exact .inl h
  · exact .inr ⟨g, cap, cur, hv, h1, by rw [hb.block g (Array.getElem?_eq_some_iff.1 hg).1]; exact hg, h2⟩
theorem SetAt.apart {w : World} {p : Nat} {v : Value} {L : List Rg} (S : SetAt w p v L) : v.ownBlock ≠ some p := by
  obtain ⟨rfl, _⟩ | ⟨g, cap, cur, rfl, _, hg, _⟩ := S.own.2
  · simp [Value.ownBlock]
  · intro e
    simp only [Value.ownBlock, Option.some.injEq] at e
    rw [e, S.hp] at hg
    simp at hg

/-- What a range becomes, with the stretches that it meets or touches. -/
def hull (L : List Rg) (r : Rg) : Rg := if tchA L r < tchB L r then (min r.1 (nth L (tchA L r)).1, max r.2 (nth L (tchB L r - 1)).2) else r
def addL (L : List Rg) (r : Rg) : List Rg := if r.2 ≤ r.1 then L else L.take (tchA L r) ++ [hull L r] ++ L.drop (tchB L r)
def freshOf (L : List Rg) (r : Rg) : Int := if r.2 ≤ r.1 then 0 else r.2 - r.1 - total (clipL L r)

theorem tch_le {L : List Rg} (F : Fit L) (r : Rg) (hr : r.1 < r.2) : tchA L r ≤ tchB L r ∧ tchB L r ≤ L.length := by
  unfold tchA tchB
  refine ⟨Nat.le_of_not_lt fun hlt => ?_, front_le _ _⟩
  have hl := front_le (endAhead r.1) L
  have h1 := (front_spec (endAhead r.1) L).1 _ (by omega) hlt
  have h2 := (front_spec (beginBy r.2) L).2 (by omega)
  have hf := F.at (front (beginBy r.2) L) (by omega)
  simp only [endAhead, beginBy, decide_eq_true_eq, decide_eq_false_iff_not] at h1 h2
  omega
theorem total_within (C : List Rg) (F : Fit C) (a b : Int) (h : ∀ t ∈ C, a ≤ t.1 ∧ t.2 ≤ b) : ∀ k, k ≤ C.length → (∀ (_ : 0 < k) (hk : k - 1 < C.length), total (C.take k) ≤ C[k - 1].2 - a) := by
  intro k
  induction k with
  | zero => intro _ h; omega
  | succ k ih =>
    intro hk _ _
    have hk' : k < C.length := by omega
    have hm := h C[k] (List.getElem_mem hk')
    rw [total_snoc C k hk']
    simp only [Nat.add_sub_cancel]
    cases k with
    | zero => simp only [List.take_zero, total]; omega
    | succ j =>
      have h2 := ih (by omega) (by omega) (by omega)
      simp only [Nat.add_sub_cancel] at h2
      have h3 := F.lt j (j + 1) (by omega) hk'
      omega
theorem clip_total {L : List Rg} (F : Fit L) (r : Rg) (h0 : 0 ≤ r.1) (h1 : r.2 ≤ 18446744073709551615) (hr : r.1 < r.2) : 0 ≤ total (clipL L r) ∧ total (clipL L r) ≤ r.2 - r.1 := by
  have hF := clipL_fit F r h0 h1
  have hb := total_bd _ hF _ (Nat.le_refl _)
  have hin : ∀ t ∈ clipL L r, r.1 ≤ t.1 ∧ t.2 ≤ r.2 := by
    intro t ht
    simp only [clipL, List.mem_map] at ht
    obtain ⟨u, _, rfl⟩ := ht
    unfold clip
    simp only
    omega
  have hw := total_within _ hF r.1 r.2 hin _ (Nat.le_refl _)
  rw [List.take_length] at hb hw
  refine ⟨hb.1, ?_⟩
  by_cases hz : 0 < (clipL L r).length
  · have h2 := hw hz (by omega)
    have h3 := hin _ (List.getElem_mem (show (clipL L r).length - 1 < (clipL L r).length by omega))
    omega
  · have : clipL L r = [] := List.eq_nil_of_length_eq_zero (by omega)
    rw [this]
    simp only [total]
    omega

end Go.Proofs.YtaklbofbhanjgaaDoor
