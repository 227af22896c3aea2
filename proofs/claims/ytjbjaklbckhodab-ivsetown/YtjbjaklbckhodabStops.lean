import Derived.Test.YtjbjaklbckhodabAll
import Derived.Test.YtjbjaklbckhodabSameC
import Derived.Laws.EntriesVeiled
import Derived.Sort.CutIn
namespace Go.Proofs.Ytjbjaklbckhodab
open Go.RowKit Go.Shelf
set_option maxRecDepth 100000
attribute [local go_sem] Oper.semAt_some

/-- New and the document's Of make the same stretches. -/
theorem new_of {L L' P : List Rg} (hw : ∀ r ∈ L, 0 ≤ r.1 ∧ r.2 ≤ 18446744073709551615) (hL : L'.Perm L) (hP : P.Perm (L.filter fun r => decide (r.1 < r.2))) (hp : P.Pairwise (fun a b => a.1 ≤ b.1)) : ofL P = addAll L' := by
  have h1 := of_is hw hP hp
  have hw' : ∀ r ∈ L', 0 ≤ r.1 ∧ r.2 ≤ 18446744073709551615 := fun r hr => hw r (hL.mem_iff.1 hr)
  have h2 := addAll_fit L' hw' L'.length (Nat.le_refl _)
  have h3 := fun y => addAll_mem L' hw' y L'.length (Nat.le_refl _)
  rw [List.take_length] at h2
  simp only [List.take_length] at h3
  refine fit_ext _ _ h1.1 h2.1 fun y => (h1.2 y).trans (((h3 y).trans ?_).symm)
  unfold mem
  constructor
  · rintro ⟨r, hr, h⟩; exact ⟨r, hL.mem_iff.1 hr, h⟩
  · rintro ⟨r, hr, h⟩; exact ⟨r, hL.mem_iff.2 hr, h⟩

theorem allL_lt {M : List Rg} {m : Int} (h : 0 < m ∧ m < (M.length : Int)) : allL M m = M.take m.toNat := if_pos ⟨by omega, by omega⟩
theorem allL_ge {M : List Rg} {m : Int} (h : ¬ (0 < m ∧ m < (M.length : Int))) : allL M m = M := by
  unfold allL
  split
  · rw [show m.toNat = M.length by omega, List.take_length]
  · rfl
theorem own_room {w : World} {B : Nat} {a : Option Addr} {c : Nat} {L : List Rg} (h : w.ownsRow B 25 2 (.slice a L.length c) L.length (flat L)) : L.length ≤ c := by
  rcases h.2 with ⟨e, hn⟩ | ⟨g, cap, cur, e, _, _, hc, _⟩
  · omega
  · simp at e; omega
theorem own_turned {w w' : World} {base : Nat} {e : TypeId} {size : Nat} {v u u' : Value} {n p : Nat} {xs : List Value} (h : w.ownsRow base e size v n xs) (T : Turned w w' p u u') (hne : ∀ g, v.ownBlock = some g → g ≠ p ∧ some g ≠ u.ownBlock) : w'.ownsRow base e size v n xs := by
  refine ⟨h.1, ?_⟩
  rcases h.2 with ⟨rfl, h0⟩ | ⟨g, cap, cur, rfl, h1, h2, h3⟩
  · exact .inl ⟨rfl, h0⟩
  · refine .inr ⟨g, cap, cur, rfl, h1, ?_, h3⟩
    exact (T.block g (Array.getElem?_eq_some_iff.1 h2).1 (hne g rfl).1 (hne g rfl).2).trans h2
theorem same_below {w : World} {a a' : Option Addr} {c c' : Nat} {L : List Rg} (C : Cells w a L) (D : Cells w a' L) (hf : L.length * 16 ≤ 140737488355328) :
    Calls Try.prog 7 #[.slice a L.length c, .slice a' L.length c'] w fun e w' => e = .returned (.bool true) ∧ Below w.heap.size w w' :=
  (same_cells C D hf).mono fun _ _ ⟨h, q, hq⟩ => ⟨h, by rw [hq]; exact below_drewN (Below.refl _ _) q⟩
/-- How many have been counted, as an int. -/
def howMany (k : Nat) : Int := wrap64 (k : Int)
theorem howMany_succ (k : Nat) : wrap64 (howMany k + 1) = howMany (k + 1) := by unfold howMany wrap64; omega
theorem howMany_mul (k : Nat) : howMany (k * k) = wrap64 ((k : Int) * (k : Int)) := by unfold howMany; rw [Int.natCast_mul]
theorem own_cells_at {w : World} {B : Nat} {a : Option Addr} {c : Nat} {L : List Rg} (h : w.ownsRow B 25 2 (.slice a L.length c) L.length (flat L)) : Cells w a L := by
  obtain ⟨a', c', e, hC⟩ := own_cells h
  cases e
  exact hC
theorem allL_zero (M : List Rg) : allL M 0 = M := if_neg (by omega)
theorem allL_len (M : List Rg) (m : Int) : (allL M m).length ≤ M.length := by
  unfold allL
  split
  · rw [List.length_take]; omega
  · exact Nat.le_refl _
theorem cells_take {w : World} {a : Option Addr} {L : List Rg} (C : Cells w a L) (k : Nat) : Cells w a (L.take k) := by
  refine ⟨fun h => ?_⟩
  obtain ⟨ad, e, hc⟩ := C.row (fun e => h (by rw [e]; simp))
  refine ⟨ad, e, fun j v hj => hc j v ?_⟩
  have hl : L = L.take k ++ L.drop k := (List.take_append_drop k L).symm
  rw [hl, flat_append]
  rw [List.getElem?_append_left (List.getElem?_eq_some_iff.1 hj).1]
  exact hj
theorem cells_all {w : World} {a : Option Addr} {L : List Rg} (C : Cells w a L) (m : Int) : Cells w a (allL L m) := by
  unfold allL
  split
  · exact cells_take C _
  · exact C

end Go.Proofs.Ytjbjaklbckhodab
