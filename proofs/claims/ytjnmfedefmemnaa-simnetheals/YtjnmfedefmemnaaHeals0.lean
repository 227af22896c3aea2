import Derived.Test.YtjnmfedefmemnaaSpoil
import Derived.Test.YtjnmfedefmemnaaRowB
namespace Go.Proofs.Ytjnmfedefmemnaa
open Go.RowKit Go.Maps
set_option maxRecDepth 100000

/-- One spoiling, if its place is there. -/
def ap (n : Nat) (T : Nat → BitVec 8) (a : Int) (m : BitVec 8) : Nat → BitVec 8 := if 0 ≤ a ∧ a < n then turnT T a.toNat m else T
/-- What spoilings turn, by their numbers. -/
def Tl (n : Nat) (pl : List Int) (ms : List (BitVec 8)) (l : List Nat) : Nat → BitVec 8 := l.foldl (fun T j => ap n T (pl.getD j 0) (ms.getD j 0)) (fun _ => 0)
theorem Tl_snoc (n : Nat) (pl : List Int) (ms : List (BitVec 8)) (l : List Nat) (j : Nat) : Tl n pl ms (l ++ [j]) = ap n (Tl n pl ms l) (pl.getD j 0) (ms.getD j 0) := by simp [Tl]
/-- What one of them turns at a place. -/
def cb (n : Nat) (pl : List Int) (ms : List (BitVec 8)) (i x : Nat) : BitVec 8 := if 0 ≤ pl.getD x 0 ∧ pl.getD x 0 < n ∧ (pl.getD x 0).toNat = i then ms.getD x 0 else 0
def xs (n : Nat) (pl : List Int) (ms : List (BitVec 8)) (i : Nat) : List Nat → BitVec 8
  | [] => 0
  | x :: l => cb n pl ms i x ^^^ xs n pl ms i l
theorem xs_append (n : Nat) (pl : List Int) (ms : List (BitVec 8)) (i : Nat) : ∀ a b : List Nat, xs n pl ms i (a ++ b) = xs n pl ms i a ^^^ xs n pl ms i b
  | [], b => by simp [xs]
  | x :: a, b => by
    show cb n pl ms i x ^^^ xs n pl ms i (a ++ b) = (cb n pl ms i x ^^^ xs n pl ms i a) ^^^ xs n pl ms i b
    rw [xs_append n pl ms i a b, BitVec.xor_assoc]
theorem ap_at (n : Nat) (T : Nat → BitVec 8) (pl : List Int) (ms : List (BitVec 8)) (i x : Nat) : ap n T (pl.getD x 0) (ms.getD x 0) i = T i ^^^ cb n pl ms i x := by
  unfold ap cb turnT
  by_cases h : 0 ≤ pl.getD x 0 ∧ pl.getD x 0 < n
  · rw [if_pos h]
    by_cases e : i = (pl.getD x 0).toNat
    · rw [if_pos e, if_pos ⟨h.1, h.2, e.symm⟩]
    · rw [if_neg e, if_neg (fun hh => e hh.2.2.symm)]
      simp
  · rw [if_neg h, if_neg (fun hh => h ⟨hh.1, hh.2.1⟩)]
    simp
theorem foldl_xs (n : Nat) (pl : List Int) (ms : List (BitVec 8)) (i : Nat) : ∀ (l : List Nat) (T : Nat → BitVec 8), (l.foldl (fun T j => ap n T (pl.getD j 0) (ms.getD j 0)) T) i = T i ^^^ xs n pl ms i l
  | [], T => by simp [xs]
  | x :: l, T => by
    rw [List.foldl_cons, foldl_xs n pl ms i l, ap_at]
    show (T i ^^^ cb n pl ms i x) ^^^ xs n pl ms i l = T i ^^^ (cb n pl ms i x ^^^ xs n pl ms i l)
    rw [BitVec.xor_assoc]
theorem Tl_at (n : Nat) (pl : List Int) (ms : List (BitVec 8)) (l : List Nat) (i : Nat) : Tl n pl ms l i = xs n pl ms i l := by
  unfold Tl
  rw [foldl_xs]
  simp
/-- All of them once, then all of them once more in turn from F on: nothing is turned. -/
theorem Tl_heals (n : Nat) (pl : List Int) (ms : List (BitVec 8)) (k F : Nat) (hF : F < k) (i : Nat) : Tl n pl ms (List.range k ++ (List.range k).map fun x => (F + x) % k) i = 0 := by
  obtain ⟨m, rfl⟩ : ∃ m, k = F + m := ⟨k - F, by omega⟩
  have h1 : List.range (F + m) = List.range F ++ (List.range m).map (F + ·) := List.range_add
  have h2 : (List.range (F + m)).map (fun x => (F + x) % (F + m)) = (List.range m).map (F + ·) ++ List.range F := by
    rw [Nat.add_comm F m, List.range_add, List.map_append, List.map_map]
    congr 1
    · apply List.map_congr_left
      intro x hx
      have : x < m := by simpa using hx
      show (F + x) % (m + F) = F + x
      exact Nat.mod_eq_of_lt (by omega)
    · have : (List.range F).map (fun x => (F + (m + x)) % (m + F)) = List.range F := by
        conv => rhs; rw [← List.map_id (List.range F)]
        apply List.map_congr_left
        intro x hx
        have hx' : x < F := by simpa using hx
        show (F + (m + x)) % (m + F) = x
        rw [show F + (m + x) = x + (m + F) by omega, Nat.add_mod_right, Nat.mod_eq_of_lt (by omega)]
      exact this
  rw [Tl_at, xs_append, h2, h1, xs_append, xs_append]
  generalize xs n pl ms i (List.range F) = A
  generalize xs n pl ms i ((List.range m).map (F + ·)) = B
  rw [BitVec.xor_assoc, ← BitVec.xor_assoc B B A, BitVec.xor_self]
  simp
theorem sp_eq (T : Nat → BitVec 8) (f : List (BitVec 8)) : sp T f.length = !decide (xorT f T = f) := by
  by_cases h : xorT f T = f
  · rw [decide_eq_true h]
    cases e : sp T f.length
    · rfl
    · obtain ⟨j, hj, hT⟩ := (sp_iff T f.length).1 e
      have h1 : (xorT f T)[j]'(by rw [xorT_len]; exact hj) = f[j] := by simp only [h]
      rw [xorT_get hj] at h1
      exact absurd (by
        have h2 : f[j] ^^^ (f[j] ^^^ T j) = f[j] ^^^ f[j] := by rw [h1]
        rw [← BitVec.xor_assoc, BitVec.xor_self] at h2
        simpa using h2) hT
  · rw [decide_eq_false h]
    cases e : sp T f.length
    · exact absurd (xorT_zero fun j hj => Classical.byContradiction fun hT => by
        have := (sp_iff T f.length).2 ⟨j, hj, hT⟩
        rw [e] at this
        cases this) h
    · rfl
theorem xorT_turn {f : List (BitVec 8)} {T : Nat → BitVec 8} {j : Nat} (hj : j < f.length) (m : BitVec 8) : (xorT f T).set j ((xorT f T)[j]'(by rw [xorT_len]; exact hj) ^^^ m) = xorT f (turnT T j m) := by
  apply List.ext_getElem
  · rw [List.length_set, xorT_len, xorT_len]
  · intro i h1 h2
    have hi : i < f.length := by rw [xorT_len] at h2; exact h2
    rw [xorT_get hi]
    unfold turnT
    by_cases e : i = j
    · subst e
      rw [List.getElem_set_self, if_pos rfl, xorT_get hi, BitVec.xor_assoc]
    · rw [List.getElem_set_ne (Ne.symm e), if_neg e, xorT_get hi]
end Go.Proofs.Ytjnmfedefmemnaa
