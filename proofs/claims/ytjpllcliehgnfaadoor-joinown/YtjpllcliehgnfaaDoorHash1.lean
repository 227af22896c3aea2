import Derived.Test.YtjpllcliehgnfaaDoorHash0
namespace Go.Proofs.YtjpllcliehgnfaaDoor
open Go.RowKit

/-- The n-th block of a text. -/
def chunk (t : List (BitVec 8)) (n : Nat) : List (BitVec 8) := (t.drop (64 * n)).take 64
def st0 : St := ⟨1779033703#32, 3144134277#32, 1013904242#32, 2773480762#32, 1359893119#32, 2600822924#32, 528734635#32, 1541459225#32⟩
/-- The state behind n blocks of a text. -/
def stAt (t : List (BitVec 8)) : Nat → St
  | 0 => st0
  | n + 1 => mix (stAt t n) (chunk t n)
theorem chunk_append (t v : List (BitVec 8)) (n : Nat) (h : 64 * (n + 1) ≤ t.length) : chunk (t ++ v) n = chunk t n := by
  unfold chunk
  rw [List.drop_append_of_le_length (by omega), List.take_append_of_le_length (by simp; omega)]
theorem stAt_append (t v : List (BitVec 8)) (n : Nat) (h : 64 * n ≤ t.length) : stAt (t ++ v) n = stAt t n := by
  induction n with
  | zero => rfl
  | succ n ih => simp only [stAt]; rw [ih (by omega), chunk_append t v n h]

/-- The state and what is left of a block belong to the text c. -/
structure Took (c : List (BitVec 8)) (s : St) (left : List (BitVec 8)) : Prop where
  st : s = stAt c (c.length / 64)
  len : left.length = 64
  rest : left.take (c.length % 64) = c.drop (64 * (c.length / 64))

section
variable {c : List (BitVec 8)} {s : St} {left : List (BitVec 8)}
theorem Took.less (h : Took c s left) (v : List (BitVec 8)) (hv : c.length % 64 + v.length < 64) : Took (c ++ v) s (laidIn left (c.length % 64) v) := by
  have hl : (c ++ v).length = c.length + v.length := by simp
  have hd : (c ++ v).length / 64 = c.length / 64 := by omega
  have hm : (c ++ v).length % 64 = c.length % 64 + v.length := by omega
  refine ⟨?_, by rw [laidIn_len _ _ _ (by rw [h.len]; omega), h.len], ?_⟩
  · rw [hd, stAt_append _ _ _ (by omega)]; exact h.st
  · rw [hd, hm, List.drop_append_of_le_length (by omega), ← h.rest]
    have hlen := h.len
    unfold laidIn
    rw [List.take_append_of_le_length (by simp; omega), List.take_of_length_le (by simp; omega)]
theorem Took.full (h : Took c s left) (v : List (BitVec 8)) (hv : c.length % 64 + v.length = 64) : Took (c ++ v) (mix s (laidIn left (c.length % 64) v)) (laidIn left (c.length % 64) v) := by
  have hl : (c ++ v).length = c.length + v.length := by simp
  have hd : (c ++ v).length / 64 = c.length / 64 + 1 := by omega
  have hm : (c ++ v).length % 64 = 0 := by omega
  have hlen := h.len
  have he : laidIn left (c.length % 64) v = left.take (c.length % 64) ++ v := by
    unfold laidIn
    rw [List.drop_eq_nil_of_le (by omega), List.append_nil]
  have hch : chunk (c ++ v) (c.length / 64) = laidIn left (c.length % 64) v := by
    unfold chunk
    rw [he, h.rest, List.drop_append_of_le_length (by omega), List.take_of_length_le (by simp; omega)]
  refine ⟨?_, by rw [laidIn_len _ _ _ (by omega), h.len], ?_⟩
  · rw [hd]; simp only [stAt]; rw [hch, stAt_append _ _ _ (by omega), ← h.st]
  · rw [hm, List.take_zero, List.drop_eq_nil_of_le (by omega)]
theorem Took.nil (l : List (BitVec 8)) (h : l.length = 64) : Took [] st0 l := ⟨rfl, h, by simp⟩
end
end Go.Proofs.YtjpllcliehgnfaaDoor
