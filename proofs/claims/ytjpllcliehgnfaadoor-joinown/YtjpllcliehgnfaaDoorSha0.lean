import Derived.Test.YtjpllcliehgnfaaDoorRows0
namespace Go.Proofs.YtjpllcliehgnfaaDoor
open Go.RowKit

def sg0 (x : BitVec 32) : BitVec 32 := rotr x 7 ^^^ rotr x 18 ^^^ x >>> 3
def sg1 (x : BitVec 32) : BitVec 32 := rotr x 17 ^^^ rotr x 19 ^^^ x >>> 10
/-- The t-th word of a block. -/
def blockWord (b : List (BitVec 8)) (t : Nat) : BitVec 32 := word4 (b.getD (4 * t) 0) (b.getD (4 * t + 1) 0) (b.getD (4 * t + 2) 0) (b.getD (4 * t + 3) 0)
/-- The word behind those that are there. -/
def nextWord (ws : List (BitVec 32)) : BitVec 32 :=
  ws.getD (ws.length - 16) 0 + sg0 (ws.getD (ws.length - 15) 0) + ws.getD (ws.length - 7) 0 + sg1 (ws.getD (ws.length - 2) 0)
def firstWords (b : List (BitVec 8)) (n : Nat) : List (BitVec 32) := (List.range n).map (blockWord b)
/-- A block's sixteen words, and n that are made of them. -/
def wordsOf (b : List (BitVec 8)) : Nat → List (BitVec 32)
  | 0 => firstWords b 16
  | n + 1 => wordsOf b n ++ [nextWord (wordsOf b n)]
theorem wordsOf_len (b : List (BitVec 8)) (n : Nat) : (wordsOf b n).length = 16 + n := by
  induction n with
  | zero => simp [wordsOf, firstWords]
  | succ n ih => simp [wordsOf, ih]; omega
/-- Words, and zeros behind them up to 64. -/
def filled (l : List (BitVec 32)) : List (BitVec 32) := l ++ List.replicate (64 - l.length) 0#32
theorem filled_len (l : List (BitVec 32)) (h : l.length ≤ 64) : (filled l).length = 64 := by simp [filled]; omega
theorem filled_set (l : List (BitVec 32)) (x : BitVec 32) (h : l.length < 64) : (filled l).set l.length x = filled (l ++ [x]) := by
  unfold filled
  rw [List.set_append_right _ _ (Nat.le_refl _), Nat.sub_self]
  obtain ⟨n, hn⟩ : ∃ n, 64 - l.length = n + 1 := ⟨63 - l.length, by omega⟩
  have : 64 - (l ++ [x]).length = n := by simp; omega
  rw [hn, this, List.replicate_succ]
  simp
theorem filled_get (l : List (BitVec 32)) (j : Nat) (h : j < l.length) (h2 : j < (filled l).length) : (filled l)[j] = l.getD j 0 := by
  simp [filled, h]
theorem firstWords_snoc (b : List (BitVec 8)) (k : Nat) : firstWords b (k + 1) = firstWords b k ++ [blockWord b k] := by
  simp [firstWords, List.range_succ]
theorem firstWords_len (b : List (BitVec 8)) (k : Nat) : (firstWords b k).length = k := by simp [firstWords]
theorem wget {l : List (BitVec 32)} (hl : l.length ≤ 64) {w : World} {g : Nat} (R : Row w g (wcells (filled l)) 99) (j : Nat) (hj : j < l.length) : w.cell? ⟨g, j, none⟩ = some (.int .u32 (u (l.getD j 0))) := by
  have h2 : j < (filled l).length := by rw [filled_len l hl]; omega
  rw [R.cell j _ (wcells_get h2), filled_get l j hj h2]
theorem wget0 {l : List (BitVec 32)} (hl : l.length ≤ 64) {w : World} {g : Nat} (R : Row w g (wcells (filled l)) 99) (j : Nat) (hj : j < 64) : ∃ v, w.cell? ⟨g, j, none⟩ = some v :=
  ⟨_, R.cell j _ (wcells_get (by rw [filled_len l hl]; exact hj))⟩
theorem filled_full (l : List (BitVec 32)) (h : l.length = 64) : filled l = l := by simp [filled, h]
end Go.Proofs.YtjpllcliehgnfaaDoor
