import Derived.Test.YtjpllcliehgnfaaDoorMix
namespace Go.Proofs.YtjpllcliehgnfaaDoor
open Go.RowKit

/-- Of the blocks that were there, block p alone may have turned. -/
structure Only (p : Nat) (w w' : World) : Prop where
  os : w'.os = w.os
  tape : w'.tape = w.tape
  output : w'.output = w.output
  size : w.heap.size ≤ w'.heap.size
  block : ∀ k, k < w.heap.size → k ≠ p → w'.heap[k]? = w.heap[k]?
section
variable {p : Nat} {w w' w'' : World}
theorem Only.refl (p : Nat) (w : World) : Only p w w := ⟨rfl, rfl, rfl, Nat.le_refl _, fun _ _ _ => rfl⟩
theorem Only.trans (h : Only p w w') (k : Only p w' w'') : Only p w w'' :=
  ⟨k.os.trans h.os, k.tape.trans h.tape, k.output.trans h.output, Nat.le_trans h.size k.size, fun i hi hp => (k.block i (Nat.lt_of_lt_of_le hi h.size) hp).trans (h.block i hi hp)⟩
theorem Only.of_below {B : Nat} (h : Below B w w') (hB : w.heap.size ≤ B) : Only p w w' := ⟨h.os, h.tape, h.output, h.size, fun k hk _ => h.block k (by omega)⟩
theorem Only.setRow (h : Only p w w') (cs : Array Value) : Only p w (w'.setRow p cs) :=
  ⟨h.os, h.tape, h.output, by rw [setRow_size]; exact h.size, fun k hk hp => (setRow_other w' p k cs hp).trans (h.block k hk hp)⟩
theorem Only.setCell (h : Only p w w') (o : Nat) (v : Value) : Only p w (w'.setCell ⟨p, o, none⟩ v) :=
  ⟨h.os, h.tape, h.output, by simp [World.setCell]; exact h.size, fun k hk hp => (Below.heap_setCell w' ⟨p, o, none⟩ v k hp).trans (h.block k hk hp)⟩
theorem Only.drawn (h : Only p w w') (n : Nat) : Only p w { w' with drawn := n } := ⟨h.os, h.tape, h.output, h.size, h.block⟩
theorem Only.below {B : Nat} (h : Only p w w') (hB : B ≤ w.heap.size) (hp : B ≤ p) : Below B w w' := ⟨h.os, h.tape, h.output, h.size, fun k hk => h.block k (by omega) (by omega)⟩
theorem Only.cell (h : Only p w w') {a : Addr} {v : Value} (hc : w.cell? a = some v) (hp : a.block ≠ p) : w'.cell? a = some v :=
  (World.cell?_of_block (w := w) (h.block a.block (World.block_lt_of_cell? w a hc) hp)).trans hc
theorem Only.row {g : Nat} {c : List Value} {t : TypeId} (h : Only p w w') (R : Row w g c t) (hg : g ≠ p) : Row w' g c t := R.of_block (h.block g R.lt hg)
theorem KTab.only (K : KTab w) (h : Only p w w') (hp : 1 ≤ p) : KTab w' := fun j hj => h.cell (K j hj) (show 0 ≠ p by omega)
end

/-- The bytes lie from a on, outside block p. -/
def BytesOff (p : Nat) (w : World) (a : Option Addr) (bs : List (BitVec 8)) : Prop :=
  ∀ k (h : k < bs.length), ∃ g o, a = some ⟨g, o, none⟩ ∧ g ≠ p ∧ w.cell? ⟨g, o + k, none⟩ = some (.int .u8 (ub bs[k]))
theorem BytesOff.only {p : Nat} {w w' : World} {a : Option Addr} {bs : List (BitVec 8)} (h : BytesOff p w a bs) (o : Only p w w') : BytesOff p w' a bs :=
  fun k hk => by obtain ⟨g, of, e, hg, c⟩ := h k hk; exact ⟨g, of, e, hg, o.cell c hg⟩

/-- A Hash's cells. -/
def hcells (s : St) (left : List (BitVec 8)) (n : Nat) : List Value := .bool true :: (wcells s.l ++ (bcells left ++ [.int .u64 (n : Int)]))
theorem hcells_len (s : St) (left : List (BitVec 8)) (n : Nat) (h : left.length = 64) : (hcells s left n).length = 74 := by
  simp [hcells, wcells_len, bcells_len, h, St.l]
theorem hcells_st (s : St) (left : List (BitVec 8)) (n : Nat) (j : Nat) (v : Value) (hv : (wcells s.l)[j]? = some v) : (hcells s left n)[1 + j]? = some v := by
  have hj : j < (wcells s.l).length := (List.getElem?_eq_some_iff.1 hv).1
  rw [Nat.add_comm]
  show (wcells s.l ++ _)[j]? = _
  rw [List.getElem?_append_left hj]; exact hv
theorem hcells_left (s : St) (left : List (BitVec 8)) (n : Nat) (j : Nat) (v : Value) (hv : (bcells left)[j]? = some v) : (hcells s left n)[9 + j]? = some v := by
  have hj : j < (bcells left).length := (List.getElem?_eq_some_iff.1 hv).1
  rw [show 9 + j = (8 + j) + 1 by omega]
  show (wcells s.l ++ _)[8 + j]? = _
  rw [List.getElem?_append_right (by simp [wcells_len, St.l]), show 8 + j - (wcells s.l).length = j by simp [wcells_len, St.l], List.getElem?_append_left hj]; exact hv
theorem hcells_size (s : St) (left : List (BitVec 8)) (n : Nat) (h : left.length = 64) : (hcells s left n)[73]? = some (.int .u64 (n : Int)) := by
  show (wcells s.l ++ _)[72]? = _
  rw [List.getElem?_append_right (by simp [wcells_len, St.l]), show 72 - (wcells s.l).length = 64 by simp [wcells_len, St.l], List.getElem?_append_right (by simp [bcells_len, h])]
  simp [bcells_len, h]
theorem hcells_setSize (s : St) (left : List (BitVec 8)) (n m : Nat) (h : left.length = 64) : (hcells s left n).set 73 (.int .u64 (m : Int)) = hcells s left m := by
  show _ :: (wcells s.l ++ _).set 72 _ = _
  rw [List.set_append_right _ _ (by simp [wcells_len, St.l]), show 72 - (wcells s.l).length = 64 by simp [wcells_len, St.l], List.set_append_right _ _ (by simp [bcells_len, h])]
  simp [bcells_len, h, hcells]
/-- Bytes laid into left from place k on. -/
def laidIn (left : List (BitVec 8)) (k : Nat) (bs : List (BitVec 8)) : List (BitVec 8) := left.take k ++ bs ++ left.drop (k + bs.length)
theorem laidIn_len (left : List (BitVec 8)) (k : Nat) (bs : List (BitVec 8)) (h : k + bs.length ≤ left.length) : (laidIn left k bs).length = left.length := by
  simp [laidIn]; omega
theorem hcells_laid (s : St) (left : List (BitVec 8)) (n k : Nat) (bs : List (BitVec 8)) (h : left.length = 64) (hk : k + bs.length ≤ 64) :
    (hcells s left n).take (9 + k) ++ bcells bs ++ (hcells s left n).drop (9 + k + bs.length) = hcells s (laidIn left k bs) n := by
  have hw : (wcells s.l).length = 8 := by simp [wcells_len, St.l]
  have e1 : (hcells s left n).take (9 + k) = .bool true :: (wcells s.l ++ bcells (left.take k)) := by
    rw [show 9 + k = (8 + k) + 1 by omega]
    show (.bool true :: (wcells s.l ++ _)).take (8 + k + 1) = _
    rw [List.take_succ_cons, List.take_append, hw, show 8 + k - 8 = k by omega, List.take_of_length_le (by omega), List.take_append, bcells_len, h, show k - 64 = 0 by omega]
    simp [bcells, List.map_take]
  have e2 : (hcells s left n).drop (9 + k + bs.length) = bcells (left.drop (k + bs.length)) ++ [.int .u64 (n : Int)] := by
    rw [show 9 + k + bs.length = (8 + (k + bs.length)) + 1 by omega]
    show (.bool true :: (wcells s.l ++ _)).drop (8 + (k + bs.length) + 1) = _
    rw [List.drop_succ_cons, List.drop_append, hw, show 8 + (k + bs.length) - 8 = k + bs.length by omega, List.drop_eq_nil_of_le (by omega), List.nil_append, List.drop_append, bcells_len, h, show k + bs.length - 64 = 0 by omega]
    simp [bcells, List.map_drop]
  rw [e1, e2]
  simp [hcells, laidIn, bcells]
theorem hcells_setSt (s t : St) (left : List (BitVec 8)) (n : Nat) :
    (hcells s left n).take 1 ++ wcells t.l ++ (hcells s left n).drop (1 + (wcells t.l).length) = hcells t left n := by
  simp [hcells, St.l, wcells]
end Go.Proofs.YtjpllcliehgnfaaDoor
