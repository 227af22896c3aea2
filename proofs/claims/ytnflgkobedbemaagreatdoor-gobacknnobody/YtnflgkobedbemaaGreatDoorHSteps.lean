import Derived.Test.YtnflgkobedbemaaGreatDoorHMix
import Derived.Great.Frames
namespace Go.Proofs.YtnflgkobedbemaaGreatDoor.Sh
open Go.RowKit

/-- Of the blocks that were there, block p alone may have turned. -/
structure Only (p : Nat) (w w' : World) : Prop where
  os : w'.os = w.os
  tape : w'.tape = w.tape
  output : w'.output = w.output
  size : w.heap.size ≤ w'.heap.size
  block : ∀ k, k < w.heap.size → k ≠ p → w'.heap[k]? = w.heap[k]?
section
variable {p : Nat} {w w' w'' : World}
theorem Only.refl (p : Nat) (w : World) : Only p w w := ⟨rfl, rfl, rfl, Nat.le_refl _, fun _ _ _ => rfl⟩
theorem Only.trans (h : Only p w w') (k : Only p w' w'') : Only p w w'' :=
  ⟨k.os.trans h.os, k.tape.trans h.tape, k.output.trans h.output, Nat.le_trans h.size k.size, fun i hi hp => (k.block i (Nat.lt_of_lt_of_le hi h.size) hp).trans (h.block i hi hp)⟩
theorem Only.of_below {B : Nat} (h : Below B w w') (hB : w.heap.size ≤ B) : Only p w w' := ⟨h.os, h.tape, h.output, h.size, fun k hk _ => h.block k (by omega)⟩
theorem Only.setRow (h : Only p w w') (cs : Array Value) : Only p w (w'.setRow p cs) :=
  ⟨h.os, h.tape, h.output, by rw [setRow_size]; exact h.size, fun k hk hp => (setRow_other w' p k cs hp).trans (h.block k hk hp)⟩
theorem Only.setCell (h : Only p w w') (o : Nat) (v : Value) : Only p w (w'.setCell ⟨p, o, none⟩ v) :=
  ⟨h.os, h.tape, h.output, by simp [World.setCell]; exact h.size, fun k hk hp => (Below.heap_setCell w' ⟨p, o, none⟩ v k hp).trans (h.block k hk hp)⟩
theorem Only.drawn (h : Only p w w') (n : Nat) : Only p w { w' with drawn := n } := ⟨h.os, h.tape, h.output, h.size, h.block⟩
theorem Only.below {B : Nat} (h : Only p w w') (hB : B ≤ w.heap.size) (hp : B ≤ p) : Below B w w' := ⟨h.os, h.tape, h.output, h.size, fun k hk => h.block k (by omega) (by omega)⟩
theorem Only.cell (h : Only p w w') {a : Addr} {v : Value} (hc : w.cell? a = some v) (hp : a.block ≠ p) : w'.cell? a = some v :=
  (World.cell?_of_block (w := w) (h.block a.block (World.block_lt_of_cell? w a hc) hp)).trans hc
theorem Only.row {g : Nat} {c : List Value} {t : TypeId} (h : Only p w w') (R : Row w g c t) (hg : g ≠ p) : Row w' g c t := R.of_block (h.block g R.lt hg)
theorem KTab.only (K : KTab w) (h : Only p w w') (hp : 3 ≤ p) : KTab w' := fun j hj => h.cell (K j hj) (show 2 ≠ p by omega)
end

/-- The bytes lie from a on, outside block p. -/
def BytesOff (p : Nat) (w : World) (a : Option Addr) (bs : List (BitVec 8)) : Prop :=
  ∀ k (h : k < bs.length), ∃ g o, a = some ⟨g, o, none⟩ ∧ g ≠ p ∧ w.cell? ⟨g, o + k, none⟩ = some (.int .u8 (ub bs[k]))
theorem BytesOff.only {p : Nat} {w w' : World} {a : Option Addr} {bs : List (BitVec 8)} (h : BytesOff p w a bs) (o : Only p w w') : BytesOff p w' a bs :=
  fun k hk => by obtain ⟨g, of, e, hg, c⟩ := h k hk; exact ⟨g, of, e, hg, o.cell c hg⟩

/-- A Hash's cells. -/
def hcells (s : St) (left : List (BitVec 8)) (n : Nat) : List Value := .bool true :: (wcells s.l ++ (bcells left ++ [.int .u64 (n : Int)]))
theorem hcells_len (s : St) (left : List (BitVec 8)) (n : Nat) (h : left.length = 64) : (hcells s left n).length = 74 := by
  simp [hcells, wcells_len, bcells_len, h, St.l]
theorem hcells_st (s : St) (left : List (BitVec 8)) (n : Nat) (j : Nat) (v : Value) (hv : (wcells s.l)[j]? = some v) : (hcells s left n)[1 + j]? = some v := by
  have hj : j < (wcells s.l).length := (List.getElem?_eq_some_iff.1 hv).1
  rw [Nat.add_comm]
  show (wcells s.l ++ _)[j]? = _
  rw [List.getElem?_append_left hj]; exact hv
theorem hcells_left (s : St) (left : List (BitVec 8)) (n : Nat) (j : Nat) (v : Value) (hv : (bcells left)[j]? = some v) : (hcells s left n)[9 + j]? = some v := by
  have hj : j < (bcells left).length := (List.getElem?_eq_some_iff.1 hv).1
  rw [show 9 + j = (8 + j) + 1 by omega]
  show (wcells s.l ++ _)[8 + j]? = _
  rw [List.getElem?_append_right (by simp [wcells_len, St.l]), show 8 + j - (wcells s.l).length = j by simp [wcells_len, St.l], List.getElem?_append_left hj]; exact hv
theorem hcells_size (s : St) (left : List (BitVec 8)) (n : Nat) (h : left.length = 64) : (hcells s left n)[73]? = some (.int .u64 (n : Int)) := by
  show (wcells s.l ++ _)[72]? = _
  rw [List.getElem?_append_right (by simp [wcells_len, St.l]), show 72 - (wcells s.l).length = 64 by simp [wcells_len, St.l], List.getElem?_append_right (by simp [bcells_len, h])]
  simp [bcells_len, h]
theorem hcells_setSize (s : St) (left : List (BitVec 8)) (n m : Nat) (h : left.length = 64) : (hcells s left n).set 73 (.int .u64 (m : Int)) = hcells s left m := by
  show _ :: (wcells s.l ++ _).set 72 _ = _
  rw [List.set_append_right _ _ (by simp [wcells_len, St.l]), show 72 - (wcells s.l).length = 64 by simp [wcells_len, St.l], List.set_append_right _ _ (by simp [bcells_len, h])]
  simp [bcells_len, h, hcells]
/-- Bytes laid into left from place k on. -/
def laidIn (left : List (BitVec 8)) (k : Nat) (bs : List (BitVec 8)) : List (BitVec 8) := left.take k ++ bs ++ left.drop (k + bs.length)
theorem laidIn_len (left : List (BitVec 8)) (k : Nat) (bs : List (BitVec 8)) (h : k + bs.length ≤ left.length) : (laidIn left k bs).length = left.length := by
  simp [laidIn]; omega
theorem hcells_laid (s : St) (left : List (BitVec 8)) (n k : Nat) (bs : List (BitVec 8)) (h : left.length = 64) (hk : k + bs.length ≤ 64) :
    (hcells s left n).take (9 + k) ++ bcells bs ++ (hcells s left n).drop (9 + k + bs.length) = hcells s (laidIn left k bs) n := by
  have hw : (wcells s.l).length = 8 := by simp [wcells_len, St.l]
  have e1 : (hcells s left n).take (9 + k) = .bool true :: (wcells s.l ++ bcells (left.take k)) := by
    rw [show 9 + k = (8 + k) + 1 by omega]
    show (.bool true :: (wcells s.l ++ _)).take (8 + k + 1) = _
    rw [List.take_succ_cons, List.take_append, hw, show 8 + k - 8 = k by omega, List.take_of_length_le (by omega), List.take_append, bcells_len, h, show k - 64 = 0 by omega]
    simp [bcells, List.map_take]
  have e2 : (hcells s left n).drop (9 + k + bs.length) = bcells (left.drop (k + bs.length)) ++ [.int .u64 (n : Int)] := by
    rw [show 9 + k + bs.length = (8 + (k + bs.length)) + 1 by omega]
    show (.bool true :: (wcells s.l ++ _)).drop (8 + (k + bs.length) + 1) = _
    rw [List.drop_succ_cons, List.drop_append, hw, show 8 + (k + bs.length) - 8 = k + bs.length by omega, List.drop_eq_nil_of_le (by omega), List.nil_append, List.drop_append, bcells_len, h, show k + bs.length - 64 = 0 by omega]
    simp [bcells, List.map_drop]
  rw [e1, e2]
  simp [hcells, laidIn, bcells]
theorem hcells_setSt (s t : St) (left : List (BitVec 8)) (n : Nat) :
    (hcells s left n).take 1 ++ wcells t.l ++ (hcells s left n).drop (1 + (wcells t.l).length) = hcells t left n := by
  simp [hcells, St.l, wcells]
end Go.Proofs.YtnflgkobedbemaaGreatDoor.Sh

namespace Go.Proofs.YtnflgkobedbemaaGreatDoor.Sh
open Go.RowKit

/-- The n-th block of a text. -/
def chunk (t : List (BitVec 8)) (n : Nat) : List (BitVec 8) := (t.drop (64 * n)).take 64
def st0 : St := ⟨1779033703#32, 3144134277#32, 1013904242#32, 2773480762#32, 1359893119#32, 2600822924#32, 528734635#32, 1541459225#32⟩
/-- The state behind n blocks of a text. -/
def stAt (t : List (BitVec 8)) : Nat → St
  | 0 => st0
  | n + 1 => mix (stAt t n) (chunk t n)
theorem chunk_append (t v : List (BitVec 8)) (n : Nat) (h : 64 * (n + 1) ≤ t.length) : chunk (t ++ v) n = chunk t n := by
  unfold chunk
  rw [List.drop_append_of_le_length (by omega), List.take_append_of_le_length (by simp; omega)]
theorem stAt_append (t v : List (BitVec 8)) (n : Nat) (h : 64 * n ≤ t.length) : stAt (t ++ v) n = stAt t n := by
  induction n with
  | zero => rfl
  | succ n ih => simp only [stAt]; rw [ih (by omega), chunk_append t v n h]

/-- The state and what is left of a block belong to the text c. -/
structure Took (c : List (BitVec 8)) (s : St) (left : List (BitVec 8)) : Prop where
  st : s = stAt c (c.length / 64)
  len : left.length = 64
  rest : left.take (c.length % 64) = c.drop (64 * (c.length / 64))

section
variable {c : List (BitVec 8)} {s : St} {left : List (BitVec 8)}
theorem Took.less (h : Took c s left) (v : List (BitVec 8)) (hv : c.length % 64 + v.length < 64) : Took (c ++ v) s (laidIn left (c.length % 64) v) := by
  have hl : (c ++ v).length = c.length + v.length := by simp
  have hd : (c ++ v).length / 64 = c.length / 64 := by omega
  have hm : (c ++ v).length % 64 = c.length % 64 + v.length := by omega
  refine ⟨?_, by rw [laidIn_len _ _ _ (by rw [h.len]; omega), h.len], ?_⟩
  · rw [hd, stAt_append _ _ _ (by omega)]; exact h.st
  · rw [hd, hm, List.drop_append_of_le_length (by omega), ← h.rest]
    have hlen := h.len
    unfold laidIn
    rw [List.take_append_of_le_length (by simp; omega), List.take_of_length_le (by simp; omega)]
theorem Took.full (h : Took c s left) (v : List (BitVec 8)) (hv : c.length % 64 + v.length = 64) : Took (c ++ v) (mix s (laidIn left (c.length % 64) v)) (laidIn left (c.length % 64) v) := by
  have hl : (c ++ v).length = c.length + v.length := by simp
  have hd : (c ++ v).length / 64 = c.length / 64 + 1 := by omega
  have hm : (c ++ v).length % 64 = 0 := by omega
  have hlen := h.len
  have he : laidIn left (c.length % 64) v = left.take (c.length % 64) ++ v := by
    unfold laidIn
    rw [List.drop_eq_nil_of_le (by omega), List.append_nil]
  have hch : chunk (c ++ v) (c.length / 64) = laidIn left (c.length % 64) v := by
    unfold chunk
    rw [he, h.rest, List.drop_append_of_le_length (by omega), List.take_of_length_le (by simp; omega)]
  refine ⟨?_, by rw [laidIn_len _ _ _ (by omega), h.len], ?_⟩
  · rw [hd]; simp only [stAt]; rw [hch, stAt_append _ _ _ (by omega), ← h.st]
  · rw [hm, List.take_zero, List.drop_eq_nil_of_le (by omega)]
theorem Took.nil (l : List (BitVec 8)) (h : l.length = 64) : Took [] st0 l := ⟨rfl, h, by simp⟩
end
end Go.Proofs.YtnflgkobedbemaaGreatDoor.Sh

namespace Go.Proofs.YtnflgkobedbemaaGreatDoor.Sh
open Go.RowKit
set_option maxRecDepth 100000
section
variable {ops : Array Oper} {o : Oper} {a : Act} {w : World} {K : Act → World → Prop} {Q : Exit → Act → World → Prop}
/-- A load of many cells as one step of a region that draws. -/
theorem step_load {p : Nat} {cur : List Value} {t : TypeId} (R : Row w p cur t) (off : Nat) (ty : TypeId) (x : Operand) (ho : o.op = .load ty x) (hx : a.eval x = .pointer (some ⟨p, off, none⟩)) (cs : List Value) (d : TypeDesc)
    (hcs : ∀ j v, cs[j]? = some v → cur[off + j]? = some v) (hu : Tryz.prog.underlying ty = some d) (hd : d.isRow = true) (hi : (Tryz.prog.info? ty).map (·.size) = some cs.length)
    (h : K (a.put o.dst (.agg cs.toArray)) w) : Oper.wp Tryz.prog o a w K Q := by
  exact wp_load_mid ty x ho p off hx cs d (R.range off cs hcs) hu hd hi h
theorem step_store {p : Nat} {cur : List Value} {t : TypeId} (R : Row w p cur t) (off : Nat) (ty : TypeId) (x y : Operand) (ho : o.op = .store ty x y) (hx : a.eval x = .pointer (some ⟨p, off, none⟩)) (cs : List Value) (hy : a.eval y = .agg cs.toArray)
    (hl : off + cs.length ≤ cur.length) (h1 : ∀ v ∈ cs, v.oneCell' = true) (hi : (Tryz.prog.info? ty).map (·.size) = some cs.length)
    (h : ∀ w', Hid (w' = w.setRow p (cur.take off ++ cs ++ cur.drop (off + cs.length)).toArray) → K (a.put o.dst undef) w') : Oper.wp Tryz.prog o a w K Q := by
  have hst := run_storeCells_at Tryz.prog p off t cs 0 cur.toArray w R.at_ (by simpa using hl) h1
  cases hq : Tryz.prog.info? ty with
  | none => simp [hq] at hi
  | some i =>
    have hs : i.size = cs.length := by simpa [hq] using hi
    simp only [Nat.add_zero] at hst
    unfold Oper.wp execOp
    simp [ho, hx, hy, Instr.storeAt, Instr.sureAddr, storeVar, sizeOf, typeInfo, hq, hs, Value.cells, hst]
    rw [Oper.upon_skip]
    exact h _ (show w.setRow p _ = w.setRow p _ by simp)
theorem step_call31 {x y : Operand} {vx vy v : Value} {G : World → Prop} (ho : o.op = .call { callee := .value (.func 189), args := #[x, y], argTypes := #[217, 219] }) (hx : a.eval x = vx) (hy : a.eval y = vy)
    (hc : Calls Tryz.prog 189 #[vx, vy] w fun e w' => e = .returned v ∧ G w') (h : ∀ w', G w' → K (a.put o.dst v) w') : Oper.wp Tryz.prog o a w K Q := by
  subst hx hy
  have e : (execOp a.eval o).run Tryz.prog w = .ok (.enter 189 #[a.eval x, a.eval y]) w := by
    simp [execOp, ho, resolve, invoke, go_sem]
  unfold Oper.wp
  rw [e, Oper.upon_enter]
  refine Calls.mono hc ?_
  rintro e w' ⟨rfl, hg⟩
  exact h w' hg
/-- What a copy, a check for nil and a field's address yield, in whatever world. -/
theorem yields_move (x : Operand) (v : Value) (hgd : o.guard = none) (ho : o.op = .move x) (hx : a.eval x = v) : Yields Tryz.prog ops o v a :=
  Or.inl ⟨by simp [Region.wanted, hgd], fun w => by subst hx; simp [execOp, ho]⟩
theorem yields_nilCheck (x : Operand) (ad : Addr) (hgd : o.guard = none) (ho : o.op = .nilCheck x) (hx : a.eval x = .pointer (some ad)) : Yields Tryz.prog ops o (.pointer (some ad)) a :=
  Or.inl ⟨by simp [Region.wanted, hgd], fun w => by simp only [execOp, ho, hx]; rfl⟩
theorem yields_field (x : Operand) (b i off : Nat) (hgd : o.guard = none) (ho : o.op = .fieldAddr 221 x i) (hx : a.eval x = .pointer (some ⟨b, 0, none⟩))
    (hf : ∀ w b, (Instr.fieldAt 221 (.pointer (some ⟨b, 0, none⟩)) i).run Tryz.prog w = .ok (.pointer (some ⟨b, off, none⟩)) w) : Yields Tryz.prog ops o (.pointer (some ⟨b, off, none⟩)) a :=
  Or.inl ⟨by simp [Region.wanted, hgd], fun w => by simp [execOp, ho, hx, hf]⟩
end
end Go.Proofs.YtnflgkobedbemaaGreatDoor.Sh
