import Derived.Test.YtjhkoanjocdboaaDoorRegionSpec
import Derived.Test.YtjhkoanjocdboaaDoorLin0
namespace Go.Proofs.YtjhkoanjocdboaaDoor
open Go.RowKit
set_option maxRecDepth 100000

/-- Of three texts the first n bytes, xor, k of them done. -/
def x3 (a b c : List (BitVec 8)) (n k : Nat) : List (BitVec 8) := (List.range n).map fun i => if i < k then a.getD i 0 ^^^ b.getD i 0 ^^^ c.getD i 0 else 0#8
theorem x3_len (a b c : List (BitVec 8)) (n k : Nat) : (x3 a b c n k).length = n := by simp [x3]
theorem x3_zero (a b c : List (BitVec 8)) (n : Nat) : x3 a b c n 0 = List.replicate n 0#8 := by
  apply List.ext_getElem?
  intro i
  simp only [x3, List.getElem?_map, List.getElem?_replicate, Nat.not_lt_zero, if_false]
  by_cases h : i < n
  · simp [h]
  · simp [h]
theorem x3_set (a b c : List (BitVec 8)) (n k : Nat) (hk : k < n) : (x3 a b c n k).set k (a.getD k 0 ^^^ b.getD k 0 ^^^ c.getD k 0) = x3 a b c n (k + 1) := by
  apply List.ext_getElem?
  intro i
  rw [List.getElem?_set, x3_len]
  by_cases e : k = i
  · subst e
    simp [x3, hk]
  · rw [if_neg e]
    simp only [x3, List.getElem?_map]
    by_cases h : i < n
    · have : (i < k) ↔ (i < k + 1) := by omega
      simp [h, this]
    · simp [h]
theorem x3_succ (a b c : List (BitVec 8)) (n : Nat) : x3 a b c (n + 1) (n + 1) = x3 a b c n n ++ [a.getD n 0 ^^^ b.getD n 0 ^^^ c.getD n 0] := by
  unfold x3
  rw [List.range_succ, List.map_append]
  congr 1
  · apply List.map_congr_left
    intro i hi
    have : i < n := by simpa using hi
    rw [if_pos this, if_pos (by omega)]
  · simp
theorem reg_x3 (a b c : List (BitVec 8)) (r s t : BitVec 32) : ∀ n, n ≤ a.length → n ≤ b.length → n ≤ c.length → reg (r ^^^ s ^^^ t) (x3 a b c n n) = reg r (a.take n) ^^^ reg s (b.take n) ^^^ reg t (c.take n)
  | 0, _, _, _ => by simp [x3, reg]
  | n + 1, ha, hb, hc => by
    rw [x3_succ, reg_append, reg_x3 a b c r s t n (by omega) (by omega) (by omega), reg_snoc r a n (by omega), reg_snoc s b n (by omega), reg_snoc t c n (by omega)]
    show stepB _ _ = _
    rw [stepB_xor, stepB_xor]
    simp [List.getD, List.getElem?_eq_getElem (show n < a.length by omega), List.getElem?_eq_getElem (show n < b.length by omega), List.getElem?_eq_getElem (show n < c.length by omega)]
theorem not3 (x y z : BitVec 32) : ~~~(x ^^^ y ^^^ z) = ~~~x ^^^ ~~~y ^^^ ~~~z := by
  apply BitVec.eq_of_getLsbD_eq
  intro i hi
  simp only [BitVec.getLsbD_not, BitVec.getLsbD_xor, hi, decide_true, Bool.true_and]
  cases x.getLsbD i <;> cases y.getLsbD i <;> cases z.getLsbD i <;> rfl
theorem crc_x3 (a b c : List (BitVec 8)) (n : Nat) (ha : n ≤ a.length) (hb : n ≤ b.length) (hc : n ≤ c.length) : crc (x3 a b c n n) = crc (a.take n) ^^^ crc (b.take n) ^^^ crc (c.take n) := by
  have e : (~~~0#32) = ~~~0#32 ^^^ ~~~0#32 ^^^ ~~~0#32 := by decide
  unfold crc more
  rw [show reg (~~~0#32) (x3 a b c n n) = reg (~~~0#32 ^^^ ~~~0#32 ^^^ ~~~0#32) (x3 a b c n n) by rw [← e], reg_x3 a b c _ _ _ n ha hb hc, not3]

@[go_sem high] theorem run_min3 {P : Program} (w : World) (ts : Array TypeId) (t : TypeId) (k : IntKind) (x y z : Int) :
    (Builtin.min_ ts t #[.int k x, .int k y, .int k z]).run P w = .ok (.int k (min (min x y) z)) w := by
  have e : (if z < (if y < x then y else x) then z else (if y < x then y else x)) = min (min x y) z := by
    rw [Int.min_def, Int.min_def]
    split <;> split <;> split <;> (try split) <;> omega
  simp [Builtin.min_, Builtin.min2, e]

def cv (X : List (BitVec 8)) : Value := .int .u32 (u (crc X))
/-- A list of one text. -/
def Pt (v : Value) (X : List (BitVec 8)) (w : World) : Prop := ∃ g, v = .slice (some ⟨g, 0, none⟩) 1 1 ∧ PartsAt w (some ⟨g, 0, none⟩) [X]
def Sl (v : Value) (n c : Nat) (X : List (BitVec 8)) (w : World) : Prop := ∃ ad, v = .slice ad n c ∧ BytesAt w ad X
/-- What each slot of the last region holds. -/
def LSpec (XV AV BV CV : Value) (n ca cb cc : Nat) (X A B C : List (BitVec 8)) : Nat → Value → World → Prop
  | 0, v, _ => v = .bool true
  | 1, v, _ => v = .bool true
  | 2, v, _ => v = XV
  | 3, v, w => Pt v X w
  | 4, v, _ => v = cv X
  | 5, v, _ => v = AV
  | 6, v, _ => v = .int .i64 n
  | 7, v, w => Sl v n ca A w
  | 8, v, w => Pt v A w
  | 9, v, _ => v = cv A
  | 10, v, _ => v = BV
  | 11, v, _ => v = .int .i64 n
  | 12, v, w => Sl v n cb B w
  | 13, v, w => Pt v B w
  | 14, v, _ => v = cv B
  | 15, v, _ => v = .int .u32 (u (crc A ^^^ crc B))
  | 16, v, _ => v = CV
  | 17, v, _ => v = .int .i64 n
  | 18, v, w => Sl v n cc C w
  | 19, v, w => Pt v C w
  | 20, v, _ => v = cv C
  | 21, v, _ => v = .int .u32 (u (crc A ^^^ crc B ^^^ crc C))
  | 22, v, _ => v = .bool true
  | 23, v, _ => v = .bool true
  | 24, v, _ => v = .bool true
  | _, _, _ => True
theorem Pt.kept {v : Value} {X : List (BitVec 8)} {w w' : World} (h : Pt v X w) (hb : Below w.heap.size w w') : Pt v X w' := by
  obtain ⟨g, e, p⟩ := h
  exact ⟨g, e, p.kept hb⟩
theorem Sl.kept {v : Value} {n c : Nat} {X : List (BitVec 8)} {w w' : World} (h : Sl v n c X w) (hb : Below w.heap.size w w') : Sl v n c X w' := by
  obtain ⟨g, e, p⟩ := h
  exact ⟨g, e, p.kept hb⟩
theorem LSpec_mono {XV AV BV CV : Value} {n ca cb cc : Nat} {X A B C : List (BitVec 8)} {w w' : World} (hb : Below w.heap.size w w') (j : Nat) (v : Value) (h : LSpec XV AV BV CV n ca cb cc X A B C j v w) : LSpec XV AV BV CV n ca cb cc X A B C j v w' := by
  by_cases h25 : j < 25
  · rcases (show j = 0 ∨ j = 1 ∨ j = 2 ∨ j = 3 ∨ j = 4 ∨ j = 5 ∨ j = 6 ∨ j = 7 ∨ j = 8 ∨ j = 9 ∨ j = 10 ∨ j = 11 ∨ j = 12 ∨ j = 13 ∨ j = 14 ∨ j = 15 ∨ j = 16 ∨ j = 17 ∨ j = 18 ∨ j = 19 ∨ j = 20 ∨ j = 21 ∨ j = 22 ∨ j = 23 ∨ j = 24 by omega) with rfl | rfl | rfl | rfl | rfl | rfl | rfl | rfl | rfl | rfl | rfl | rfl | rfl | rfl | rfl | rfl | rfl | rfl | rfl | rfl | rfl | rfl | rfl | rfl | rfl
    all_goals first
      | exact h
      | exact Pt.kept h hb
      | exact Sl.kept h hb
  · obtain ⟨k, rfl⟩ : ∃ k, j = k + 25 := ⟨j - 25, by omega⟩
    exact trivial

section
variable {ops : Array Oper} {o : Oper} {a : Act} {w : World} {K : Act → World → Prop} {Q : Exit → Act → World → Prop}
theorem step_move {x : Operand} {v : Value} (ho : o.op = .move x) (hx : a.eval x = v) (h : K (a.put o.dst v) w) : Oper.wp Tryd.prog o a w K Q :=
  step_value (w' := w) (by generalize a.eval = r at *; simp [execOp, ho, hx, go_sem]) h
theorem step_assign {x : Operand} {v : Value} (ho : o.op = .assign x) (hx : a.eval x = v) (h : K (a.put o.dst v) w) : Oper.wp Tryd.prog o a w K Q :=
  step_value (w' := w) (by generalize a.eval = r at *; simp [execOp, ho, hx, go_sem]) h
theorem step_pick {x y z : Operand} {v : Value} (ho : o.op = .pick x y z) (hx : a.eval x = .bool true) (hy : a.eval y = v) (h : K (a.put o.dst v) w) : Oper.wp Tryd.prog o a w K Q :=
  step_value (w' := w) (by generalize a.eval = r at *; simp [execOp, ho, hx, hy, go_sem]) h
theorem step_xor23 {x y : Operand} {p q : BitVec 32} (ho : o.op = .binOp .xor 23 x y 23) (hx : a.eval x = .int .u32 (u p)) (hy : a.eval y = .int .u32 (u q)) (h : K (a.put o.dst (.int .u32 (u (p ^^^ q)))) w) : Oper.wp Tryd.prog o a w K Q :=
  step_value (w' := w) (by generalize a.eval = r at *; simp [execOp, ho, hx, hy, go_sem]) h
theorem step_eql23 {x y : Operand} {p : BitVec 32} (ho : o.op = .binOp .eql 23 x y 23) (hx : a.eval x = .int .u32 (u p)) (hy : a.eval y = .int .u32 (u p)) (h : K (a.put o.dst (.bool true)) w) : Oper.wp Tryd.prog o a w K Q :=
  step_value (w' := w) (by generalize a.eval = r at *; simp [execOp, ho, hx, hy, go_sem]) h
theorem step_slice24 {x y : Operand} {ad : Option Addr} {len cap n : Nat} (ho : o.op = .slice 24 x none (some y) none) (hx : a.eval x = .slice ad len cap) (hy : a.eval y = .int .i64 n) (hn : n ≤ cap) (h : K (a.put o.dst (.slice (if cap = 0 then ad else ad.map (·.add 0)) n cap)) w) : Oper.wp Tryd.prog o a w K Q :=
  step_value (w' := w) (by
    have h2 : (n : Int) ≤ cap := by omega
    generalize a.eval = r at *
    simp [execOp, ho, hx, hy, h2, go_sem]) h
theorem step_build22 {x : Operand} {ad : Option Addr} {len cap : Nat} (ho : o.op = .buildSlice 22 1 #[(0, x)]) (hx : a.eval x = .slice ad len cap) (h : K (a.put o.dst (.slice (some ⟨w.heap.size, 0, none⟩) 1 1)) (w.alloc (.cells #[.slice ad len cap] 24))) : Oper.wp Tryd.prog o a w K Q :=
  step_value (w' := w.alloc (.cells #[.slice ad len cap] 24)) (by generalize a.eval = r at *; simp [execOp, ho, hx, go_sem]) h
theorem step_call11 {x : Operand} {vx v : Value} {G : World → Prop} (ho : o.op = .call { callee := .value (.func 11), args := #[x], argTypes := #[22] }) (hx : a.eval x = vx)
    (hc : Calls Tryd.prog 11 #[vx] w fun e w' => e = .returned v ∧ G w') (h : ∀ w', G w' → K (a.put o.dst v) w') : Oper.wp Tryd.prog o a w K Q :=
  step_callf (by subst hx; simp [execOp, ho, resolve, invoke, go_sem]) hc h
theorem step_call20 {v : Value} {G : World → Prop} (ho : o.op = .call { callee := .value (.func 20), args := #[], argTypes := #[] })
    (hc : Calls Tryd.prog 20 #[] w fun e w' => e = .returned v ∧ G w') (h : ∀ w', G w' → K (a.put o.dst v) w') : Oper.wp Tryd.prog o a w K Q :=
  step_callf (by simp [execOp, ho, resolve, invoke, go_sem]) hc h
end
end Go.Proofs.YtjhkoanjocdboaaDoor
