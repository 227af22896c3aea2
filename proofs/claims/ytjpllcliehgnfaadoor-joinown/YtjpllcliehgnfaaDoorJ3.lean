import Derived.Test.YtjpllcliehgnfaaDoorJ2
namespace Go.Proofs.YtjpllcliehgnfaaDoor
open Go.RowKit
set_option maxRecDepth 100000

/-! A Half's numbers and its cells. -/
structure Hf where
  side : Int
  path : Int
  own : Nat
  peer : Nat
  ret : Int
  st : Int
  bk : Bool
  hd : BitVec 32
  ag : Nat
  mrk : Nat
def Hf.cells (h : Hf) : List Value := [.int .i64 h.side, .int .i64 h.path, .int .u64 (h.own : Int), .int .u64 (h.peer : Int), .int .i64 h.ret, .int .i64 h.st, .bool h.bk, .int .u32 (u h.hd), .int .i64 (h.ag : Int), .int .u64 (h.mrk : Int)]
def HfAt (w : World) (p : Nat) (h : Hf) : Prop := Row w p h.cells 57
theorem HfAt.kept {w w' : World} {p : Nat} {h : Hf} (H : HfAt w p h) (hb : Below w.heap.size w w') : HfAt w' p h := Row.kept H hb (Row.lt H)
/-- A path's lowest byte, the nonce of a key on it, the proof. -/
def pathB (x : Int) : BitVec 8 := BitVec.ofInt 8 x
def nonceL (k : Nat) (x : Int) : List (BitVec 8) := sha (keyB k ++ [pathB x])
def nonceOf (k : Nat) (x : Int) : BitVec 32 := tokenOf (nonceL k x)
def proofL (k1 k2 : Nat) (n1 n2 : BitVec 32) : List (BitVec 8) := macL (keyB k1 ++ keyB k2) (fourL n1 ++ fourL n2)
theorem proofL_len (k1 k2 : Nat) (n1 n2 : BitVec 32) : (proofL k1 k2 n1 n2).length = 32 := sha_len _
/-- A frame's cells. -/
def frC (k p : Int) (tok non : BitVec 32) (mac : Value) (bk : Bool) : List Value := [.int .i64 k, .int .i64 p, .int .u64 0, .int .u64 0, .int .u64 0, .slice none 0 0, .slice none 0 0, .int .u32 (u tok), .int .u32 (u non), mac, .bool bk, .int .i64 0]
def frV (k p : Int) (tok non : BitVec 32) (mac : Value) (bk : Bool) : Value := .agg (frC k p tok non mac bk).toArray
theorem frC_zero : frC 0 0 0#32 0#32 (.slice none 0 0) false = [.int .i64 0, .int .i64 0, .int .u64 0, .int .u64 0, .int .u64 0, .slice none 0 0, .slice none 0 0, .int .u32 0, .int .u32 0, .slice none 0 0, .bool false, .int .i64 0] := rfl
theorem i29 : (Tryd.prog.info? 29).map (·.size) = some 12 := by kernel_rfl
theorem i57 : (Tryd.prog.info? 57).map (·.size) = some 10 := by kernel_rfl
section
variable {ops : Array Oper} {o : Oper} {a : Act} {w : World} {K : Act → World → Prop} {Q : Exit → Act → World → Prop}
theorem step_move {x : Operand} {v : Value} (ho : o.op = .move x) (hx : a.eval x = v) (h : K (a.put o.dst v) w) : Oper.wp Tryd.prog o a w K Q :=
  step_value (w' := w) (by generalize a.eval = r at *; simp [execOp, ho, hx, go_sem]) h
theorem step_nilc {x : Operand} {ad : Addr} (ho : o.op = .nilCheck x) (hx : a.eval x = .pointer (some ad)) (h : K (a.put o.dst (.pointer (some ad))) w) : Oper.wp Tryd.prog o a w K Q :=
  step_value (w' := w) (by generalize a.eval = r at *; simp [execOp, ho, hx, go_sem]) h
theorem step_f570 {x : Operand} {b : Nat} (ho : o.op = .fieldAddr 57 x 0) (hx : a.eval x = .pointer (some ⟨b, 0, none⟩)) (h : K (a.put o.dst (.pointer (some ⟨b, 0, none⟩))) w) : Oper.wp Tryd.prog o a w K Q :=
  step_value (w' := w) (by generalize a.eval = r at *; simp [execOp, ho, hx, go_sem]) h
theorem step_f571 {x : Operand} {b : Nat} (ho : o.op = .fieldAddr 57 x 1) (hx : a.eval x = .pointer (some ⟨b, 0, none⟩)) (h : K (a.put o.dst (.pointer (some ⟨b, 1, none⟩))) w) : Oper.wp Tryd.prog o a w K Q :=
  step_value (w' := w) (by generalize a.eval = r at *; simp [execOp, ho, hx, go_sem]) h
theorem step_f572 {x : Operand} {b : Nat} (ho : o.op = .fieldAddr 57 x 2) (hx : a.eval x = .pointer (some ⟨b, 0, none⟩)) (h : K (a.put o.dst (.pointer (some ⟨b, 2, none⟩))) w) : Oper.wp Tryd.prog o a w K Q :=
  step_value (w' := w) (by generalize a.eval = r at *; simp [execOp, ho, hx, go_sem]) h
theorem step_f573 {x : Operand} {b : Nat} (ho : o.op = .fieldAddr 57 x 3) (hx : a.eval x = .pointer (some ⟨b, 0, none⟩)) (h : K (a.put o.dst (.pointer (some ⟨b, 3, none⟩))) w) : Oper.wp Tryd.prog o a w K Q :=
  step_value (w' := w) (by generalize a.eval = r at *; simp [execOp, ho, hx, go_sem]) h
theorem step_f574 {x : Operand} {b : Nat} (ho : o.op = .fieldAddr 57 x 4) (hx : a.eval x = .pointer (some ⟨b, 0, none⟩)) (h : K (a.put o.dst (.pointer (some ⟨b, 4, none⟩))) w) : Oper.wp Tryd.prog o a w K Q :=
  step_value (w' := w) (by generalize a.eval = r at *; simp [execOp, ho, hx, go_sem]) h
theorem step_f575 {x : Operand} {b : Nat} (ho : o.op = .fieldAddr 57 x 5) (hx : a.eval x = .pointer (some ⟨b, 0, none⟩)) (h : K (a.put o.dst (.pointer (some ⟨b, 5, none⟩))) w) : Oper.wp Tryd.prog o a w K Q :=
  step_value (w' := w) (by generalize a.eval = r at *; simp [execOp, ho, hx, go_sem]) h
theorem step_f576 {x : Operand} {b : Nat} (ho : o.op = .fieldAddr 57 x 6) (hx : a.eval x = .pointer (some ⟨b, 0, none⟩)) (h : K (a.put o.dst (.pointer (some ⟨b, 6, none⟩))) w) : Oper.wp Tryd.prog o a w K Q :=
  step_value (w' := w) (by generalize a.eval = r at *; simp [execOp, ho, hx, go_sem]) h
theorem step_f577 {x : Operand} {b : Nat} (ho : o.op = .fieldAddr 57 x 7) (hx : a.eval x = .pointer (some ⟨b, 0, none⟩)) (h : K (a.put o.dst (.pointer (some ⟨b, 7, none⟩))) w) : Oper.wp Tryd.prog o a w K Q :=
  step_value (w' := w) (by generalize a.eval = r at *; simp [execOp, ho, hx, go_sem]) h
theorem step_f578 {x : Operand} {b : Nat} (ho : o.op = .fieldAddr 57 x 8) (hx : a.eval x = .pointer (some ⟨b, 0, none⟩)) (h : K (a.put o.dst (.pointer (some ⟨b, 8, none⟩))) w) : Oper.wp Tryd.prog o a w K Q :=
  step_value (w' := w) (by generalize a.eval = r at *; simp [execOp, ho, hx, go_sem]) h
theorem step_f579 {x : Operand} {b : Nat} (ho : o.op = .fieldAddr 57 x 9) (hx : a.eval x = .pointer (some ⟨b, 0, none⟩)) (h : K (a.put o.dst (.pointer (some ⟨b, 9, none⟩))) w) : Oper.wp Tryd.prog o a w K Q :=
  step_value (w' := w) (by generalize a.eval = r at *; simp [execOp, ho, hx, go_sem]) h
theorem step_ld22 {x : Operand} {ad : Addr} {z : Int} (ho : o.op = .load 22 x) (hx : a.eval x = .pointer (some ad)) (hc : w.cell? ad = some (.int .u64 z)) (h : K (a.put o.dst (.int .u64 z)) w) : Oper.wp Tryd.prog o a w K Q :=
  step_value (w' := w) (by generalize a.eval = r at *; simp [execOp, ho, hx, hc, go_sem]) h
theorem step_ld3 {x : Operand} {ad : Addr} {z : Int} (ho : o.op = .load 3 x) (hx : a.eval x = .pointer (some ad)) (hc : w.cell? ad = some (.int .i64 z)) (h : K (a.put o.dst (.int .i64 z)) w) : Oper.wp Tryd.prog o a w K Q :=
  step_value (w' := w) (by generalize a.eval = r at *; simp [execOp, ho, hx, hc, go_sem]) h
theorem step_ld27 {x : Operand} {ad : Addr} {z : Int} (ho : o.op = .load 27 x) (hx : a.eval x = .pointer (some ad)) (hc : w.cell? ad = some (.int .u32 z)) (h : K (a.put o.dst (.int .u32 z)) w) : Oper.wp Tryd.prog o a w K Q :=
  step_value (w' := w) (by generalize a.eval = r at *; simp [execOp, ho, hx, hc, go_sem]) h
theorem step_ld4 {x : Operand} {ad : Addr} {z : Bool} (ho : o.op = .load 4 x) (hx : a.eval x = .pointer (some ad)) (hc : w.cell? ad = some (.bool z)) (h : K (a.put o.dst (.bool z)) w) : Oper.wp Tryd.prog o a w K Q :=
  step_value (w' := w) (by generalize a.eval = r at *; simp [execOp, ho, hx, hc, go_sem]) h
theorem step_conv8 {x : Operand} {z : Int} (ho : o.op = .convert 3 5 x) (hx : a.eval x = .int .i64 z) (h : K (a.put o.dst (.int .u8 (ub (pathB z)))) w) : Oper.wp Tryd.prog o a w K Q :=
  step_value (w' := w) (by have e := ub_wrap z
                           generalize a.eval = r at *; simp [execOp, ho, hx, go_sem, pathB, e]) h
theorem step_bs1 {x : Operand} {b : BitVec 8} (ho : o.op = .buildSlice 25 1 #[(0, x)]) (hx : a.eval x = .int .u8 (ub b)) (h : K (a.put o.dst (.slice (some ⟨w.heap.size, 0, none⟩) 1 1)) (w.alloc (.cells (bcells [b]).toArray 5))) : Oper.wp Tryd.prog o a w K Q :=
  step_value (w' := w.alloc (.cells (bcells [b]).toArray 5)) (by generalize a.eval = r at *; simp [execOp, ho, hx, go_sem, bcells, bv]) h
theorem step_bs2 {x y : Operand} {ax ay : Option Addr} {nx cx ny cy : Nat} (ho : o.op = .buildSlice 49 2 #[(0, x), (1, y)]) (hx : a.eval x = .slice ax nx cx) (hy : a.eval y = .slice ay ny cy) (h : K (a.put o.dst (.slice (some ⟨w.heap.size, 0, none⟩) 2 2)) (w.alloc (.cells #[.slice ax nx cx, .slice ay ny cy] 25))) : Oper.wp Tryd.prog o a w K Q :=
  step_value (w' := w.alloc (.cells #[.slice ax nx cx, .slice ay ny cy] 25)) (by generalize a.eval = r at *; simp [execOp, ho, hx, hy, go_sem]) h
theorem step_alloc73 (ho : o.op = .alloc 73) (h : K (a.put o.dst (.pointer (some ⟨w.heap.size, 0, none⟩))) (w.alloc (.cells (bcells z32).toArray 73))) : Oper.wp Tryd.prog o a w K Q := by
  have hz := z44
  have e : (execOp a.eval o).run Tryd.prog w = .ok (.value (.pointer (some ⟨w.heap.size, 0, none⟩))) (w.alloc (.cells (bcells z32).toArray 73)) := by
    simp [execOp, ho, hz, go_sem]
  exact step_value e h
theorem step_callv {f : FuncId} {args : Array Value} {G : Value → World → Prop} (e : (execOp a.eval o).run Tryd.prog w = .ok (.enter f args) w)
    (hc : Calls Tryd.prog f args w fun e w' => ∃ v, e = .returned v ∧ G v w') (h : ∀ v w', G v w' → K (a.put o.dst v) w') : Oper.wp Tryd.prog o a w K Q := by
  unfold Oper.wp
  rw [e, Oper.upon_enter]
  refine Calls.mono hc ?_
  rintro e w' ⟨v, rfl, hg⟩
  exact h v w' hg
theorem Calls.one {f : FuncId} {args : Array Value} {v : Value} {G : World → Prop} (hc : Calls Tryd.prog f args w fun e w' => e = .returned v ∧ G w') : Calls Tryd.prog f args w fun e w' => ∃ v', e = .returned v' ∧ (v' = v ∧ G w') :=
  hc.mono fun _ _ ⟨h1, h2⟩ => ⟨v, h1, rfl, h2⟩
theorem cf50 (args : Array Value) (w : World) : (callFunc 50 args).run Tryd.prog w = .ok (.enter 50 args) w := by simp [go_sem]
theorem cf49 (args : Array Value) (w : World) : (callFunc 49 args).run Tryd.prog w = .ok (.enter 49 args) w := by simp [go_sem]
theorem cf51 (args : Array Value) (w : World) : (callFunc 51 args).run Tryd.prog w = .ok (.enter 51 args) w := by simp [go_sem]
theorem cf39 (args : Array Value) (w : World) : (callFunc 39 args).run Tryd.prog w = .ok (.enter 39 args) w := by simp [go_sem]
theorem cf38 (args : Array Value) (w : World) : (callFunc 38 args).run Tryd.prog w = .ok (.enter 38 args) w := by simp [go_sem]
theorem cf41 (args : Array Value) (w : World) : (callFunc 41 args).run Tryd.prog w = .ok (.enter 41 args) w := by simp [go_sem]
theorem cf40 (args : Array Value) (w : World) : (callFunc 40 args).run Tryd.prog w = .ok (.enter 40 args) w := by simp [go_sem]
theorem step_call1 {f : FuncId} (hf : ∀ args w, (callFunc f args).run Tryd.prog w = .ok (.enter f args) w) {t : TypeId} {x : Operand} {vx : Value} {G : Value → World → Prop} (ho : o.op = .call { callee := .value (.func f), args := #[x], argTypes := #[t] }) (hx : a.eval x = vx)
    (hc : Calls Tryd.prog f #[vx] w fun e w' => ∃ v, e = .returned v ∧ G v w') (h : ∀ v w', G v w' → K (a.put o.dst v) w') : Oper.wp Tryd.prog o a w K Q :=
  step_callv (f := f) (args := #[a.eval x]) (by have hF : a.eval (.func f) = .func (.func f) #[] #[] := rfl; have e := hf #[a.eval x] w; generalize a.eval = r at *; simp [execOp, ho, resolve, invoke, hF, e, go_sem]) (by rw [hx]; exact hc) h
theorem step_call2 {f : FuncId} (hf : ∀ args w, (callFunc f args).run Tryd.prog w = .ok (.enter f args) w) {t s : TypeId} {x y : Operand} {vx vy : Value} {G : Value → World → Prop} (ho : o.op = .call { callee := .value (.func f), args := #[x, y], argTypes := #[t, s] }) (hx : a.eval x = vx) (hy : a.eval y = vy)
    (hc : Calls Tryd.prog f #[vx, vy] w fun e w' => ∃ v, e = .returned v ∧ G v w') (h : ∀ v w', G v w' → K (a.put o.dst v) w') : Oper.wp Tryd.prog o a w K Q :=
  step_callv (f := f) (args := #[a.eval x, a.eval y]) (by have hF : a.eval (.func f) = .func (.func f) #[] #[] := rfl; have e := hf #[a.eval x, a.eval y] w; generalize a.eval = r at *; simp [execOp, ho, resolve, invoke, hF, e, go_sem]) (by rw [hx, hy]; exact hc) h
theorem step_call4 {f : FuncId} (hf : ∀ args w, (callFunc f args).run Tryd.prog w = .ok (.enter f args) w) {t1 t2 t3 t4 : TypeId} {x1 x2 x3 x4 : Operand} {v1 v2 v3 v4 : Value} {G : Value → World → Prop} (ho : o.op = .call { callee := .value (.func f), args := #[x1, x2, x3, x4], argTypes := #[t1, t2, t3, t4] }) (h1 : a.eval x1 = v1) (h2 : a.eval x2 = v2) (h3 : a.eval x3 = v3) (h4 : a.eval x4 = v4)
    (hc : Calls Tryd.prog f #[v1, v2, v3, v4] w fun e w' => ∃ v, e = .returned v ∧ G v w') (h : ∀ v w', G v w' → K (a.put o.dst v) w') : Oper.wp Tryd.prog o a w K Q :=
  step_callv (f := f) (args := #[a.eval x1, a.eval x2, a.eval x3, a.eval x4]) (by have hF : a.eval (.func f) = .func (.func f) #[] #[] := rfl; have e := hf #[a.eval x1, a.eval x2, a.eval x3, a.eval x4] w; generalize a.eval = r at *; simp [execOp, ho, resolve, invoke, hF, e, go_sem]) (by rw [h1, h2, h3, h4]; exact hc) h
theorem step_storeA {t : TypeId} {x y : Operand} {g : Nat} {c c' : List Value} (R : Row w g c t) (ho : o.op = .store t x y) (hx : a.eval x = .pointer (some ⟨g, 0, none⟩)) (hy : a.eval y = .agg c'.toArray) (hl : c.length = c'.length) (h1 : ∀ v ∈ c', v.oneCell' = true) (hi : (Tryd.prog.info? t).map (·.size) = some c'.length)
    (h : K (a.put o.dst undef) (w.setRow g c'.toArray)) : Oper.wp Tryd.prog o a w K Q := by
  have hs := R.store (P := Tryd.prog) t c' hl h1 hi
  have e : (execOp a.eval o).run Tryd.prog w = .ok .skip (w.setRow g c'.toArray) := by
    generalize a.eval = r at *
    simp [execOp, ho, hx, hy, hs]
  unfold Oper.wp
  rw [e]
  exact h
theorem step_bJoin {y1 y7 y8 y10 : Operand} {p : Int} {tok non : BitVec 32} {bk : Bool} (ho : o.op = .build 29 #[(0, .const (.int .i64 7)), (1, y1), (7, y7), (8, y8), (10, y10)])
    (h1 : a.eval y1 = .int .i64 p) (h7 : a.eval y7 = .int .u32 (u tok)) (h8 : a.eval y8 = .int .u32 (u non)) (h10 : a.eval y10 = .bool bk) (h : K (a.put o.dst (frV 7 p tok non (.slice none 0 0) bk)) w) : Oper.wp Tryd.prog o a w K Q :=
  step_value (w' := w) (by have h0 : a.eval (.const (.int .i64 7)) = .int .i64 7 := rfl
                           generalize a.eval = r at *; simp [execOp, ho, h0, h1, h7, h8, h10, go_sem, frV, frC]) h
theorem step_bJoined {y1 y8 y9 : Operand} {p : Int} {non : BitVec 32} {s : Option Addr} {n c : Nat} (ho : o.op = .build 29 #[(0, .const (.int .i64 8)), (1, y1), (8, y8), (9, y9)])
    (h1 : a.eval y1 = .int .i64 p) (h8 : a.eval y8 = .int .u32 (u non)) (h9 : a.eval y9 = .slice s n c) (h : K (a.put o.dst (frV 8 p 0#32 non (.slice s n c) false)) w) : Oper.wp Tryd.prog o a w K Q :=
  step_value (w' := w) (by have h0 : a.eval (.const (.int .i64 8)) = .int .i64 8 := rfl
                           have hu : u 0#32 = 0 := rfl
                           generalize a.eval = r at *; simp [execOp, ho, h0, h1, h8, h9, go_sem, frV, frC, hu]) h
theorem step_bProve {y1 y9 : Operand} {p : Int} {s : Option Addr} {n c : Nat} (ho : o.op = .build 29 #[(0, .const (.int .i64 9)), (1, y1), (9, y9)])
    (h1 : a.eval y1 = .int .i64 p) (h9 : a.eval y9 = .slice s n c) (h : K (a.put o.dst (frV 9 p 0#32 0#32 (.slice s n c) false)) w) : Oper.wp Tryd.prog o a w K Q :=
  step_value (w' := w) (by have h0 : a.eval (.const (.int .i64 9)) = .int .i64 9 := rfl
                           have hu : u 0#32 = 0 := rfl
                           generalize a.eval = r at *; simp [execOp, ho, h0, h1, h9, go_sem, frV, frC, hu]) h
end
end Go.Proofs.YtjpllcliehgnfaaDoor
