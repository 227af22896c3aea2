import Derived.Test.YtjpllcliehgnfaaDoorHash1
import Derived.Great.Frames
namespace Go.Proofs.YtjpllcliehgnfaaDoor
open Go.RowKit
set_option maxRecDepth 100000
section
variable {ops : Array Oper} {o : Oper} {a : Act} {w : World} {K : Act → World → Prop} {Q : Exit → Act → World → Prop}
/-- A load of many cells as one step of a region that draws. -/
theorem step_load {p : Nat} {cur : List Value} {t : TypeId} (R : Row w p cur t) (off : Nat) (ty : TypeId) (x : Operand) (ho : o.op = .load ty x) (hx : a.eval x = .pointer (some ⟨p, off, none⟩)) (cs : List Value) (d : TypeDesc)
    (hcs : ∀ j v, cs[j]? = some v → cur[off + j]? = some v) (hu : Tryd.prog.underlying ty = some d) (hd : d.isRow = true) (hi : (Tryd.prog.info? ty).map (·.size) = some cs.length)
    (h : K (a.put o.dst (.agg cs.toArray)) w) : Oper.wp Tryd.prog o a w K Q := by
  exact wp_load_mid ty x ho p off hx cs d (R.range off cs hcs) hu hd hi h
theorem step_store {p : Nat} {cur : List Value} {t : TypeId} (R : Row w p cur t) (off : Nat) (ty : TypeId) (x y : Operand) (ho : o.op = .store ty x y) (hx : a.eval x = .pointer (some ⟨p, off, none⟩)) (cs : List Value) (hy : a.eval y = .agg cs.toArray)
    (hl : off + cs.length ≤ cur.length) (h1 : ∀ v ∈ cs, v.oneCell' = true) (hi : (Tryd.prog.info? ty).map (·.size) = some cs.length)
    (h : ∀ w', Hid (w' = w.setRow p (cur.take off ++ cs ++ cur.drop (off + cs.length)).toArray) → K (a.put o.dst undef) w') : Oper.wp Tryd.prog o a w K Q := by
  have hst := run_storeCells_at Tryd.prog p off t cs 0 cur.toArray w R.at_ (by simpa using hl) h1
  cases hq : Tryd.prog.info? ty with
  | none => simp [hq] at hi
  | some i =>
    have hs : i.size = cs.length := by simpa [hq] using hi
    simp only [Nat.add_zero] at hst
    unfold Oper.wp execOp
    simp [ho, hx, hy, Instr.storeAt, Instr.sureAddr, storeVar, sizeOf, typeInfo, hq, hs, Value.cells, hst]
    rw [Oper.upon_skip]
    exact h _ (show w.setRow p _ = w.setRow p _ by simp)
theorem step_call31 {x y : Operand} {vx vy v : Value} {G : World → Prop} (ho : o.op = .call { callee := .value (.func 66), args := #[x, y], argTypes := #[90, 92] }) (hx : a.eval x = vx) (hy : a.eval y = vy)
    (hc : Calls Tryd.prog 66 #[vx, vy] w fun e w' => e = .returned v ∧ G w') (h : ∀ w', G w' → K (a.put o.dst v) w') : Oper.wp Tryd.prog o a w K Q := by
  subst hx hy
  have e : (execOp a.eval o).run Tryd.prog w = .ok (.enter 66 #[a.eval x, a.eval y]) w := by
    simp [execOp, ho, resolve, invoke, go_sem]
  unfold Oper.wp
  rw [e, Oper.upon_enter]
  refine Calls.mono hc ?_
  rintro e w' ⟨rfl, hg⟩
  exact h w' hg
theorem wp_act {code : Code} (h : ∀ a0, Hid (a0 = a) → code.wp Tryd.prog Q a0 w) : code.wp Tryd.prog Q a w := h a rfl
/-- What a copy, a check for nil and a field's address yield, in whatever world. -/
theorem yields_move (x : Operand) (v : Value) (hgd : o.guard = none) (ho : o.op = .move x) (hx : a.eval x = v) : Yields Tryd.prog ops o v a :=
  Or.inl ⟨by simp [Region.wanted, hgd], fun w => by subst hx; simp [execOp, ho]⟩
theorem yields_nilCheck (x : Operand) (ad : Addr) (hgd : o.guard = none) (ho : o.op = .nilCheck x) (hx : a.eval x = .pointer (some ad)) : Yields Tryd.prog ops o (.pointer (some ad)) a :=
  Or.inl ⟨by simp [Region.wanted, hgd], fun w => by simp only [execOp, ho, hx]; rfl⟩
theorem yields_field (x : Operand) (b i off : Nat) (hgd : o.guard = none) (ho : o.op = .fieldAddr 94 x i) (hx : a.eval x = .pointer (some ⟨b, 0, none⟩))
    (hf : ∀ w b, (Instr.fieldAt 94 (.pointer (some ⟨b, 0, none⟩)) i).run Tryd.prog w = .ok (.pointer (some ⟨b, off, none⟩)) w) : Yields Tryd.prog ops o (.pointer (some ⟨b, off, none⟩)) a :=
  Or.inl ⟨by simp [Region.wanted, hgd], fun w => by simp [execOp, ho, hx, hf]⟩
end
end Go.Proofs.YtjpllcliehgnfaaDoor
