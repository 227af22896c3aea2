import Derived.Test.YtjpllcliehgnfaaDoorRegionInv
import Derived.Test.YtjpllcliehgnfaaDoorNobody
namespace Go.Proofs.YtjpllcliehgnfaaDoor
open Go.RowKit
set_option maxRecDepth 100000

theorem hid {p : Prop} (h : p) : Hid p := h
theorem zero36 : (Tryd.prog.info? 92).map (fun i => (i.zero, i.size)) = some (some (.agg (bcells z64).toArray), 64) := by kernel_rfl
theorem z36 (w : World) : (zeroValue 92).run Tryd.prog w = .ok (.agg (bcells z64).toArray) w := (zero_of_info zero36).1 w
theorem i36' : (Tryd.prog.info? 92).map (·.size) = some 64 := (zero_of_info zero36).2
section
variable {ops : Array Oper} {o : Oper} {a : Act} {w : World} {K : Act → World → Prop} {Q : Exit → Act → World → Prop}
theorem wpOp_of {P : Program} {i : Nat} (ho : ops[i]? = some o) (hg : o.guard = none) (h : o.wp P a w K Q) : wpOp P ops Q i K a w := by
  unfold wpOp
  rw [ho]
  simp only [Region.wanted, hg]
  exact .inl h
theorem step_alloc36 (ho : o.op = .alloc 92) (h : K (a.put o.dst (.pointer (some ⟨w.heap.size, 0, none⟩))) (w.alloc (.cells (bcells z64).toArray 92))) : Oper.wp Tryd.prog o a w K Q := by
  have hz := z36
  have e : (execOp a.eval o).run Tryd.prog w = .ok (.value (.pointer (some ⟨w.heap.size, 0, none⟩))) (w.alloc (.cells (bcells z64).toArray 92)) := by
    simp [execOp, ho, hz, go_sem]
  unfold Oper.wp
  rw [e, Oper.upon_value]
  exact h
theorem step_call29 {x y : Operand} {vx vy v : Value} {G : World → Prop} (ho : o.op = .call { callee := .value (.func 69), args := #[x, y], argTypes := #[92, 5] }) (hx : a.eval x = vx) (hy : a.eval y = vy)
    (hc : Calls Tryd.prog 69 #[vx, vy] w fun e w' => e = .returned v ∧ G w') (h : ∀ w', G w' → K (a.put o.dst v) w') : Oper.wp Tryd.prog o a w K Q := by
  subst hx hy
  have e : (execOp a.eval o).run Tryd.prog w = .ok (.enter 69 #[a.eval x, a.eval y]) w := by
    simp [execOp, ho, resolve, invoke, go_sem]
  unfold Oper.wp
  rw [e, Oper.upon_enter]
  refine Calls.mono hc ?_
  rintro e w' ⟨rfl, hg⟩
  exact h w' hg
end
end Go.Proofs.YtjpllcliehgnfaaDoor
