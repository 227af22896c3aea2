import Derived.Test.YtkhogbnoincbeabMx0
import Derived.Test.YtkhogbnoincbeabReg0
namespace Go.Proofs.Ytkhogbnoincbeab.Tx
open Go.RowKit Go.Maps Go.Sort
set_option maxRecDepth 100000

theorem box_range (w : World) (t : TypeId) (l : List Value) : ∀ j u, l[j]? = some u → (w.alloc (.cells l.toArray t)).cell? ((⟨w.heap.size, 0, none⟩ : Addr).add j) = some u := fun j u hj => by
  rw [Addr.add_lit, Nat.zero_add]
  exact (Row.new w l t).cell j u hj
section
variable {ops : Array Oper} {o : Oper} {a : Act} {w : World} {K : Act → World → Prop} {Q : Exit → Act → World → Prop}
theorem step_callv {f : FuncId} {args : Array Value} {G : Value → World → Prop} (e : (execOp a.eval o).run Try.prog w = .ok (.enter f args) w)
    (hc : Calls Try.prog f args w fun e w' => ∃ v, e = .returned v ∧ G v w') (h : ∀ v w', G v w' → K (a.put o.dst v) w') : Oper.wp Try.prog o a w K Q := by
  unfold Oper.wp
  rw [e, Oper.upon_enter]
  refine Calls.mono hc ?_
  rintro e w' ⟨v, rfl, hg⟩
  exact h v w' hg
end
/-- The same bytes? -/
theorem psame_yes {w : World} {a a' : Option Addr} {n c c' : Nat} {bs : List (BitVec 8)} (hx : BytesAt w a bs) (hn : bs.length = n) (hy : BytesAt w a' bs) :
    Calls Try.prog 9 #[.slice a n c, .slice a' n c'] w fun e w' => e = .returned (.bool true) ∧ w' = w := by
  refine (psame_any hx hn hy hn).mono ?_
  rintro e w' ⟨rfl, rfl⟩
  exact ⟨by simp, rfl⟩
end Go.Proofs.Ytkhogbnoincbeab.Tx
