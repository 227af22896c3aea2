import Derived.Test.YtgfefopihkiihaaMk
import Derived.Test.YtgfefopihkiihaaRegN
namespace Go.Proofs.Ytgfefopihkiihaa
open Go.RowKit Go.Maps
set_option maxRecDepth 100000

theorem step_callxi {P : Program} {o : Oper} {a : Act} {w : World} {K : Act → World → Prop} {Q : Exit → Act → World → Prop} {f : FuncId} {args : Array Value} {G : Value → World → Prop} (e : (execOp a.eval o).run P w = .ok (.enter f args) w)
    (hc : Calls P f args w fun e w' => ∃ v, e = .returned v ∧ G v w') (h : ∀ v w', G v w' → K (a.put o.dst v) w') : Oper.wp P o a w K Q := by
  unfold Oper.wp
  rw [e, Oper.upon_enter]
  refine Calls.mono hc ?_
  rintro e w' ⟨v, rfl, hg⟩
  exact h v w' hg
theorem step_storeA {o : Oper} {a : Act} {w : World} {K : Act → World → Prop} {Q : Exit → Act → World → Prop} {t : TypeId} {x y : Operand} {g : Nat} {c c' : List Value} (R : Row w g c t) (ho : o.op = .store t x y) (hx : a.eval x = .pointer (some ⟨g, 0, none⟩)) (hy : a.eval y = .agg c'.toArray) (hl : c.length = c'.length) (h1 : ∀ v ∈ c', v.oneCell' = true) (hi : (Try.prog.info? t).map (·.size) = some c'.length)
    (h : K (a.put o.dst undef) (w.setRow g c'.toArray)) : Oper.wp Try.prog o a w K Q := by
  have hs := R.store (P := Try.prog) t c' hl h1 hi
  have e : (execOp a.eval o).run Try.prog w = .ok .skip (w.setRow g c'.toArray) := by
    generalize a.eval = r at *
    simp [execOp, ho, hx, hy, hs]
  unfold Oper.wp
  rw [e]
  exact h
theorem step_value {P : Program} {o : Oper} {a : Act} {w w' : World} {v : Value} {K : Act → World → Prop} {Q : Exit → Act → World → Prop} (e : (execOp a.eval o).run P w = .ok (.value v) w') (h : K (a.put o.dst v) w') : Oper.wp P o a w K Q := by
  unfold Oper.wp
  rw [e, Oper.upon_value]
  exact h
theorem exec_bslice {P : Program} {o : Oper} {a : Act} {w w' : World} {t : TypeId} {n : Nat} {parts : Array (Nat × Operand)} {parts' : Array (Nat × Value)} {v : Value} (ho : o.op = .buildSlice t n parts) (he : (parts.map fun (i, x) => (i, a.eval x)) = parts') (hb : (Instr.buildSlice t n parts').run P w = .ok v w') : (execOp a.eval o).run P w = .ok (.value v) w' := by
  unfold execOp
  rw [ho]
  simp only [he, Sem.run_bind, hb, Result.andThen_ok, Sem.run_pure]
/-- A packet alone, as a list. -/
theorem step_bslP {o : Oper} {a : Act} {w : World} {K : Act → World → Prop} {Q : Exit → Act → World → Prop} {x : Operand} {p : Pkt} (ho : o.op = .buildSlice 25 1 #[(0, x)]) (hx : a.eval x = .agg (pcells p).toArray) (h : K (a.put o.dst (.slice (some ⟨w.heap.size, 0, none⟩) 1 1)) (w.alloc (.cells (pcells p).toArray 58))) : Oper.wp Try.prog o a w K Q :=
  step_value (exec_bslice (parts' := #[(0, .agg (pcells p).toArray)]) ho (by simp [hx]) (bsl25 w p.sec p.part p.len p.fa p.bs.length p.fc)) h
theorem step_app {P : Program} {w : World} {o : Oper} {a : Act} {K : Act → World → Prop} {Q : Exit → Act → World → Prop} (s x : Operand) (t : TypeId)
    (ho : o.op = .call { callee := .builtin .append, args := #[s, x], argTypes := #[t, t] }) {v u v' : Value} {w' : World} (hs : a.eval s = v) (hx : a.eval x = u)
    (hr : (Builtin.append_ #[t, t] o.type #[v, u]).run P w = .ok v' w') (h : K (a.put o.dst v') w') : Oper.wp P o a w K Q := by
  unfold Oper.wp execOp
  simp only [ho, resolve, invoke, builtin, Sem.run_bind, Sem.run_pure, Result.andThen_ok, List.map_toArray, List.map_cons, List.map_nil, hs, hx, hr]
  exact h
theorem step_store25 {o : Oper} {a : Act} {w : World} {K : Act → World → Prop} {Q : Exit → Act → World → Prop} {x y : Operand} {b k : Nat} {v : Value} {old : Value} (ho : o.op = .store 25 x y) (hx : a.eval x = .pointer (some ⟨b, k, none⟩)) (hy : a.eval y = v) (hv : ∃ av n c, v = .slice av n c) (hc : w.cell? ⟨b, k, none⟩ = some old) (hf : w.frozen? ⟨b, k, none⟩ = false)
    (h : K (a.put o.dst undef) (w.setCell ⟨b, k, none⟩ v)) : Oper.wp Try.prog o a w K Q := by
  obtain ⟨av, n, c, rfl⟩ := hv
  have e : (execOp a.eval o).run Try.prog w = .ok .skip (w.setCell ⟨b, k, none⟩ (.slice av n c)) := by
    generalize a.eval = r at *
    simp [execOp, ho, hx, hy, hc, hf, go_sem]
  unfold Oper.wp
  rw [e]
  exact h
/-- A packet behind an own row of them, as a run. -/
theorem push_runP {w : World} {base : Nat} {v : Value} {L : List Pkt} (h : w.ownsRow base 58 4 v L.length (flat pcells L)) (hbase : base ≤ w.heap.size) {x : Pkt} {bx : Nat} (hl : L.length + 1 ≤ 3518437208883) (hb : Row w bx (pcells x) 58) (ty : TypeId) :
    ∃ v' w', (Builtin.append_ #[25, 25] ty #[v, .slice (some ⟨bx, 0, none⟩) 1 1]).run Try.prog w = .ok v' w' ∧ w'.ownsRow base 58 4 v' (L ++ [x]).length (flat pcells (L ++ [x])) ∧ Fr (fun k => v.ownBlock = some k) w w' ∧ (v'.ownBlock = v.ownBlock ∨ v'.ownBlock = some w.heap.size) := by
  obtain ⟨i, h1, h2, h3, h4⟩ := inf58
  obtain ⟨v', w', hr, ho, hg, hnil, ha⟩ := run_append_own_at (P := Try.prog) w base 25 ty 58 i _ 4 40 Try.underlying25 h1 h2 h3 h4 rfl (by decide) v L.length (flat pcells L) h ⟨bx, 0, none⟩ 1 1 (pcells x) rfl (fun j u hu => by
    rw [Addr.add_mid]
    exact hb.cell _ _ (by simpa using hu)) (pcells_one x) (by unfold maxLen; omega) (by omega) hbase
  have hF : Fr (fun k => v.ownBlock = some k) w w' := Fr.of_grown hg (fun k e => .inl e)
  refine ⟨v', w', hr, ?_, hF, ha⟩
  rw [show (L ++ [x]).length = L.length + 1 by simp, flat_app, show flat pcells [x] = pcells x by simp [flat]]
  exact ho
end Go.Proofs.Ytgfefopihkiihaa
