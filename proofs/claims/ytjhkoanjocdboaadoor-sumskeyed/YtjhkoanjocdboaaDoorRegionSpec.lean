import Derived.Test.YtjhkoanjocdboaaDoorMac3
namespace Go.Proofs.YtjhkoanjocdboaaDoor
open Go.RowKit
set_option maxRecDepth 100000

/-! A region that draws its order, and whose every operation has a slot of its own: what each slot holds once its operation has come up. -/
structure SI (w0 : World) (ops : Array Oper) (A : Act) (Spec : Nat → Value → World → Prop) (l : List Bool) (a : Act) (w : World) : Prop where
  len : l.length = ops.size
  defers : a.defers = A.defers
  size : a.tmps.size = A.tmps.size
  old : ∀ (t : Nat), (∀ (i : Nat) (o : Oper), ops[i]? = some o → o.dst ≠ some t) → a.tmps[t]? = A.tmps[t]?
  new : ∀ (i : Nat) (o : Oper) (d : Nat), l[i]? = some true → ops[i]? = some o → o.dst = some d → ∃ v, a.tmps[d]? = some v ∧ Spec i v w
  bel : Below w0.heap.size w0 w
section
variable {w0 w w' : World} {ops : Array Oper} {A a : Act} {Spec : Nat → Value → World → Prop} {l : List Bool} {o : Oper} {i d : Nat} {v : Value}
theorem ready_dep {md : Region.Mode} (hm : i ∈ Region.ready md ops l.toArray) (ho : ops[i]? = some o) {j : Nat} (h : (o.after.any fun e => Region.binds md e && e.on == j) = true) : l[j]? = some true := by
  unfold Region.ready at hm
  have h1 := (List.mem_filter.1 hm).2
  rw [ho] at h1
  simp only [Option.map_some, Option.getD_some, Bool.and_eq_true] at h1
  rw [Array.any_eq_true'] at h
  obtain ⟨e, he, hb⟩ := h
  simp only [Bool.and_eq_true, beq_iff_eq] at hb
  have h2 := Array.all_eq_true'.1 h1.2 e he
  rw [hb.1] at h2
  simp only [Bool.not_true, Bool.false_or] at h2
  rw [← hb.2]
  have h3 : ∃ h : e.on < l.length, l[e.on] = true := by simpa [Array.getD] using h2
  obtain ⟨h4, h5⟩ := h3
  rw [List.getElem?_eq_getElem h4, h5]
/-- Where no operation is ready, all have come up: each waits for earlier ones only. -/
theorem ready_all {md : Region.Mode} (hlen : l.length = ops.size) (hord : ((List.range ops.size).all fun i => ((ops[i]?).map (·.after.all fun e => decide (e.on < i))).getD false) = true) (hr : Region.ready md ops l.toArray = []) : ∀ i, i < ops.size → l[i]? = some true := by
  intro i
  induction i using Nat.strongRecOn with
  | _ i ih =>
    intro hi
    have ho : ops[i]? = some ops[i] := by simp [hi]
    have h1 := List.all_eq_true.1 hord i (by simpa using hi)
    rw [ho] at h1
    simp only [Option.map_some, Option.getD_some] at h1
    have hil : i < l.length := by omega
    cases hb : l[i] with
    | true => rw [List.getElem?_eq_getElem hil, hb]
    | false =>
      exfalso
      have : i ∈ Region.ready md ops l.toArray := by
        unfold Region.ready
        rw [List.mem_filter]
        refine ⟨by simpa using hi, ?_⟩
        rw [ho]
        simp only [Option.map_some, Option.getD_some, Bool.and_eq_true]
        refine ⟨by simp [Array.getD, hil, hb], ?_⟩
        rw [Array.all_eq_true']
        intro e he
        have h2 := Array.all_eq_true'.1 h1 e he
        have h3 : e.on < i := by simpa using h2
        have h4 := ih e.on h3 (by omega)
        have h5 : e.on < l.length := by omega
        rw [List.getElem?_eq_getElem h5] at h4
        have h6 : l[e.on] = true := by simpa using h4
        simp [Array.getD, h5, h6]
      rw [hr] at this
      cases this
theorem SI.start (n : Nat) (hn : n = ops.size) (hb : Below w0.heap.size w0 w) : SI w0 ops A Spec (List.replicate n false) A w :=
  ⟨by simp [hn], rfl, rfl, fun _ _ => rfl, fun i o d h _ _ => by
    rw [List.getElem?_replicate] at h
    by_cases hi : i < n
    · rw [if_pos hi] at h; cases h
    · rw [if_neg hi] at h; exact absurd h (by simp), hb⟩
theorem SI.step (h : SI w0 ops A Spec l a w) (ho : ops[i]? = some o) (hd : o.dst = some d) (hdl : d < A.tmps.size) (hu : ((List.range ops.size).all fun j => j == i || ((ops[j]?).map fun o' => o'.dst != some d).getD true) = true) (hs : Spec i v w') (hb : Below w.heap.size w w') (hm : ∀ j v, Spec j v w → Spec j v w') : SI w0 ops A Spec (l.set i true) (a.put o.dst v) w' := by
  refine ⟨by rw [List.length_set]; exact h.len, by rw [hd]; exact h.defers, by rw [hd]; simp [Act.put]; exact h.size, ?_, ?_, h.bel.trans (hb.mono h.bel.size)⟩
  · intro t ht
    rw [hd]
    have hne : d ≠ t := fun e => ht i o ho (by rw [hd, e])
    simp only [Act.put]
    rw [Array.getElem?_setIfInBounds_ne hne]
    exact h.old t ht
  · intro j o' d' hl ho' hd'
    rw [hd]
    simp only [Act.put]
    by_cases hj : j = i
    · subst hj
      rw [ho] at ho'
      cases ho'
      rw [hd] at hd'
      cases hd'
      exact ⟨v, by rw [Array.getElem?_setIfInBounds_self_of_lt (by rw [h.size]; exact hdl)], hs⟩
    · rw [List.getElem?_set_ne (Ne.symm hj)] at hl
      obtain ⟨x, hx, hsx⟩ := h.new j o' d' hl ho' hd'
      have hne : d ≠ d' := fun e => by
        have hjs : j < ops.size := (Array.getElem?_eq_some_iff.1 ho').1
        have h1 := List.all_eq_true.1 hu j (by simpa using hjs)
        rw [ho'] at h1
        simp only [Option.map_some, Option.getD_some, Bool.or_eq_true, beq_iff_eq, bne_iff_ne] at h1
        rcases h1 with h1 | h1
        · exact hj h1
        · exact h1 (by rw [hd', e])
      exact ⟨x, by rw [Array.getElem?_setIfInBounds_ne hne]; exact hx, hm j x hsx⟩
theorem eval_tmp {t : Nat} (h : a.tmps[t]? = some v) : a.eval (.tmp t) = v := by
  show a.tmps.getD t undef = v
  rw [Array.getD_eq_getD_getElem?, h]; rfl
theorem SI.oldv (h : SI w0 ops A Spec l a w) {t : Nat} (hc : (ops.all fun o => o.dst != some t) = true) (hA : A.tmps[t]? = some v) : a.eval (.tmp t) = v := by
  refine eval_tmp ((h.old t ?_).trans hA)
  intro i o ho
  have h1 := Array.all_eq_true'.1 hc o (Array.mem_of_getElem? ho)
  simpa using h1
theorem SI.val (h : SI w0 ops A Spec l a w) (hm : i ∈ Region.ready .any ops l.toArray) (ho : ops[i]? = some o) {j : Nat} {o' : Oper} (hj : ops[j]? = some o') (hd : o'.dst = some d) (he : (o.after.any fun e => Region.binds .any e && e.on == j) = true) : ∃ v, a.eval (.tmp d) = v ∧ Spec j v w := by
  obtain ⟨v, hv, hs⟩ := h.new j o' d (ready_dep hm ho he) hj hd
  exact ⟨v, eval_tmp hv, hs⟩
theorem wpOp_guard {P : Program} {K : Act → World → Prop} {Q : Exit → Act → World → Prop} {j : Nat} (ho : ops[i]? = some o) (hg : o.guard = some (j, true)) (hy : yielded ops a.tmps j = some true) (h : o.wp P a w K Q) : wpOp P ops Q i K a w := by
  unfold wpOp
  rw [ho]
  simp only [Region.wanted, hg, hy]
  exact .inl h
theorem yielded_of {j : Nat} {o' : Oper} (hj : ops[j]? = some o') (hd : o'.dst = some d) (h : a.tmps[d]? = some (.bool true)) : yielded ops a.tmps j = some true := by
  unfold yielded
  rw [hj]
  simp [hd, h]
theorem step_value {P : Program} {K : Act → World → Prop} {Q : Exit → Act → World → Prop} (e : (execOp a.eval o).run P w = .ok (.value v) w') (h : K (a.put o.dst v) w') : Oper.wp P o a w K Q := by
  unfold Oper.wp
  rw [e, Oper.upon_value]
  exact h
theorem step_callf {P : Program} {K : Act → World → Prop} {Q : Exit → Act → World → Prop} {f : FuncId} {args : Array Value} {G : World → Prop} (e : (execOp a.eval o).run P w = .ok (.enter f args) w)
    (hc : Calls P f args w fun e w' => e = .returned v ∧ G w') (h : ∀ w', G w' → K (a.put o.dst v) w') : Oper.wp P o a w K Q := by
  unfold Oper.wp
  rw [e, Oper.upon_enter]
  refine Calls.mono hc ?_
  rintro e w' ⟨rfl, hg⟩
  exact h w' hg
/-- The rule: each operation that is ready gives its slot what it should hold; behind them all goes on. -/
theorem wpAny_spec {P : Program} {Q : Exit → Act → World → Prop} (w0 : World) (Spec : Nat → Value → World → Prop) (hb : Below w0.heap.size w0 w)
    (step : ∀ l a w i, SI w0 ops A Spec l a w → i < ops.size → i ∈ Region.ready .any ops l.toArray → wpOp P ops Q i (SI w0 ops A Spec (l.set i true)) a w)
    (fin : ∀ l a w, SI w0 ops A Spec l a w → Region.ready .any ops l.toArray = [] → Q .normal a w) : wpAny P .any ops Q ops.size (Array.replicate ops.size false) A w := by
  have e : (Array.replicate ops.size false) = (List.replicate ops.size false).toArray := by simp
  rw [e]
  refine wpAny_inv (SI w0 ops A Spec) (fun l a w h => h.len) (fun l a w i h hf hm => step l a w i h ?_ hm) fin _ _ _ _ (SI.start _ rfl hb) ?_
  · have := (List.getElem?_eq_some_iff.1 hf).1
    rw [h.len] at this
    exact this
  · have := List.countP_le_length (p := (!·)) (l := List.replicate ops.size false)
    simpa using this
end
end Go.Proofs.YtjhkoanjocdboaaDoor
