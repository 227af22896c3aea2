import Derived.Test.YtkhogbnoincbeabRtBase
import Derived.StillTailTactics
namespace Go.Proofs.Ytkhogbnoincbeab
open Go.RowKit
set_option maxRecDepth 100000

/-! A region that draws its order, by an invariant over what has come up. -/
theorem count_set : ∀ (L : List Bool) (i : Nat), L[i]? = some false → (L.set i true).countP (!·) + 1 = L.countP (!·)
  | [], i, h => by simp at h
  | b :: L, 0, h => by
    have : b = false := by simpa using h
    subst this
    simp
  | b :: L, i + 1, h => by
    have := count_set L i (by simpa using h)
    simp only [List.set_cons_succ, List.countP_cons]
    omega
theorem count_zero : ∀ (L : List Bool), L.countP (!·) = 0 → ∀ i, i < L.length → L[i]? = some true
  | [], _, i, h => by simp at h
  | b :: L, h, i, hi => by
    rw [List.countP_cons] at h
    cases i with
    | zero => cases b <;> simp_all
    | succ i =>
      have := count_zero L (by omega) i (by simpa using hi)
      simpa using this
theorem wpAny_inv {P : Program} {md : Region.Mode} {ops : Array Oper} {Q : Exit → Act → World → Prop} (Inv : List Bool → Act → World → Prop) (hs : ∀ l a w, Inv l a w → l.length = ops.size)
    (step : ∀ l a w i, Inv l a w → l[i]? = some false → i ∈ Region.ready md ops l.toArray → wpOp P ops Q i (Inv (l.set i true)) a w)
    (fin : ∀ l a w, Inv l a w → Region.ready md ops l.toArray = [] → Q .normal a w) :
    ∀ (fuel : Nat) (l : List Bool) (a : Act) (w : World), Inv l a w → l.countP (!·) ≤ fuel → wpAny P md ops Q fuel l.toArray a w := by
  intro fuel
  induction fuel with
  | zero =>
    intro l a w hi hc
    have hr : Region.ready md ops l.toArray = [] := by
      unfold Region.ready
      rw [List.filter_eq_nil_iff]
      intro i hm
      have hlt : i < l.length := by rw [hs l a w hi]; simpa using hm
      have := count_zero l (by omega) i hlt
      simp [this]
    exact ⟨hr, fin l a w hi hr⟩
  | succ fuel ih =>
    intro l a w hi hc
    refine ⟨fun hr => fin l a w hi hr, fun i hm => ?_⟩
    have hf : l[i]? = some false := by
      unfold Region.ready at hm
      have h1 := List.mem_filter.1 hm
      have hlt : i < l.length := by rw [hs l a w hi]; simpa using h1.1
      have h2 := h1.2
      simp only [Bool.and_eq_true, Bool.not_eq_true'] at h2
      have h3 := h2.1
      rw [List.getElem?_eq_getElem hlt]
      simp [Array.getD, hlt] at h3
      rw [h3]
    have hc2 := count_set l i hf
    refine wpOp_mono (fun a' w' h => ?_) (step l a w i hi hf hm)
    have := ih (l.set i true) a' w' h (by omega)
    simpa using this
/-! A region that draws its order, and whose every operation has a slot of its own: what each slot holds once its operation has come up. -/
structure SI (G : List Bool → World → Prop) (ops : Array Oper) (A : Act) (Spec : Nat → Value → World → Prop) (l : List Bool) (a : Act) (w : World) : Prop where
  len : l.length = ops.size
  defers : a.defers = A.defers
  size : a.tmps.size = A.tmps.size
  old : ∀ (t : Nat), (∀ (i : Nat) (o : Oper), ops[i]? = some o → o.dst ≠ some t) → a.tmps[t]? = A.tmps[t]?
  new : ∀ (i : Nat) (o : Oper) (d : Nat), l[i]? = some true → ops[i]? = some o → o.dst = some d → ∃ v, a.tmps[d]? = some v ∧ Spec i v w
  bel : G l w
section
variable {G : List Bool → World → Prop} {w w' : World} {ops : Array Oper} {A a : Act} {Spec : Nat → Value → World → Prop} {l : List Bool} {o : Oper} {i d : Nat} {v : Value}
theorem ready_dep {md : Region.Mode} (hm : i ∈ Region.ready md ops l.toArray) (ho : ops[i]? = some o) {j : Nat} (h : (o.after.any fun e => Region.binds md e && e.on == j) = true) : l[j]? = some true := by
  unfold Region.ready at hm
  have h1 := (List.mem_filter.1 hm).2
  rw [ho] at h1
  simp only [Option.map_some, Option.getD_some, Bool.and_eq_true] at h1
  rw [Array.any_eq_true'] at h
  obtain ⟨e, he, hb⟩ := h
  simp only [Bool.and_eq_true, beq_iff_eq] at hb
  have h2 := Array.all_eq_true'.1 h1.2 e he
  rw [hb.1] at h2
  simp only [Bool.not_true, Bool.false_or] at h2
  rw [← hb.2]
  have h3 : ∃ h : e.on < l.length, l[e.on] = true := by simpa [Array.getD] using h2
  obtain ⟨h4, h5⟩ := h3
  rw [List.getElem?_eq_getElem h4, h5]
/-- Where no operation is ready, all have come up: each waits for earlier ones only. -/
theorem ready_all {md : Region.Mode} (hlen : l.length = ops.size) (hord : ((List.range ops.size).all fun i => ((ops[i]?).map (·.after.all fun e => decide (e.on < i))).getD false) = true) (hr : Region.ready md ops l.toArray = []) : ∀ i, i < ops.size → l[i]? = some true := by
  intro i
  induction i using Nat.strongRecOn with
  | _ i ih =>
    intro hi
    have ho : ops[i]? = some ops[i] := by simp [hi]
    have h1 := List.all_eq_true.1 hord i (by simpa using hi)
    rw [ho] at h1
    simp only [Option.map_some, Option.getD_some] at h1
    have hil : i < l.length := by omega
    cases hb : l[i] with
    | true => rw [List.getElem?_eq_getElem hil, hb]
    | false =>
      exfalso
      have : i ∈ Region.ready md ops l.toArray := by
        unfold Region.ready
        rw [List.mem_filter]
        refine ⟨by simpa using hi, ?_⟩
        rw [ho]
        simp only [Option.map_some, Option.getD_some, Bool.and_eq_true]
        refine ⟨by simp [Array.getD, hil, hb], ?_⟩
        rw [Array.all_eq_true']
        intro e he
        have h2 := Array.all_eq_true'.1 h1 e he
        have h3 : e.on < i := by simpa using h2
        have h4 := ih e.on h3 (by omega)
        have h5 : e.on < l.length := by omega
        rw [List.getElem?_eq_getElem h5] at h4
        have h6 : l[e.on] = true := by simpa using h4
        simp [Array.getD, h5, h6]
      rw [hr] at this
      cases this
theorem SI.start (n : Nat) (hn : n = ops.size) (hb : G (List.replicate n false) w) : SI G ops A Spec (List.replicate n false) A w :=
  ⟨by simp [hn], rfl, rfl, fun _ _ => rfl, fun i o d h _ _ => by
    rw [List.getElem?_replicate] at h
    by_cases hi : i < n
    · rw [if_pos hi] at h; cases h
    · rw [if_neg hi] at h; exact absurd h (by simp), hb⟩
theorem SI.step (h : SI G ops A Spec l a w) (ho : ops[i]? = some o) (hd : o.dst = some d) (hdl : d < A.tmps.size) (hu : ((List.range ops.size).all fun j => j == i || ((ops[j]?).map fun o' => o'.dst != some d).getD true) = true) (hs : Spec i v w') (hb : G (l.set i true) w') (hm : ∀ j v, j ≠ i → Spec j v w → Spec j v w') : SI G ops A Spec (l.set i true) (a.put o.dst v) w' := by
  refine ⟨by rw [List.length_set]; exact h.len, by rw [hd]; exact h.defers, by rw [hd]; simp [Act.put]; exact h.size, ?_, ?_, hb⟩
  · intro t ht
    rw [hd]
    have hne : d ≠ t := fun e => ht i o ho (by rw [hd, e])
    simp only [Act.put]
    rw [Array.getElem?_setIfInBounds_ne hne]
    exact h.old t ht
  · intro j o' d' hl ho' hd'
    rw [hd]
    simp only [Act.put]
    by_cases hj : j = i
    · subst hj
      rw [ho] at ho'
      cases ho'
      rw [hd] at hd'
      cases hd'
      exact ⟨v, by rw [Array.getElem?_setIfInBounds_self_of_lt (by rw [h.size]; exact hdl)], hs⟩
    · rw [List.getElem?_set_ne (Ne.symm hj)] at hl
      obtain ⟨x, hx, hsx⟩ := h.new j o' d' hl ho' hd'
      have hne : d ≠ d' := fun e => by
        have hjs : j < ops.size := (Array.getElem?_eq_some_iff.1 ho').1
        have h1 := List.all_eq_true.1 hu j (by simpa using hjs)
        rw [ho'] at h1
        simp only [Option.map_some, Option.getD_some, Bool.or_eq_true, beq_iff_eq, bne_iff_ne] at h1
        rcases h1 with h1 | h1
        · exact hj h1
        · exact h1 (by rw [hd', e])
      exact ⟨x, by rw [Array.getElem?_setIfInBounds_ne hne]; exact hx, hm j x hj hsx⟩
theorem eval_tmp {t : Nat} (h : a.tmps[t]? = some v) : a.eval (.tmp t) = v := by
  show a.tmps.getD t undef = v
  rw [Array.getD_eq_getD_getElem?, h]; rfl
theorem SI.oldv (h : SI G ops A Spec l a w) {t : Nat} (hc : (ops.all fun o => o.dst != some t) = true) (hA : A.tmps[t]? = some v) : a.eval (.tmp t) = v := by
  refine eval_tmp ((h.old t ?_).trans hA)
  intro i o ho
  have h1 := Array.all_eq_true'.1 hc o (Array.mem_of_getElem? ho)
  simpa using h1
theorem SI.val (h : SI G ops A Spec l a w) (hm : i ∈ Region.ready .any ops l.toArray) (ho : ops[i]? = some o) {j : Nat} {o' : Oper} (hj : ops[j]? = some o') (hd : o'.dst = some d) (he : (o.after.any fun e => Region.binds .any e && e.on == j) = true) : ∃ v, a.eval (.tmp d) = v ∧ Spec j v w := by
  obtain ⟨v, hv, hs⟩ := h.new j o' d (ready_dep hm ho he) hj hd
  exact ⟨v, eval_tmp hv, hs⟩
theorem wpOp_guard {P : Program} {K : Act → World → Prop} {Q : Exit → Act → World → Prop} {j : Nat} (ho : ops[i]? = some o) (hg : o.guard = some (j, true)) (hy : yielded ops a.tmps j = some true) (h : o.wp P a w K Q) : wpOp P ops Q i K a w := by
  unfold wpOp
  rw [ho]
  simp only [Region.wanted, hg, hy]
  exact .inl h
theorem yielded_of {j : Nat} {o' : Oper} (hj : ops[j]? = some o') (hd : o'.dst = some d) (h : a.tmps[d]? = some (.bool true)) : yielded ops a.tmps j = some true := by
  unfold yielded
  rw [hj]
  simp [hd, h]
theorem step_value {P : Program} {K : Act → World → Prop} {Q : Exit → Act → World → Prop} (e : (execOp a.eval o).run P w = .ok (.value v) w') (h : K (a.put o.dst v) w') : Oper.wp P o a w K Q := by
  unfold Oper.wp
  rw [e, Oper.upon_value]
  exact h
theorem step_callf {P : Program} {K : Act → World → Prop} {Q : Exit → Act → World → Prop} {f : FuncId} {args : Array Value} {G : World → Prop} (e : (execOp a.eval o).run P w = .ok (.enter f args) w)
    (hc : Calls P f args w fun e w' => e = .returned v ∧ G w') (h : ∀ w', G w' → K (a.put o.dst v) w') : Oper.wp P o a w K Q := by
  unfold Oper.wp
  rw [e, Oper.upon_enter]
  refine Calls.mono hc ?_
  rintro e w' ⟨rfl, hg⟩
  exact h w' hg
/-- The rule: each operation that is ready gives its slot what it should hold; behind them all goes on. -/
theorem wpAny_spec {P : Program} {Q : Exit → Act → World → Prop} (G : List Bool → World → Prop) (Spec : Nat → Value → World → Prop) (hb : G (List.replicate ops.size false) w)
    (step : ∀ l a w i, SI G ops A Spec l a w → i < ops.size → i ∈ Region.ready .any ops l.toArray → wpOp P ops Q i (SI G ops A Spec (l.set i true)) a w)
    (fin : ∀ l a w, SI G ops A Spec l a w → Region.ready .any ops l.toArray = [] → Q .normal a w) : wpAny P .any ops Q ops.size (Array.replicate ops.size false) A w := by
  have e : (Array.replicate ops.size false) = (List.replicate ops.size false).toArray := by simp
  rw [e]
  refine wpAny_inv (SI G ops A Spec) (fun l a w h => h.len) (fun l a w i h hf hm => step l a w i h ?_ hm) fin _ _ _ _ (SI.start _ rfl hb) ?_
  · have := (List.getElem?_eq_some_iff.1 hf).1
    rw [h.len] at this
    exact this
  · have := List.countP_le_length (p := (!·)) (l := List.replicate ops.size false)
    simpa using this
theorem SI.stepNone (h : SI G ops A Spec l a w) (ho : ops[i]? = some o) (hd : o.dst = none) (hb : G (l.set i true) w') (hm : ∀ j v, j ≠ i → Spec j v w → Spec j v w') : SI G ops A Spec (l.set i true) (a.put o.dst v) w' := by
  rw [hd]
  refine ⟨by rw [List.length_set]; exact h.len, h.defers, h.size, h.old, ?_, hb⟩
  intro j o' d' hl ho' hd'
  by_cases hj : j = i
  · subst hj
    rw [ho] at ho'
    cases ho'
    rw [hd] at hd'
    cases hd'
  · rw [List.getElem?_set_ne (Ne.symm hj)] at hl
    obtain ⟨x, hx, hsx⟩ := h.new j o' d' hl ho' hd'
    exact ⟨x, hx, hm j x hj hsx⟩
/-- What has come up, and all that it waited for. -/
def Closed (ops : Array Oper) (l : List Bool) : Prop := ∀ (k : Nat) (o : Oper) (j : Nat), l[k]? = some true → ops[k]? = some o → (o.after.any fun e => Region.binds .any e && e.on == j) = true → l[j]? = some true
theorem Closed.step (h : Closed ops l) (hm : i ∈ Region.ready .any ops l.toArray) : Closed ops (l.set i true) := by
  intro k o' j hk ho' ha
  have key : l[j]? = some true := by
    by_cases hki : k = i
    · subst hki
      exact ready_dep hm ho' ha
    · rw [List.getElem?_set_ne (Ne.symm hki)] at hk
      exact h k o' j hk ho' ha
  by_cases hji : j = i
  · subst hji
    rw [List.getElem?_set_self (List.getElem?_eq_some_iff.1 key).1]
  · rw [List.getElem?_set_ne (Ne.symm hji)]
    exact key
/-- The same where the last operation waits, at last, for all others: what it does is told apart (a store, most often). -/
theorem wpAny_last {P : Program} {Q : Exit → Act → World → Prop} (n : Nat) (hn : ops.size = n + 1) (hcov : ((List.range n).all fun j => (List.range (n + 1)).any fun k => decide (j < k) && ((ops[k]?).map fun o => o.after.any fun e => Region.binds .any e && e.on == j).getD false) = true)
    (hord : ((List.range ops.size).all fun i => ((ops[i]?).map (·.after.all fun e => decide (e.on < i))).getD false) = true) (G : List Bool → World → Prop) (Spec : Nat → Value → World → Prop) (hb : G (List.replicate ops.size false) w)
    (step : ∀ l a w i, SI G ops A Spec l a w → i < n → l[i]? = some false → i ∈ Region.ready .any ops l.toArray → wpOp P ops Q i (SI G ops A Spec (l.set i true)) a w)
    (last : ∀ l a w, SI G ops A Spec l a w → (∀ j, j < n → l[j]? = some true) → wpOp P ops Q n (fun a w => Q .normal a w) a w) : wpAny P .any ops Q ops.size (Array.replicate ops.size false) A w := by
  have e : (Array.replicate ops.size false) = (List.replicate ops.size false).toArray := by simp
  rw [e]
  refine wpAny_inv (fun l a w => (SI G ops A Spec l a w ∧ l[n]? = some false ∧ Closed ops l) ∨ (l.length = ops.size ∧ l[n]? = some true ∧ (∀ j, j < n → l[j]? = some true) ∧ Q .normal a w)) ?_ ?_ ?_ _ _ _ _ (.inl ⟨SI.start _ rfl hb, ?_, ?_⟩) ?_
  · rintro l a w (h | h)
    · exact h.1.len
    · exact h.1
  · rintro l a w i (h | h) hf hm
    · have hil : i < l.length := (List.getElem?_eq_some_iff.1 hf).1
      rw [h.1.len, hn] at hil
      by_cases hi : i < n
      · refine wpOp_mono (fun a' w' h' => ?_) (step l a w i h.1 hi hf hm)
        exact .inl ⟨h', by rw [List.getElem?_set_ne (by omega)]; exact h.2.1, h.2.2.step hm⟩
      · obtain rfl : i = n := by omega
        have hall : ∀ d j, j < i → i - j ≤ d → l[j]? = some true := by
          intro d
          induction d with
          | zero => intro j hj hd; omega
          | succ d ih =>
            intro j hj hd
            have h1 := List.all_eq_true.1 hcov j (by simpa using hj)
            obtain ⟨k, hk, h2⟩ := List.any_eq_true.1 h1
            simp only [Bool.and_eq_true, decide_eq_true_eq] at h2
            have hk : k < i + 1 := by simpa using hk
            have ho : ops[k]? = some (ops[k]'(by omega)) := by simp [hn, hk]
            have h3 := h2.2
            rw [ho] at h3
            simp only [Option.map_some, Option.getD_some] at h3
            by_cases hki : k = i
            · subst hki
              exact ready_dep hm ho h3
            · exact h.2.2 k _ j (ih k (by omega) (by omega)) ho h3
        refine wpOp_mono (fun a' w' h' => ?_) (last l a w h.1 (fun j hj => hall i j hj (by omega)))
        refine .inr ⟨by rw [List.length_set]; exact h.1.len, ?_, fun j hj => ?_, h'⟩
        · rw [List.getElem?_set_self (by have := h.1.len; omega)]
        · rw [List.getElem?_set_ne (by omega)]; exact hall i j hj (by omega)
    · have hil : i < l.length := (List.getElem?_eq_some_iff.1 hf).1
      rw [h.1, hn] at hil
      by_cases hi : i < n
      · rw [h.2.2.1 i hi] at hf; cases hf
      · obtain rfl : i = n := by omega
        rw [h.2.1] at hf; cases hf
  · rintro l a w (h | h) hr
    · have := ready_all h.1.len hord hr n (by omega)
      rw [h.2.1] at this
      cases this
    · exact h.2.2.2
  · rw [List.getElem?_replicate, if_pos (by omega)]
  · intro k o j hk
    rw [List.getElem?_replicate] at hk
    split at hk
    · cases hk
    · cases hk
  · have := List.countP_le_length (p := (!·)) (l := List.replicate ops.size false)
    simpa using this
end
end Go.Proofs.Ytkhogbnoincbeab
