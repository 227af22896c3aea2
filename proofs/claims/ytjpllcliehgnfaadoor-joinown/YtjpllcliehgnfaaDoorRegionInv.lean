import Derived.Test.YtjpllcliehgnfaaDoorMac2
namespace Go.Proofs.YtjpllcliehgnfaaDoor
open Go.RowKit
set_option maxRecDepth 100000

/-! A region that draws its order, by an invariant over what has come up. -/
theorem count_set : ∀ (L : List Bool) (i : Nat), L[i]? = some false → (L.set i true).countP (!·) + 1 = L.countP (!·)
  | [], i, h => by simp at h
  | b :: L, 0, h => by
    have : b = false := by simpa using h
    subst this
    simp
  | b :: L, i + 1, h => by
    have := count_set L i (by simpa using h)
    simp only [List.set_cons_succ, List.countP_cons]
    omega
theorem count_zero : ∀ (L : List Bool), L.countP (!·) = 0 → ∀ i, i < L.length → L[i]? = some true
  | [], _, i, h => by simp at h
  | b :: L, h, i, hi => by
    rw [List.countP_cons] at h
    cases i with
    | zero => cases b <;> simp_all
    | succ i =>
      have := count_zero L (by omega) i (by simpa using hi)
      simpa using this
theorem wpAny_inv {P : Program} {md : Region.Mode} {ops : Array Oper} {Q : Exit → Act → World → Prop} (Inv : List Bool → Act → World → Prop) (hs : ∀ l a w, Inv l a w → l.length = ops.size)
    (step : ∀ l a w i, Inv l a w → l[i]? = some false → i ∈ Region.ready md ops l.toArray → wpOp P ops Q i (Inv (l.set i true)) a w)
    (fin : ∀ l a w, Inv l a w → Region.ready md ops l.toArray = [] → Q .normal a w) :
    ∀ (fuel : Nat) (l : List Bool) (a : Act) (w : World), Inv l a w → l.countP (!·) ≤ fuel → wpAny P md ops Q fuel l.toArray a w := by
  intro fuel
  induction fuel with
  | zero =>
    intro l a w hi hc
    have hr : Region.ready md ops l.toArray = [] := by
      unfold Region.ready
      rw [List.filter_eq_nil_iff]
      intro i hm
      have hlt : i < l.length := by rw [hs l a w hi]; simpa using hm
      have := count_zero l (by omega) i hlt
      simp [this]
    exact ⟨hr, fin l a w hi hr⟩
  | succ fuel ih =>
    intro l a w hi hc
    refine ⟨fun hr => fin l a w hi hr, fun i hm => ?_⟩
    have hf : l[i]? = some false := by
      unfold Region.ready at hm
      have h1 := List.mem_filter.1 hm
      have hlt : i < l.length := by rw [hs l a w hi]; simpa using h1.1
      have h2 := h1.2
      simp only [Bool.and_eq_true, Bool.not_eq_true'] at h2
      have h3 := h2.1
      rw [List.getElem?_eq_getElem hlt]
      simp [Array.getD, hlt] at h3
      rw [h3]
    have hc2 := count_set l i hf
    refine wpOp_mono (fun a' w' h => ?_) (step l a w i hi hf hm)
    have := ih (l.set i true) a' w' h (by omega)
    simpa using this
end Go.Proofs.YtjpllcliehgnfaaDoor
