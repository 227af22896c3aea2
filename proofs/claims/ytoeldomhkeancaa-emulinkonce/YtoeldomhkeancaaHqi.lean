import Derived.Test.YtoeldomhkeancaaAhi
import Derived.Deep.MidRow
namespace Go.Proofs.Ytoeldomhkeancaa
open Go.RowKit Go.Maps
set_option maxRecDepth 100000

/-- A heap within a Link, at its cell o. -/
structure HMi (w : World) (p o : Nat) (c : List Value) (v : Value) (L : List (It Value)) : Prop where
  row : Row w p c 38
  get : c[o]? = some v
  own : w.ownsRow 0 87 3 v L.length (flatI L)
  one : ∀ x ∈ L, x.what.oneCell' = true
theorem info_i : (Try.prog.info? 87).map (·.size) = some 3 := by kernel_rfl
section
variable {w w' : World} {p o : Nat} {c : List Value} {v : Value} {L : List (It Value)}
theorem HMi.below (h : HMi w p o c v L) (hb : Below w.heap.size w w') : HMi w' p o c v L :=
  ⟨h.row.kept hb h.row.lt, h.get, own_below h.own hb, h.one⟩
theorem HMi.kept {S : Nat → Prop} (h : HMi w p o c v L) (hf : Fr S w w') (hp : ¬ S p) (hv : ∀ g, v.ownBlock = some g → ¬ S g) : HMi w' p o c v L :=
  ⟨hf.row h.row hp, h.get, hf.own h.own hv, h.one⟩
theorem HMi.cell (h : HMi w p o c v L) : w.cell? ⟨p, o, none⟩ = some v := h.row.cell o v h.get
theorem HMi.ap (h : HMi w p o c v L) : v.ownBlock ≠ some p := fun e => by
  rcases h.own.2 with ⟨rfl, _⟩ | ⟨g, cap, cur, rfl, _, hg, _⟩
  · simp [Value.ownBlock] at e
  · simp [Value.ownBlock] at e
    subst e
    have h1 := h.row.at_
    rw [h1] at hg
    injection hg with hg
    injection hg with _ hg
    exact absurd hg (by decide)
theorem HMi.shape (h : HMi w p o c v L) : (v = .slice none 0 0 ∧ L = []) ∨ ∃ g cap, v = .slice (some ⟨g, 0, none⟩) L.length cap ∧ g ≠ p ∧ L.length ≤ cap ∧ cap ≤ maxLen ∧ g < w.heap.size ∧ ∀ k x, L[k]? = some x → w.rangeAt g (k * 3) (icells x) ∧ w.there g (k * 3) 3 := by
  have hap := h.ap
  obtain ⟨hl, ⟨rfl, hn⟩ | ⟨g, cap, cur, rfl, hb, hg, hnc, hcm, hcs, htk⟩⟩ := h.own
  · exact .inl ⟨rfl, List.eq_nil_of_length_eq_zero hn⟩
  · have R : Row w g cur.toList 87 := ⟨by simpa using hg⟩
    refine .inr ⟨g, cap, rfl, fun e => hap (by rw [e]; rfl), hnc, hcm, R.lt, fun k x hx => ?_⟩
    have hk := (List.getElem?_eq_some_iff.1 hx).1
    refine ⟨R.range _ _ fun j u hu => ?_, R.there _ _ (by simp [hcs]; omega)⟩
    have hj := flatI_cell _ hu
    have h1 := flatI_get hx hu
    rw [← htk, List.getElem?_take, if_pos (by omega)] at h1
    exact h1
theorem HMi.slice (h : HMi w p o c v L) : ∃ a cap, v = .slice a L.length cap ∧ L.length ≤ cap ∧ cap ≤ maxLen ∧ (a = none → cap = 0) ∧ ∀ k x, L[k]? = some x → ∃ g, a = some ⟨g, 0, none⟩ ∧ g ≠ p ∧ g < w.heap.size ∧ w.rangeAt g (k * 3) (icells x) ∧ w.there g (k * 3) 3 := by
  rcases h.shape with ⟨rfl, rfl⟩ | ⟨g, cap, rfl, hgp, h1, h2, h3, h4⟩
  · exact ⟨none, 0, rfl, Nat.le_refl _, Nat.zero_le _, fun _ => rfl, fun k x hx => by simp at hx⟩
  · exact ⟨_, cap, rfl, h1, h2, fun e => (by cases e), fun k x hx => ⟨g, rfl, hgp, h3, h4 k x hx⟩⟩
theorem HMi.load (h : HMi w p o c v L) {g n cap k : Nat} {x : It Value} (hv : v = .slice (some ⟨g, 0, none⟩) n cap) (hx : L[k]? = some x) : (Instr.loadAt 87 (.pointer (some ⟨g, k * 3, none⟩))).run Try.prog w = .ok (.agg (icells x).toArray) w := by
  rcases h.shape with ⟨rfl, rfl⟩ | ⟨g', cap', rfl, _, _, _, _, h4⟩
  · simp at hx
  · cases hv
    exact run_loadAt_mid w g (k * 3) 87 (icells x) _ (h4 k x hx).1 Try.underlying87 rfl info_i
theorem HMi.cells3 (h : HMi w p o c v L) {g n cap k : Nat} {x : It Value} (hv : v = .slice (some ⟨g, 0, none⟩) n cap) (hx : L[k]? = some x) : w.cell? ⟨g, k * 3, none⟩ = some (.int .u64 x.at_) ∧ w.cell? ⟨g, k * 3 + 1, none⟩ = some (.int .u64 x.num) ∧ w.cell? ⟨g, k * 3 + 2, none⟩ = some x.what := by
  rcases h.shape with ⟨rfl, rfl⟩ | ⟨g', cap', rfl, _, _, _, _, h4⟩
  · simp at hx
  · cases hv
    have h5 := (h4 k x hx).1
    exact ⟨h5 0 _ rfl, h5 1 _ rfl, h5 2 _ rfl⟩
theorem HMi.frozen3 (h : HMi w p o c v L) {g n cap k : Nat} (hv : v = .slice (some ⟨g, 0, none⟩) n cap) (hk : k < L.length) : w.there g (k * 3) 3 := by
  rcases h.shape with ⟨rfl, rfl⟩ | ⟨g', cap', rfl, _, _, _, _, h4⟩
  · simp at hk
  · cases hv
    exact (h4 k _ (List.getElem?_eq_getElem hk)).2
/-- An item is another one. -/
theorem HMi.setI (h : HMi w p o c v L) {g n cap k : Nat} {x : It Value} (hv : v = .slice (some ⟨g, 0, none⟩) n cap) (hk : k < L.length) (h1 : x.what.oneCell' = true) :
    HMi (w.setCells g (k * 3) (icells x)) p o c v (L.set k x) ∧ Fr (fun j => v.ownBlock = some j) w (w.setCells g (k * 3) (icells x)) := by
  have hap := h.ap
  obtain ⟨hl, ⟨rfl, hn⟩ | ⟨g', cap', cur, rfl, hb, hg, hnc, hcm, hcs, htk⟩⟩ := h.own
  · cases hv
  · cases hv
    have hgp : g ≠ p := fun e => hap (by rw [e]; rfl)
    have R : Row w g cur.toList 87 := ⟨by simpa using hg⟩
    have R2 := R.setCells (icells x) (k * 3) (by simp [icells, hcs]; omega)
    refine ⟨⟨h.row.cellsOther (fun e => hgp e.symm) _ _, h.get, ⟨by rw [flatI_len], .inr ⟨g, cap, _, by simp, hb, R2.at_, by simpa using hnc, hcm, ?_, ?_⟩⟩, ?_⟩, ?_⟩
    · simp [hcs, icells]; omega
    · rw [flatI_set _ hk, ← htk]
      simp only [List.length_set]
      have e3 : (icells x).length = 3 := rfl
      rw [e3]
      have hcl : cur.toList.length = cap * 3 := by simpa using hcs
      have hle : L.length * 3 ≤ cap * 3 := Nat.mul_le_mul_right _ hnc
      generalize cur.toList = C at *
      rw [List.take_append, List.take_append, List.take_take, List.drop_take]
      simp only [List.length_take, List.length_append, e3, Nat.min_eq_left (show k * 3 ≤ C.length by omega)]
      rw [List.take_take, Nat.min_eq_right (show k * 3 ≤ L.length * 3 by omega), Nat.min_eq_left (show k * 3 ≤ L.length * 3 by omega), List.take_of_length_le (l := icells x) (by rw [e3]; omega)]
    · intro y hy
      rcases List.mem_or_eq_of_mem_set hy with e | e
      · exact h.one y e
      · rw [e]; exact h1
    · exact ⟨(Only.setCells (S := [g]) _ _ (Only.refl _ _) (.inl (by simp))).os, (Only.setCells (S := [g]) _ _ (Only.refl _ _) (.inl (by simp))).tape, (Only.setCells (S := [g]) _ _ (Only.refl _ _) (.inl (by simp))).output, (Only.setCells (S := [g]) _ _ (Only.refl _ _) (.inl (by simp))).size, fun j hj hne => (Only.setCells (S := [g]) (icells x) (k * 3) (Only.refl _ w) (.inl (by simp))).block j hj (by intro e; simp at e; subst e; exact hne rfl)⟩
end
end Go.Proofs.Ytoeldomhkeancaa
