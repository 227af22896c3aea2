import Derived.Test.YtfhjiggaacgncaaDoorJp1
namespace Go.Proofs.YtfhjiggaacgncaaDoor
open Go.RowKit Go.Maps Go.Sort
set_option maxRecDepth 100000

section
variable {P : List (BitVec 8 × List (BitVec 8))} {s n : Nat} {D : Dk}
theorem Row2.len (h : Row2 P s n D) : D.S.length = n ∧ D.N.length = n := by
  have h1 := enc_take_le P s
  have h2 := h.fit
  rw [h.dS, h.dN]
  exact ⟨cont_len (by omega), cont_len h2⟩
theorem Row2.good (h : Row2 P s n D) (h1 : 1 ≤ n) (h2 : n ≤ 16777216) : D.Good := by
  obtain ⟨l1, l2⟩ := h.len
  have hw := h.wl
  have hplen : P.length ≤ (enc 0 P).length := by
    rw [enc_len]
    have : ∀ L : List (BitVec 8 × List (BitVec 8)), L.length ≤ (L.map fun x => 18 + x.2.length).sum := fun L => by
      induction L with
      | nil => exact Nat.le_refl _
      | cons x r ih => simp; omega
    exact this P
  have hfit := h.fit
  have each : ∀ x ∈ D.W, x.at_ + x.bs.length ≤ n ∧ 1 ≤ x.bs.length := fun x hx => by
    obtain ⟨j, hj, rfl⟩ := List.getElem_of_mem hx
    have hsj : s + j < P.length := by omega
    obtain ⟨a1, a2⟩ := h.wa j hj hsj
    have hs := enc_take_succ P (s + j) hsj
    have hl := enc_take_le P (s + j + 1)
    rw [hs, List.length_append] at hl
    rw [a1, a2]
    refine ⟨by omega, ?_⟩
    rw [recL_len]
    omega
  exact ⟨⟨by rw [l1, l2], by omega, by omega, fun x hx => by rw [l1]; exact (each x hx).1⟩, fun x hx => (each x hx).2, by omega, h.now⟩
/-- An Append keeps it. -/
theorem Row2.append {D' : Dk} (h : Row2 P s n D) {e : Nat} (he : e = (enc 0 P).length) {x : BitVec 8 × List (BitVec 8)} (hx : Fine x) (hf : (enc 0 P).length + (18 + x.2.length) ≤ n) (dS : D'.S = D.S) (dN : D'.N = lay D.N e (recL P.length x.1 x.2)) (dW : ∃ v, D'.W = D.W ++ [⟨e, v, recL P.length x.1 x.2⟩]) : Row2 (P ++ [x]) s n D' := by
  obtain ⟨v, dW⟩ := dW
  have hle := h.le
  have hw := h.wl
  have henc : enc 0 (P ++ [x]) = enc 0 P ++ recL P.length x.1 x.2 := by rw [enc_app, Nat.zero_add]; simp [enc]
  refine ⟨by simp; omega, ?_, ?_, ?_, ?_, ?_, ?_⟩
  · intro y hy
    rcases List.mem_append.1 hy with hy | hy
    · exact h.fine y hy
    · simp at hy
      subst hy
      exact hx
  · rw [henc, List.length_append, recL_len]
    exact hf
  · rw [dS, h.dS, List.take_append_of_le_length hle]
  · rw [dN, h.dN, he, lay_cont (by rw [recL_len]; exact hf), henc]
  · rw [dW]
    simp
    omega
  · intro j hj h2
    have hjw : j < (D.W ++ [(⟨e, v, recL P.length x.1 x.2⟩ : Wr)]).length := by rw [← dW]; exact hj
    have hget : D'.W[j] = (D.W ++ [(⟨e, v, recL P.length x.1 x.2⟩ : Wr)])[j] := by simp [dW]
    rw [hget]
    simp at hjw h2
    by_cases hlt : j < D.W.length
    · obtain ⟨a1, a2⟩ := h.wa j hlt (by omega)
      rw [List.getElem_append_left hlt, List.take_append_of_le_length (by omega), List.getElem_append_left (by omega)]
      exact ⟨a1, a2⟩
    · have hj2 : j = D.W.length := by omega
      have hsp : s + j = P.length := by omega
      rw [List.getElem_append_right (by omega), List.take_append_of_le_length (by omega), List.getElem_append_right (by omega)]
      simp [hsp, he]
/-- A Sync makes all safe. -/
theorem Row2.sync (h : Row2 P s n D) {D' : Dk} (dS : D'.S = layAll D.S D.W) (dN : D'.N = D.N) (dW : D'.W = []) : Row2 P P.length n D' :=
  ⟨Nat.le_refl _, h.fine, h.fit, by rw [dS, ← h.now, h.dN, List.take_length], by rw [dN, h.dN], by rw [dW]; simp, fun j hj => by rw [dW] at hj; simp at hj⟩
/-- What a crash leaves: some of the records, and what is torn. -/
structure Left (P : List (BitVec 8 × List (BitVec 8))) (k n : Nat) (X : List (BitVec 8)) : Prop where
  le : k ≤ P.length
  ex : ∃ B, X = cont n (enc 0 (P.take k) ++ B) ∧ (enc 0 (P.take k) ++ B).length ≤ (enc 0 P).length ∧ ∀ i m, rightP (B ++ z m) i = none
theorem Row2.left (h : Row2 P s n D) (keep torn : Int) : ∃ k, s ≤ k ∧ Left P k n (D.left keep torn) := by
  have hcl := clip_le keep D.W.length
  have hw := h.wl
  have hle := h.le
  have hfit := h.fit
  unfold Dk.left
  rw [h.lays _ hcl]
  generalize clip keep D.W.length = j at *
  cases hx : D.W[j]? with
  | none =>
    have hj : D.W.length ≤ j := List.getElem?_eq_none_iff.1 hx
    refine ⟨P.length, hle, Nat.le_refl _, [], ?_, by simp, fun i m => by simpa using rightP_zero i m⟩
    simp only
    rw [show s + j = P.length by omega, List.take_length, List.append_nil]
  | some x =>
    obtain ⟨hj, rfl⟩ := List.getElem?_eq_some_iff.1 hx
    have hsj : s + j < P.length := by omega
    obtain ⟨a1, a2⟩ := h.wa j hj hsj
    have hs := enc_take_succ P (s + j) hsj
    have hl := enc_take_le P (s + j + 1)
    rw [hs, List.length_append] at hl
    simp only
    rw [a1, a2]
    have hct := clip_le torn (recL (s + j) P[s + j].1 P[s + j].2).length
    generalize clip torn (recL (s + j) P[s + j].1 P[s + j].2).length = t at *
    rw [lay_cont (by rw [List.length_take]; omega)]
    by_cases ht : t = (recL (s + j) P[s + j].1 P[s + j].2).length
    · refine ⟨s + j + 1, by omega, by omega, [], ?_, by rw [List.append_nil]; exact enc_take_le _ _, fun i m => by simpa using rightP_zero i m⟩
      rw [ht, List.take_length, List.append_nil, hs]
    · refine ⟨s + j, by omega, by omega, _, rfl, by rw [List.length_append, List.length_take]; omega, fun i m => ?_⟩
      have hf := h.fine _ (List.getElem_mem hsj)
      exact rightP_torn i (s + j) _ _ hf.2 t m (by rw [recL_len] at ht hct; omega)
theorem Row2.forget (h : Row2 P s n D) {k : Nat} {X : List (BitVec 8)} (hs : s ≤ k) (hX : Left P k n X) : forgetN X D.N D.W = X := by
  obtain ⟨hk, B, hXe, hXl, _⟩ := hX
  have hw := h.wl
  have hle := h.le
  have hfit := h.fit
  have hlen : X.length = n := by rw [hXe]; exact cont_len (by omega)
  have hsk := enc_take_le (P.take k) s
  rw [List.take_take, Nat.min_eq_left hs] at hsk
  have hpre : enc 0 (P.take k) = enc 0 (P.take s) ++ enc (0 + (P.take s).length) ((P.take k).drop s) := by
    rw [← enc_app]
    congr 1
    rw [show P.take s = (P.take k).take s by rw [List.take_take, Nat.min_eq_left hs], List.take_append_drop]
  have step : ∀ j, j ≤ D.W.length → forgetN X D.N (D.W.take j) = X.take (enc 0 (P.take (s + j))).length ++ D.N.drop (enc 0 (P.take (s + j))).length := by
    intro j
    induction j with
    | zero =>
      intro _
      rw [List.take_zero, Nat.add_zero]
      show D.N = _
      have e1 : X.take (enc 0 (P.take s)).length = D.N.take (enc 0 (P.take s)).length := by
        rw [hXe, h.dN, cont_take (by rw [List.length_append]; omega), cont_take (enc_take_le P s), hpre, List.append_assoc, List.take_left' rfl]
        have : enc 0 P = enc 0 (P.take s) ++ enc (0 + (P.take s).length) (P.drop s) := by rw [← enc_app, List.take_append_drop]
        rw [this, List.take_left' rfl]
      rw [e1, List.take_append_drop]
    | succ j ih =>
      intro hj
      have hsj : s + j < P.length := by omega
      obtain ⟨a1, a2⟩ := h.wa j (by omega) hsj
      have hss := enc_take_succ P (s + j) hsj
      have hl := enc_take_le P (s + j + 1)
      rw [forgetN_take X D.N D.W j (by omega), ih (by omega), fgt, a1, a2]
      rw [hss, List.length_append] at hl
      rw [show s + (j + 1) = s + j + 1 by omega, hss, List.length_append]
      generalize (enc 0 (P.take (s + j))).length = e at *
      generalize (recL (s + j) P[s + j].1 P[s + j].2).length = r at *
      have hNl : D.N.length = n := h.len.2
      have he : e ≤ X.length := by omega
      have hsl : ((X.drop e).take r).length = r := by simp; omega
      unfold lay
      rw [hsl, List.take_left' (by rw [List.length_take]; omega), List.drop_append, List.drop_of_length_le (l := X.take e) (by rw [List.length_take]; omega), List.nil_append, List.length_take, Nat.min_eq_left he, show e + r - e = r by omega, List.drop_drop, List.take_add]
  have hall := step D.W.length (Nat.le_refl _)
  rw [List.take_length, hw, show s + (P.length - s) = P.length by omega, List.take_length] at hall
  rw [hall, h.dN, cont_drop (Nat.le_refl _)]
  have : X.drop (enc 0 P).length = z (n - (enc 0 P).length) := by rw [hXe, cont_drop hXl]
  rw [← this, List.take_append_drop]
end
end Go.Proofs.YtfhjiggaacgncaaDoor
