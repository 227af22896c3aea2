import Derived.Test.YtjbjaklbckhodabUnion
namespace Go.Proofs.Ytjbjaklbckhodab
open Go.RowKit
set_option maxRecDepth 100000

/-- Whether a number is there. -/
def memb (L : List Rg) (y : Int) : Bool := L.any fun r => decide (r.1 ≤ y) && decide (y < r.2)
theorem memb_iff (L : List Rg) (y : Int) : memb L y = true ↔ mem L y := by
  unfold memb mem
  rw [List.any_eq_true]
  constructor
  · rintro ⟨r, h, h2⟩
    simp only [Bool.and_eq_true, decide_eq_true_eq] at h2
    exact ⟨r, h, h2⟩
  · rintro ⟨r, h, h2⟩
    exact ⟨r, h, by simp only [Bool.and_eq_true, decide_eq_true_eq]; exact h2⟩
/-- One where it is there, none where it isn't. -/
def ind (L : List Rg) (y : Int) : Int := if memb L y then 1 else 0
theorem ind_yes {L : List Rg} {y : Int} (h : mem L y) : ind L y = 1 := by unfold ind; rw [if_pos ((memb_iff L y).2 h)]
theorem ind_no {L : List Rg} {y : Int} (h : ¬ mem L y) : ind L y = 0 := by unfold ind; rw [if_neg (fun e => h ((memb_iff L y).1 e))]
/-- How many of the first n numbers are there. -/
def cnt (L : List Rg) : Nat → Int
  | 0 => 0
  | n + 1 => cnt L n + ind L n
theorem cnt_sum {A B C D : List Rg} (n : Nat) (h : ∀ y : Int, ind A y + ind B y = ind C y + ind D y) : cnt A n + cnt B n = cnt C n + cnt D n := by
  induction n with
  | zero => rfl
  | succ n ih => have := h n; simp only [cnt]; omega
theorem cnt_nil (n : Nat) : cnt [] n = 0 := by
  induction n with
  | zero => rfl
  | succ n ih => simp only [cnt, ih]; rfl
theorem mem_one {r : Rg} {y : Int} : mem [r] y ↔ r.1 ≤ y ∧ y < r.2 := by unfold mem; simp
theorem cnt_one (r : Rg) (h0 : 0 ≤ r.1) (h1 : r.1 ≤ r.2) : ∀ n : Nat, cnt [r] n = max 0 (min (n : Int) r.2 - r.1) := by
  intro n
  induction n with
  | zero => simp only [cnt]; omega
  | succ n ih =>
    simp only [cnt, ih]
    by_cases h : mem [r] n
    · rw [ind_yes h]
      have := mem_one.1 h
      omega
    · rw [ind_no h]
      have := mt mem_one.2 h
      omega

/-- Stretches that rise, one behind the other. -/
def Rise (L : List Rg) : Prop := (∀ r ∈ L, 0 ≤ r.1 ∧ r.1 ≤ r.2 ∧ r.2 ≤ 18446744073709551615) ∧ L.Pairwise (fun a b => a.2 ≤ b.1)
theorem Fit.rise {L : List Rg} (F : Fit L) : Rise L := ⟨fun r h => by have := F.1 r h; omega, F.2.imp (fun h => by omega)⟩
theorem rise_cons {r : Rg} {L : List Rg} (F : Rise (r :: L)) : (0 ≤ r.1 ∧ r.1 ≤ r.2 ∧ r.2 ≤ 18446744073709551615) ∧ (∀ t ∈ L, r.2 ≤ t.1) ∧ Rise L :=
  ⟨F.1 r List.mem_cons_self, (List.pairwise_cons.1 F.2).1, fun t h => F.1 t (List.mem_cons_of_mem _ h), (List.pairwise_cons.1 F.2).2⟩
theorem total_cnt (N : Nat) (hN : (N : Int) = 18446744073709551615) : ∀ L : List Rg, Rise L → total L = cnt L N := by
  intro L
  induction L with
  | nil => intro _; rw [cnt_nil]; rfl
  | cons r l ih =>
    intro F
    obtain ⟨h, hb, hl⟩ := rise_cons F
    have e := cnt_sum (A := r :: l) (B := []) (C := [r]) (D := l) N (fun y => by
      have h0 : ind [] y = 0 := rfl
      by_cases h1 : r.1 ≤ y ∧ y < r.2
      · have h2 : ¬ mem l y := by
          rintro ⟨t, ht, ht1, _⟩
          have := hb t ht
          omega
        rw [ind_yes (mem_cons.2 (.inl h1)), ind_yes (mem_one.2 h1), ind_no h2, h0]
      · by_cases h2 : mem l y
        · rw [ind_yes (mem_cons.2 (.inr h2)), ind_no (mt mem_one.1 h1), ind_yes h2, h0]; rfl
        · rw [ind_no (fun hm => (mem_cons.1 hm).elim h1 h2), ind_no (mt mem_one.1 h1), ind_no h2, h0])
    rw [cnt_nil, cnt_one r h.1 h.2.1] at e
    simp only [total, ih hl]
    omega
/-- How many there are hangs on which are there. -/
theorem total_sum {A B C D : List Rg} (hA : Rise A) (hB : Rise B) (hC : Rise C) (hD : Rise D) (h : ∀ y : Int, ind A y + ind B y = ind C y + ind D y) : total A + total B = total C + total D := by
  obtain ⟨N, hN⟩ : ∃ N : Nat, (N : Int) = 18446744073709551615 := ⟨18446744073709551615, rfl⟩
  rw [total_cnt N hN A hA, total_cnt N hN B hB, total_cnt N hN C hC, total_cnt N hN D hD]
  exact cnt_sum N h
theorem rise_one {r : Rg} (h : 0 ≤ r.1 ∧ r.1 ≤ r.2 ∧ r.2 ≤ 18446744073709551615) : Rise [r] := ⟨fun t ht => by rw [List.mem_singleton.1 ht]; exact h, by simp⟩
theorem rise_nil : Rise [] := ⟨fun t ht => by simp at ht, by simp⟩

theorem addL_total {L : List Rg} (F : Fit L) (r : Rg) (h0 : 0 ≤ r.1) (h1 : r.2 ≤ 18446744073709551615) : total (addL L r) = total L + freshOf L r := by
  by_cases hr : r.2 ≤ r.1
  · unfold addL freshOf
    rw [if_pos hr, if_pos hr]
    omega
  · have hf : freshOf L r = r.2 - r.1 - total (clipL L r) := by unfold freshOf; rw [if_neg hr]
    have e := total_sum (addL_fit F r h0 h1).rise rise_nil (remL_fit F r h0 h1).rise (rise_one (r := r) (by omega)) (fun y => by
      have hn : ind [] y = 0 := rfl
      by_cases h1 : r.1 ≤ y ∧ y < r.2
      · rw [ind_yes ((addL_mem F r y).2 (.inr h1)), ind_no (fun hm => ((remL_mem F r y).1 hm).2 h1), ind_yes (mem_one.2 h1), hn]; rfl
      · by_cases h2 : mem L y
        · rw [ind_yes ((addL_mem F r y).2 (.inl h2)), ind_yes ((remL_mem F r y).2 ⟨h2, h1⟩), ind_no (mt mem_one.1 h1), hn]
        · rw [ind_no (fun hm => ((addL_mem F r y).1 hm).elim h2 h1), ind_no (fun hm => h2 ((remL_mem F r y).1 hm).1), ind_no (mt mem_one.1 h1), hn])
    rw [remL_total F r] at e
    simp only [total] at e
    rw [hf]
    omega

end Go.Proofs.Ytjbjaklbckhodab
