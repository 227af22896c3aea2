import Derived.Test.YtkhogbnoincbeabPu5
namespace Go.Proofs.Ytkhogbnoincbeab
open Go.RowKit Go.Maps Go.Sort
set_option maxRecDepth 100000

/-- What is read stands, whatever follows, but where the bytes are too few. -/
def Mono (g : List (BitVec 8) → Int × PF × List (BitVec 8)) : Prop := ∀ l m, (g l).1 ≠ 174 → g (l ++ m) = ((g l).1, (g l).2.1, (g l).2.2 ++ m)
theorem numD_more : ∀ (f i acc : Nat) (l m : List (BitVec 8)), (numD f i acc l).1 ≠ 174 → numD f i acc (l ++ m) = ((numD f i acc l).1, (numD f i acc l).2.1, (numD f i acc l).2.2 ++ m)
  | 0, _, _, _, _, _ => rfl
  | _ + 1, _, _, [], _, h => absurd rfl h
  | f + 1, i, acc, x :: l, m, h => by
    have ih := numD_more f (i + 1) (acc + x.toNat % 128 * 128 ^ i) l m
    simp only [List.cons_append, numD] at h ⊢
    by_cases h1 : 128 ≤ x.toNat
    · simp only [if_pos h1] at h ⊢
      exact ih h
    · simp only [if_neg h1]
      by_cases h2 : (x = 0#8 ∧ 0 < i) ∨ 4611686018427387904 < acc + x.toNat % 128 * 128 ^ i
      · simp only [if_pos h2]
      · simp only [if_neg h2]
theorem oneD_more : ∀ (l m : List (BitVec 8)), (oneD l).1 ≠ 174 → oneD (l ++ m) = ((oneD l).1, (oneD l).2.1, (oneD l).2.2 ++ m)
  | [], _, h => absurd rfl h
  | _ :: _, _, _ => rfl
theorem mono_str (F : PF) : Mono (strD F) := fun l m h => by
  have e := numD_more 9 0 0 l m h
  unfold strD
  rw [e]
theorem mono_n (F : PF) : Mono (nD F) := fun l m h => by
  have e := numD_more 9 0 0 l m h
  unfold nD
  rw [e]
theorem mono_cls (F : PF) : Mono (clsD F) := fun l m h => by
  have e := oneD_more l m h
  unfold clsD
  rw [e]
theorem mono_shr (F : PF) : Mono (shrD F) := fun l m h => by
  have e := oneD_more l m h
  unfold shrD
  rw [e]
theorem mono_data (F : PF) : Mono (dataD F) := fun l m h => by
  have hn : (numD 9 0 0 l).1 ≠ 174 := fun e => by
    apply h
    unfold dataD
    rw [if_pos (by rw [e]; decide)]
    exact e
  have e := numD_more 9 0 0 l m hn
  unfold dataD at h ⊢
  rw [e]
  generalize numD 9 0 0 l = r at *
  obtain ⟨r1, r2, r3⟩ := r
  simp only at *
  by_cases h1 : r1 = 0
  · subst h1
    simp only [not_true_eq_false, if_false] at h ⊢
    by_cases h2 : 16384 < r2
    · simp only [if_pos h2]
    · simp only [if_neg h2] at h ⊢
      by_cases h3 : r3.length < r2
      · simp only [if_pos h3] at h
        exact absurd rfl h
      · rw [if_neg h3, if_neg (by rw [List.length_append]; omega), List.take_append_of_le_length (by omega), List.drop_append_of_le_length (by omega)]
  · simp only [h1, not_false_eq_true, if_true]
theorem mono_read (f : Nat) (F : PF) : Mono (readF f F) := by
  unfold readF
  intro l m h
  dsimp only at h ⊢
  split
  · rename_i e; rw [if_pos e] at h; exact mono_str F l m h
  · rename_i e; rw [if_neg e] at h
    split
    · rename_i e; rw [if_pos e] at h; exact mono_cls F l m h
    · rename_i e; rw [if_neg e] at h
      split
      · rename_i e; rw [if_pos e] at h; exact mono_shr F l m h
      · rename_i e; rw [if_neg e] at h
        split
        · rename_i e; rw [if_pos e] at h; exact mono_data F l m h
        · rename_i e; rw [if_neg e] at h; exact mono_n F l m h
theorem mono_all : ∀ (t : List (Nat × Nat)) (F : PF), Mono (allD t F)
  | [], _, _, _, _ => rfl
  | x :: t, F, l, m, h => by
    have hr : (readF x.1 F l).1 ≠ 174 := fun e => by
      apply h
      unfold allD
      rw [if_pos (by rw [e]; decide)]
      exact e
    have e := mono_read x.1 F l m hr
    have ih := mono_all t (readF x.1 F l).2.1 (readF x.1 F l).2.2 m
    unfold allD at h ⊢
    rw [e]
    generalize readF x.1 F l = r at *
    obtain ⟨r1, r2, r3⟩ := r
    simp only at *
    by_cases h1 : r1 = 0
    · subst h1
      simp only [not_true_eq_false, if_false] at h ⊢
      by_cases h2 : fitB x.2 r2 = false
      · simp only [if_pos h2]
      · simp only [if_neg h2] at h ⊢
        exact ih h
    · simp only [h1, not_false_eq_true, if_true]
theorem mono_kind (F : PF) : Mono (kindD F) := fun l m h => by
  have ho : (oneD l).1 ≠ 174 := fun e => by
    apply h
    unfold kindD
    rw [if_neg (by rw [e]; simp)]
    exact e
  have e := oneD_more l m ho
  unfold kindD
  rw [e]
  split <;> rfl
theorem mono_A (F : PF) : Mono (allA F) := fun l m h => by
  have hk : (kindD F l).1 ≠ 174 := fun e => by
    apply h
    unfold allA
    rw [if_pos (by rw [e]; decide)]
    exact e
  have e := mono_kind F l m hk
  unfold allA at h ⊢
  rw [e]
  generalize kindD F l = r at *
  obtain ⟨r1, r2, r3⟩ := r
  simp only at *
  by_cases h1 : r1 = 0
  · subst h1
    simp only [not_true_eq_false, if_false] at h ⊢
    exact mono_all _ _ _ _ h
  · simp only [h1, not_false_eq_true, if_true]
theorem nil_A : (allA PF.zero []).1 = 174 := rfl
theorem eats_pos {b m : List (BitVec 8)} {F : PF} (h : allA PF.zero b = (0, F, m)) : m.length < b.length := by
  obtain ⟨_, _, _, hb, he⟩ := dec_one h
  have : 0 < (encB F.k F.s F.n F.c F.h F.bs).length := by
    rcases Nat.eq_zero_or_pos (encB F.k F.s F.n F.c F.h F.bs).length with e | e
    · have e2 := List.eq_nil_of_length_eq_zero e
      rw [e2] at he
      have := congrArg (·.1) (he.all [])
      simp only [List.append_nil, nil_A] at this
      cases this
    · exact e
  rw [hb, List.length_append]
  omega
/-- The frames that bytes give, the error behind them, what is left. -/
def prs : Nat → List (BitVec 8) → List PF × Int × List (BitVec 8)
  | 0, l => ([], 0, l)
  | n + 1, l => if (allA PF.zero l).1 = 0 then ((allA PF.zero l).2.1 :: (prs n (allA PF.zero l).2.2).1, (prs n (allA PF.zero l).2.2).2) else if (allA PF.zero l).1 = 174 then ([], 0, l) else ([], (allA PF.zero l).1, l)
theorem A_pos {l : List (BitVec 8)} (h : (allA PF.zero l).1 = 0) : (allA PF.zero l).2.2.length < l.length := eats_pos (F := (allA PF.zero l).2.1) (by rw [← h])
theorem prs_fuel : ∀ (n k : Nat) (l : List (BitVec 8)), l.length < n → l.length < k → prs n l = prs k l
  | 0, _, _, h, _ => absurd h (Nat.not_lt_zero _)
  | _, 0, _, _, h => absurd h (Nat.not_lt_zero _)
  | n + 1, k + 1, l, h1, h2 => by
    unfold prs
    by_cases h : (allA PF.zero l).1 = 0
    · have hp := A_pos h
      rw [if_pos h, if_pos h, prs_fuel n k _ (by omega) (by omega)]
    · rw [if_neg h, if_neg h]
def Pr (l : List (BitVec 8)) : List PF × Int × List (BitVec 8) := prs (l.length + 1) l
theorem Pr_one {l : List (BitVec 8)} (h : (allA PF.zero l).1 = 0) : Pr l = ((allA PF.zero l).2.1 :: (Pr (allA PF.zero l).2.2).1, (Pr (allA PF.zero l).2.2).2) := by
  have hp := A_pos h
  unfold Pr
  rw [prs_fuel ((allA PF.zero l).2.2.length + 1) l.length (allA PF.zero l).2.2 (by omega) hp]
  conv => lhs; unfold prs
  rw [if_pos h]
theorem Pr_short {l : List (BitVec 8)} (h : (allA PF.zero l).1 = 174) : Pr l = ([], 0, l) := by
  unfold Pr prs
  rw [if_neg (by rw [h]; decide), if_pos h]
theorem Pr_bad {l : List (BitVec 8)} (h : (allA PF.zero l).1 ≠ 0) (h2 : (allA PF.zero l).1 ≠ 174) : Pr l = ([], (allA PF.zero l).1, l) := by
  unfold Pr prs
  rw [if_neg h, if_neg h2]
theorem Pr_nil : Pr [] = ([], 0, []) := Pr_short nil_A
/-- More bytes behind those that were read. -/
theorem Pr_more : ∀ (n : Nat) (l m : List (BitVec 8)), l.length < n → Pr (l ++ m) = if (Pr l).2.1 = 0 then ((Pr l).1 ++ (Pr ((Pr l).2.2 ++ m)).1, (Pr ((Pr l).2.2 ++ m)).2) else ((Pr l).1, (Pr l).2.1, (Pr l).2.2 ++ m)
  | 0, _, _, h => absurd h (Nat.not_lt_zero _)
  | n + 1, l, m, h => by
    by_cases h0 : (allA PF.zero l).1 = 0
    · have hp := A_pos h0
      have e := mono_A PF.zero l m (by rw [h0]; decide)
      have ih := Pr_more n (allA PF.zero l).2.2 m (by omega)
      rw [Pr_one h0, Pr_one (l := l ++ m) (by rw [e]; exact h0), e]
      simp only
      rw [ih]
      split <;> rfl
    · by_cases h1 : (allA PF.zero l).1 = 174
      · rw [Pr_short h1]
        simp
      · have e := mono_A PF.zero l m h1
        rw [Pr_bad h0 h1, Pr_bad (l := l ++ m) (by rw [e]; exact h0) (by rw [e]; exact h1), e]
        simp only
        rw [if_neg h0]
theorem Pr_len : ∀ (n : Nat) (l : List (BitVec 8)), l.length < n → (Pr l).2.2.length ≤ l.length
  | 0, _, h => absurd h (Nat.not_lt_zero _)
  | n + 1, l, h => by
    by_cases h0 : (allA PF.zero l).1 = 0
    · have hp := A_pos h0
      have ih := Pr_len n (allA PF.zero l).2.2 (by omega)
      rw [Pr_one h0]
      simp only
      omega
    · by_cases h1 : (allA PF.zero l).1 = 174
      · rw [Pr_short h1]; exact Nat.le_refl _
      · rw [Pr_bad h0 h1]; exact Nat.le_refl _
/-- What is left gives nothing. -/
theorem Pr_rest : ∀ (n : Nat) (l : List (BitVec 8)), l.length < n → (Pr l).2.1 = 0 → (allA PF.zero (Pr l).2.2).1 = 174
  | 0, _, h, _ => absurd h (Nat.not_lt_zero _)
  | n + 1, l, h, he => by
    by_cases h0 : (allA PF.zero l).1 = 0
    · have hp := A_pos h0
      rw [Pr_one h0] at he ⊢
      exact Pr_rest n (allA PF.zero l).2.2 (by omega) he
    · by_cases h1 : (allA PF.zero l).1 = 174
      · rw [Pr_short h1]; exact h1
      · rw [Pr_bad h0 h1] at he
        exact absurd he h0
end Go.Proofs.Ytkhogbnoincbeab
