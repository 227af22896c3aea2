import Derived.Test.YtkcoabjeaoigdaaByOne
namespace Go.Proofs.Ytkcoabjeaoigdaa
open Go.RowKit Go.Sort
set_option maxRecDepth 100000

/-- The window behind so many cuts. -/
def cs : Nat → Int
  | 0 => 10240
  | i + 1 => half (cs i)
def ts : Nat → Int
  | 0 => 262144
  | i + 1 => half (cs i)
def togD (n q : Nat) (m : Int) (p i : Nat) : Nat → Ln := fun j => if j < p then ⟨cs q, cs q, true, m⟩ else if j = p then ⟨cs i, ts i, true, m⟩ else newD n j
/-- The first p paths are done. -/
def togA (n q : Nat) (m : Int) (p : Nat) : Nat → Ln := fun j => if j < p then ⟨cs q, cs q, true, m⟩ else newD n j
theorem tog_in {n q p : Nat} {m ms : Int} (hp : p < n) (hm : m = min (max ms 1) 60000) : rttD (takeD (togA n q m p) n p true) n p ms = togD n q m p 0 := by
  have e1 : takeD (togA n q m p) n p true = upd (togA n q m p) p { togA n q m p p with on := true } := by unfold takeD; rw [if_pos (by omega)]; simp
  have e2 : ∀ X : Nat → Ln, rttD X n p ms = upd X p { X p with r := m } := fun X => by unfold rttD; rw [if_pos (by omega), hm]; simp
  have e3 : togA n q m p p = lnew := by unfold togA newD; rw [if_neg (by omega), if_pos hp]
  rw [e2, e1, upd_at, e3]
  funext j
  unfold upd togD togA
  by_cases h1 : j = p
  · subst h1
    rw [if_pos rfl, if_neg (by omega), if_pos rfl]
    rfl
  · rw [if_neg h1, if_neg h1]
    by_cases h2 : j < p
    · rw [if_pos h2, if_pos h2]
    · rw [if_neg h2, if_neg h2, if_neg h1]
theorem tog_cut {n q p i : Nat} {m : Int} (hp : p < n) : loseD (togD n q m p i) n p false = togD n q m p (i + 1) := by
  have e1 : ∀ X : Nat → Ln, loseD X n p false = upd X p { X p with c := half (X p).c, t := half (X p).c } := fun X => by unfold loseD; rw [if_pos (by omega)]; simp
  have e3 : togD n q m p i p = ⟨cs i, ts i, true, m⟩ := by unfold togD; rw [if_neg (by omega), if_pos rfl]
  rw [e1, e3]
  funext j
  unfold upd togD
  by_cases h1 : j = p
  · subst h1
    rw [if_pos rfl, if_neg (by omega), if_pos rfl]
    rfl
  · rw [if_neg h1]
    by_cases h2 : j < p
    · rw [if_pos h2, if_pos h2]
    · rw [if_neg h2, if_neg h2, if_neg h1, if_neg h1]
theorem tog_done {n q p : Nat} {m : Int} (hq : 1 ≤ q) : togD n q m p q = togA n q m (p + 1) := by
  have e : ts q = cs q := by cases q with
    | zero => omega
    | succ i => rfl
  funext j
  unfold togD togA
  rw [e]
  by_cases h1 : j < p
  · rw [if_pos h1, if_pos (by omega)]
  · rw [if_neg h1]
    by_cases h2 : j = p
    · rw [if_pos h2, if_pos (by omega)]
    · rw [if_neg h2, if_neg (by omega)]
theorem togA_zero (n q : Nat) (m : Int) : togA n q m 0 = newD n := by
  funext j
  unfold togA
  rw [if_neg (by omega)]
theorem rep_snoc (k : Nat) (l : Ln) : List.replicate (k + 1) l = List.replicate k l ++ [l] := List.replicate_succ'
theorem cl_tog {n q : Nat} {m : Int} (hm : 1 ≤ m) : ∀ k, k ≤ n → cl (togA n q m n) k = List.replicate k ⟨cs q, cs q, true, m⟩
  | 0, _ => rfl
  | k + 1, h => by
    have e : togA n q m n k = ⟨cs q, cs q, true, m⟩ := by unfold togA; rw [if_pos (by omega)]
    rw [cl_yes (by rw [e]; simp [Ln.cnt]; omega), cl_tog hm k (by omega), e, rep_snoc]
theorem least_rep {c t m : Int} (hm2 : m ≤ 60000) : ∀ k, least (List.replicate (k + 1) ⟨c, t, true, m⟩) = m
  | 0 => by show min 60000 m = m; omega
  | k + 1 => by rw [rep_snoc, least_snoc, least_rep hm2 k]; show min m m = m; omega
theorem sumA_rep {m a : Int} {l : Ln} (h : aOf m l = a) : ∀ k : Nat, sumA m (List.replicate k l) = k * a
  | 0 => by simp [sumA]
  | k + 1 => by
    rw [rep_snoc, sumA_snoc, sumA_rep h k, h, Int.natCast_succ, Int.add_mul]
    omega
theorem bestB_rep {m b : Int} {l : Ln} (h : bOf m l = b) (hb : 0 ≤ b) : ∀ k : Nat, bestB m (List.replicate (k + 1) l) = b
  | 0 => by show max 0 (bOf m l) = b; omega
  | k + 1 => by rw [rep_snoc, bestB_snoc, bestB_rep h hb k, h]; omega
theorem tot_rep {l : Ln} : ∀ k : Nat, tot (List.replicate k l) = k * l.c
  | 0 => by simp [tot]
  | k + 1 => by
    rw [rep_snoc, tot_snoc, tot_rep k, Int.natCast_succ, Int.add_mul]
    omega
theorem coupled_rep {c m : Int} (hc : 1024 ≤ c) (hm : 1 ≤ m) (hm2 : m ≤ 60000) (k : Nat) :
    coupled (List.replicate (k + 1) ⟨c, c, true, m⟩) = (c * 16 * 1048576 / (((k + 1 : Nat) : Int) * (c * 16))) * (((k + 1 : Nat) : Int) * c * 16 * 512 / (((k + 1 : Nat) : Int) * (c * 16))) / 1048576 * 2048 / (((k + 1 : Nat) : Int) * c) := by
  have e2 : aOf m ⟨c, c, true, m⟩ = c * 16 := Int.mul_ediv_cancel _ (by omega)
  have hmm : 1 ≤ m * m := by have := Int.mul_le_mul hm hm (by omega) (by omega : (0 : Int) ≤ m); omega
  have e3 : bOf m ⟨c, c, true, m⟩ = c * 16 := by show c * 16 * m * m / (m * m) = _; rw [Int.mul_assoc]; exact Int.mul_ediv_cancel _ (by omega)
  unfold coupled qOf pOf
  rw [least_rep hm2, sumA_rep e2, bestB_rep e3 (by omega), tot_rep]
theorem cs_of {q : Nat} (h1 : 1 ≤ q) (h3 : q ≤ 3) : cs q = 5120 ∨ cs q = 2560 ∨ cs q = 2048 := by
  rcases (show q = 1 ∨ q = 2 ∨ q = 3 by omega) with rfl | rfl | rfl
  · exact .inl (by decide)
  · exact .inr (.inl (by decide))
  · exact .inr (.inr (by decide))
theorem tog_step {n q : Nat} {m : Int} (n1 : 1 ≤ n) (n8 : n ≤ 8) (q1 : 1 ≤ q) (q3 : q ≤ 3) (hm : 1 ≤ m) (hm2 : m ≤ 60000) :
    ∃ st : Int, stepD (togA n q m n) n (n - 1) = st ∧ 1 ≤ st ∧ st ≤ 1024 ∧ st ≤ max 1 (1048576 / ((n : Int) * n * cs q)) := by
  have e : togA n q m n (n - 1) = ⟨cs q, cs q, true, m⟩ := by unfold togA; rw [if_pos (by omega)]
  refine ⟨_, rfl, ?_⟩
  unfold stepD
  rw [e, cl_tog hm n (Nat.le_refl _)]
  have hcnt : Ln.cnt ⟨cs q, cs q, true, m⟩ = true := by simp [Ln.cnt]; omega
  rw [hcnt]
  obtain ⟨k, rfl⟩ : ∃ k, n = k + 1 := ⟨n - 1, by omega⟩
  have hc : 1024 ≤ cs q := by rcases cs_of q1 q3 with h | h | h <;> omega
  rw [coupled_rep hc hm hm2]
  simp only [if_true]
  rcases cs_of q1 q3 with h | h | h <;> rw [h] <;> rcases (show k = 0 ∨ k = 1 ∨ k = 2 ∨ k = 3 ∨ k = 4 ∨ k = 5 ∨ k = 6 ∨ k = 7 by omega) with rfl | rfl | rfl | rfl | rfl | rfl | rfl | rfl <;> decide
end Go.Proofs.Ytkcoabjeaoigdaa
