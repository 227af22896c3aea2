import Derived.Test.YtkcoabjeaoigdabLeast
namespace Go.Proofs.Ytkcoabjeaoigdab
set_option maxRecDepth 100000

/-- One path's weighed window, and with the time twice. -/
def aOf (m : Int) (l : Ln) : Int := l.c * 16 * m / l.r
def bOf (m : Int) (l : Ln) : Int := l.c * 16 * m * m / (l.r * l.r)
def sumA (m : Int) (L : List Ln) : Int := L.foldl (fun s l => s + aOf m l) 0
def bestB (m : Int) (L : List Ln) : Int := L.foldl (fun b l => max b (bOf m l)) 0
def tot (L : List Ln) : Int := L.foldl (fun t l => t + l.c) 0
theorem sumA_snoc (m : Int) (L : List Ln) (l : Ln) : sumA m (L ++ [l]) = sumA m L + aOf m l := by unfold sumA; rw [List.foldl_append]; rfl
theorem bestB_snoc (m : Int) (L : List Ln) (l : Ln) : bestB m (L ++ [l]) = max (bestB m L) (bOf m l) := by unfold bestB; rw [List.foldl_append]; rfl
theorem tot_snoc (L : List Ln) (l : Ln) : tot (L ++ [l]) = tot L + l.c := by unfold tot; rw [List.foldl_append]; rfl
/-- Induction from behind. -/
theorem snoc_ind {P : List Ln → Prop} (h0 : P []) (h1 : ∀ L l, P L → P (L ++ [l])) : ∀ L, P L := by
  intro L
  have : ∀ k, k ≤ L.length → P (L.take k) := by
    intro k
    induction k with
    | zero => intro _; simpa using h0
    | succ k ih =>
      intro hk
      rw [List.take_add_one, List.getElem?_eq_getElem (by omega)]
      exact h1 _ _ (ih (by omega))
  have h := this L.length (Nat.le_refl _)
  rwa [List.take_length] at h
/-- A path that counts. -/
def Cg (l : Ln) : Prop := l.Ok ∧ l.cnt = true
theorem Cg.r1 {l : Ln} (h : Cg l) : 1 ≤ l.r := by
  obtain ⟨_, h⟩ := h
  unfold Ln.cnt at h
  simp only [Bool.and_eq_true, decide_eq_true_eq] at h
  omega
theorem least_le : ∀ L : List Ln, ∀ l ∈ L, least L ≤ l.r := by
  refine snoc_ind (by simp) ?_
  intro L x ih l hl
  rw [least_snoc]
  rcases List.mem_append.1 hl with h | h
  · have := ih l h; omega
  · rw [List.mem_singleton.1 h]; omega
theorem least_b : ∀ L : List Ln, (∀ l ∈ L, Cg l) → 1 ≤ least L ∧ least L ≤ 60000 := by
  refine snoc_ind (by simp [least]) ?_
  intro L x ih h
  have h1 := ih (fun l hl => h l (List.mem_append_left _ hl))
  have h2 := (h x (by simp)).r1
  rw [least_snoc]
  omega
theorem least_mem : ∀ L : List Ln, L ≠ [] → (∀ l ∈ L, Cg l) → ∃ l ∈ L, l.r = least L := by
  refine snoc_ind (fun h => absurd rfl h) ?_
  intro L x ih _ h
  rw [least_snoc]
  by_cases hL : L = []
  · subst hL
    have := (h x (by simp)).1.r1
    refine ⟨x, by simp, ?_⟩
    show x.r = min 60000 x.r
    omega
  · obtain ⟨l, hl, e⟩ := ih hL (fun l hl => h l (List.mem_append_left _ hl))
    by_cases hx : x.r ≤ least L
    · exact ⟨x, by simp, by omega⟩
    · exact ⟨l, List.mem_append_left _ hl, by omega⟩
theorem mul_b {a b x y : Int} (ha : 0 ≤ a) (hb : 0 ≤ b) (hx : a ≤ x) (hy : b ≤ y) : 0 ≤ a * b ∧ a * b ≤ x * y :=
  ⟨Int.mul_nonneg ha hb, Int.mul_le_mul hx hy hb (by omega)⟩
theorem div_b {a b y : Int} (ha : 0 ≤ a) (hb : 1 ≤ b) (hy : a ≤ y) : 0 ≤ a / b ∧ a / b ≤ y := by
  refine ⟨Int.ediv_nonneg ha (by omega), ?_⟩
  refine Int.ediv_le_of_le_mul (by omega) ?_
  have : y * 1 ≤ y * b := Int.mul_le_mul_of_nonneg_left hb (by omega)
  omega
theorem aOf_b {m : Int} {l : Ln} (hm : 1 ≤ m ∧ m ≤ 60000) (h : Cg l) : 0 ≤ l.c * 16 * m ∧ l.c * 16 * m ≤ 251658240000 ∧ 0 ≤ aOf m l ∧ aOf m l ≤ 251658240000 := by
  have c0 := h.1.c0
  have c1 := h.1.c1
  obtain ⟨a, b⟩ := mul_b (a := l.c * 16) (b := m) (x := 4194304) (y := 60000) (by omega) (by omega) (by omega) hm.2
  have h2 := div_b (b := l.r) a h.r1 b
  exact ⟨a, by omega, h2.1, by have := h2.2; unfold aOf; omega⟩
theorem rr_b {l : Ln} (h : Cg l) : 1 ≤ l.r * l.r ∧ l.r * l.r ≤ 3600000000 := by
  have := h.r1
  have h1 := h.1.r1
  have a := Int.mul_le_mul this this (by omega) (by omega : (0 : Int) ≤ l.r)
  have b := Int.mul_le_mul h1 h1 (by omega) (by omega : (0 : Int) ≤ 60000)
  omega
theorem bOf_b {m : Int} {l : Ln} (hm : 1 ≤ m ∧ m ≤ 60000) (h : Cg l) : 0 ≤ l.c * 16 * m * m ∧ l.c * 16 * m * m ≤ 15099494400000000 ∧ 0 ≤ bOf m l ∧ bOf m l ≤ 15099494400000000 := by
  obtain ⟨a, b, _, _⟩ := aOf_b hm h
  obtain ⟨c, d⟩ := mul_b (a := l.c * 16 * m) (b := m) (x := 251658240000) (y := 60000) a (by omega) b hm.2
  have h2 := div_b (b := l.r * l.r) c (rr_b h).1 d
  exact ⟨c, by omega, h2.1, by have := h2.2; unfold bOf; omega⟩
theorem sumA_b {m : Int} (hm : 1 ≤ m ∧ m ≤ 60000) : ∀ L : List Ln, (∀ l ∈ L, Cg l) → 0 ≤ sumA m L ∧ sumA m L ≤ 251658240000 * L.length := by
  refine snoc_ind (by simp [sumA]) ?_
  intro L x ih h
  have h1 := ih (fun l hl => h l (List.mem_append_left _ hl))
  obtain ⟨_, _, h2, h3⟩ := aOf_b hm (h x (by simp))
  rw [sumA_snoc]
  simp only [List.length_append, List.length_cons, List.length_nil]
  omega
theorem bestB_b {m : Int} (hm : 1 ≤ m ∧ m ≤ 60000) : ∀ L : List Ln, (∀ l ∈ L, Cg l) → 0 ≤ bestB m L ∧ bestB m L ≤ 15099494400000000 := by
  refine snoc_ind (by simp [bestB]) ?_
  intro L x ih h
  have h1 := ih (fun l hl => h l (List.mem_append_left _ hl))
  obtain ⟨_, _, h2, h3⟩ := bOf_b hm (h x (by simp))
  rw [bestB_snoc]
  omega
theorem tot_b : ∀ L : List Ln, (∀ l ∈ L, Cg l) → 1024 * (L.length : Int) ≤ tot L ∧ tot L ≤ 262144 * L.length := by
  refine snoc_ind (by simp [tot]) ?_
  intro L x ih h
  have h1 := ih (fun l hl => h l (List.mem_append_left _ hl))
  have h2 := (h x (by simp)).1.c0
  have h3 := (h x (by simp)).1.c1
  rw [tot_snoc]
  simp only [List.length_append, List.length_cons, List.length_nil]
  omega
/-- The best is no more than a whole window, if the time is the least. -/
theorem bestB_le {m : Int} (hm : 1 ≤ m ∧ m ≤ 60000) : ∀ L : List Ln, (∀ l ∈ L, Cg l) → (∀ l ∈ L, m ≤ l.r) → bestB m L ≤ 4194304 := by
  refine snoc_ind (by simp [bestB]) ?_
  intro L x ih h hr
  have h1 := ih (fun l hl => h l (List.mem_append_left _ hl)) (fun l hl => hr l (List.mem_append_left _ hl))
  have hx := h x (by simp)
  have hrx := hr x (by simp)
  have c0 := hx.1.c0
  have c1 := hx.1.c1
  have : bOf m x ≤ 4194304 := by
    unfold bOf
    refine Int.ediv_le_of_le_mul (by have := (rr_b hx).1; omega) ?_
    have e1 : m * m ≤ x.r * x.r := Int.mul_le_mul hrx hrx (by omega) (by omega)
    have e2 := Int.mul_le_mul (show x.c * 16 ≤ 4194304 by omega) e1 (Int.mul_nonneg (by omega) (by omega)) (by omega)
    rw [Int.mul_assoc]
    exact e2
  rw [bestB_snoc]
  omega
theorem sumA_mem {m : Int} (hm : 1 ≤ m ∧ m ≤ 60000) : ∀ L : List Ln, (∀ l ∈ L, Cg l) → ∀ l ∈ L, aOf m l ≤ sumA m L := by
  refine snoc_ind (by simp) ?_
  intro L x ih h l hl
  have h0 := sumA_b hm L (fun l hl => h l (List.mem_append_left _ hl))
  obtain ⟨_, _, h2, h3⟩ := aOf_b hm (h x (by simp))
  rw [sumA_snoc]
  rcases List.mem_append.1 hl with h' | h'
  · have := ih (fun l hl => h l (List.mem_append_left _ hl)) l h'
    omega
  · rw [List.mem_singleton.1 h']
    omega
theorem sumA_ge (L : List Ln) (hL : L ≠ []) (h : ∀ l ∈ L, Cg l) : 16384 ≤ sumA (least L) L := by
  obtain ⟨l, hl, e⟩ := least_mem L hL h
  have h1 := sumA_mem (least_b L h) L h l hl
  have h2 : aOf (least L) l = l.c * 16 := by
    unfold aOf
    rw [← e]
    exact Int.mul_ediv_cancel _ (by have := (h l hl).r1; omega)
  have := (h l hl).1.c0
  omega
/-- The coupled step. -/
def qOf (L : List Ln) : Int := bestB (least L) L * 1048576 / sumA (least L) L
def pOf (L : List Ln) : Int := tot L * 16 * 512 / sumA (least L) L
def coupled (L : List Ln) : Int := qOf L * pOf L / 1048576 * 2048 / tot L
theorem qp_b (L : List Ln) (hL : L ≠ []) (h : ∀ l ∈ L, Cg l) (h8 : L.length ≤ 8) : 0 ≤ qOf L ∧ qOf L ≤ 268435456 ∧ 0 ≤ pOf L ∧ pOf L ≤ 1048576 := by
  have s0 := sumA_ge L hL h
  have b0 := bestB_b (least_b L h) L h
  have b1 := bestB_le (least_b L h) L h (least_le L)
  have t0 := tot_b L h
  unfold qOf pOf
  generalize sumA (least L) L = S at *
  generalize bestB (least L) L = B at *
  generalize tot L = T at *
  refine ⟨Int.ediv_nonneg (by omega) (by omega), ?_, Int.ediv_nonneg (by omega) (by omega), ?_⟩
  · refine Int.ediv_le_of_le_mul (by omega) ?_
    have : 268435456 * 16384 ≤ 268435456 * S := Int.mul_le_mul_of_nonneg_left s0 (by omega)
    omega
  · refine Int.ediv_le_of_le_mul (by omega) ?_
    have : 1048576 * 16384 ≤ 1048576 * S := Int.mul_le_mul_of_nonneg_left s0 (by omega)
    omega
end Go.Proofs.Ytkcoabjeaoigdab
