import Derived.Test.YtkhogbnoincbeabPu4
namespace Go.Proofs.Ytkhogbnoincbeab
open Go.RowKit Go.Maps Go.Sort
set_option maxRecDepth 100000

/-- Bytes that are read are what is written of what was read; a beginning of them is too short. -/
def OneF (b : List (BitVec 8)) (F : PF) (m : List (BitVec 8)) : Prop := 0 ≤ F.s ∧ 0 ≤ F.n ∧ faultI F.k F.s F.n F.c F.h F.bs.length = 0 ∧ b = encB F.k F.s F.n F.c F.h F.bs ++ m ∧ Eats (allA PF.zero) F (encB F.k F.s F.n F.c F.h F.bs)
theorem all_end {F G : PF} {l m : List (BitVec 8)} (h : allD [] F l = (0, G, m)) : F = G ∧ l = m := by
  simp only [allD, Prod.mk.injEq, true_and] at h
  exact h
theorem fault_mk {k s n c h : Int} {L : Nat} (h1 : Known k) (h2 : ¬ Big s n) (h3 : L ≤ 16384) (h4 : Bnd k s c h L) (h5 : Bare k s n c h L) : faultI k s n c h L = 0 := by
  unfold faultI
  rw [if_neg (by simpa using h1), if_neg h2, if_neg (by omega), if_neg (by simpa using And.intro h4 h5)]
theorem one_1 {l m : List (BitVec 8)} {G : PF} (h : allD (flds 1) { PF.zero with k := 1 } l = (0, G, m)) : OneF (by8 1 :: l) G m := by
  obtain ⟨F0, l0, g0, f0, k0⟩ := all_inv (show allD ((32, 33) :: _) _ _ = _ from h)
  obtain ⟨v0, b0, rfl, rfl, e0⟩ := str_inv g0
  obtain ⟨F1, l1, g1, f1, k1⟩ := all_inv (show allD ((34, 35) :: _) _ _ = _ from k0)
  obtain ⟨x1, rfl, rfl, e1⟩ := cls_inv g1
  obtain ⟨F2, l2, g2, f2, k2⟩ := all_inv (show allD ((36, 37) :: _) _ _ = _ from k1)
  obtain ⟨x2, rfl, rfl, e2⟩ := shr_inv g2
  obtain ⟨rfl, rfl⟩ := all_end k2
  have he := eats_kind (k := 1) (by decide) (eats_cons e0 f0 (eats_cons e1 f1 (eats_cons e2 f2 (eats_nil _))))
  have hen : encB 1 (v0 : Int) 0 (ub x1) (ub x2) ([] : List (BitVec 8)) = by8 1 :: (numB v0 ++ [x1, x2]) := by
    unfold encB
    rw [if_pos (by decide), if_pos rfl, by8_of, by8_of]
    simp
  have hp : by8 1 :: (numB v0 ++ ([x1] ++ ([x2] ++ []))) = by8 1 :: (numB v0 ++ [x1, x2]) := by simp
  rw [hp, ← hen] at he
  have hx1 := ub_bd x1
  have hx2 := ub_bd x2
  have f0' : Nmd (v0 : Int) := of_decide_eq_true f0
  have f1' : Cls (ub x1) := of_decide_eq_true f1
  have f2' : Shr (ub x2) := of_decide_eq_true f2
  have hft : faultI 1 (v0 : Int) 0 (ub x1) (ub x2) ([] : List (BitVec 8)).length = 0 := fault_mk (by decide) (by unfold Big; omega) (by decide) ⟨fun _ => ⟨f0', f1', f2'⟩, fun e => absurd e (by decide), fun e => absurd e (by decide)⟩ ⟨.inl (by decide), .inr rfl, .inl rfl, .inr rfl⟩
  exact ⟨by first | exact Int.natCast_nonneg _ | decide, by first | exact Int.natCast_nonneg _ | decide, hft, by show _ = encB 1 (v0 : Int) 0 (ub x1) (ub x2) ([] : List (BitVec 8)) ++ _; rw [hen]; simp, he⟩
theorem one_2 {l m : List (BitVec 8)} {G : PF} (h : allD (flds 2) { PF.zero with k := 2 } l = (0, G, m)) : OneF (by8 2 :: l) G m := by
  obtain ⟨F0, l0, g0, f0, k0⟩ := all_inv (show allD ((32, 33) :: _) _ _ = _ from h)
  obtain ⟨v0, b0, rfl, rfl, e0⟩ := str_inv g0
  obtain ⟨F1, l1, g1, f1, k1⟩ := all_inv (show allD ((38, 39) :: _) _ _ = _ from k0)
  obtain ⟨d1, b1, rfl, rfl, e1⟩ := data_inv g1
  obtain ⟨rfl, rfl⟩ := all_end k1
  have he := eats_kind (k := 2) (by decide) (eats_cons e0 f0 (eats_cons e1 f1 (eats_nil _)))
  have hen : encB 2 (v0 : Int) 0 (0) (0) d1 = by8 2 :: (numB v0 ++ (numB d1.length ++ d1)) := by
    unfold encB
    rw [if_pos (by decide), if_neg (by decide), if_pos rfl]
    simp
  have hp : by8 2 :: (numB v0 ++ ((numB d1.length ++ d1) ++ [])) = by8 2 :: (numB v0 ++ (numB d1.length ++ d1)) := by simp
  rw [hp, ← hen] at he
  have f0' : Nmd (v0 : Int) := of_decide_eq_true f0
  have f1' : Fill d1.length := of_decide_eq_true f1
  have hft : faultI 2 (v0 : Int) 0 (0) (0) d1.length = 0 := fault_mk (by decide) (by unfold Big; omega) b1 ⟨fun e => absurd e (by decide), fun _ => ⟨f0', f1'⟩, fun e => absurd e (by decide)⟩ ⟨.inl (by decide), .inr rfl, .inr ⟨rfl, rfl⟩, .inl rfl⟩
  exact ⟨by first | exact Int.natCast_nonneg _ | decide, by first | exact Int.natCast_nonneg _ | decide, hft, by show _ = encB 2 (v0 : Int) 0 (0) (0) d1 ++ _; rw [hen]; simp, he⟩
theorem one_3 {l m : List (BitVec 8)} {G : PF} (h : allD (flds 3) { PF.zero with k := 3 } l = (0, G, m)) : OneF (by8 3 :: l) G m := by
  obtain ⟨F0, l0, g0, f0, k0⟩ := all_inv (show allD ((32, 40) :: _) _ _ = _ from h)
  obtain ⟨v0, b0, rfl, rfl, e0⟩ := str_inv g0
  obtain ⟨F1, l1, g1, f1, k1⟩ := all_inv (show allD ((41, 40) :: _) _ _ = _ from k0)
  obtain ⟨v1, b1, rfl, rfl, e1⟩ := n_inv g1
  obtain ⟨rfl, rfl⟩ := all_end k1
  have he := eats_kind (k := 3) (by decide) (eats_cons e0 f0 (eats_cons e1 f1 (eats_nil _)))
  have hen : encB 3 (v0 : Int) (v1 : Int) (0) (0) ([] : List (BitVec 8)) = by8 3 :: (numB v0 ++ numB v1) := by
    unfold encB
    rw [if_pos (by decide), if_neg (by decide), if_neg (by decide), if_pos (by decide)]
    simp
  have hp : by8 3 :: (numB v0 ++ (numB v1 ++ [])) = by8 3 :: (numB v0 ++ numB v1) := by simp
  rw [hp, ← hen] at he
  have hft : faultI 3 (v0 : Int) (v1 : Int) (0) (0) ([] : List (BitVec 8)).length = 0 := fault_mk (by decide) (by unfold Big; omega) (by decide) ⟨fun e => absurd e (by decide), fun e => absurd e (by decide), fun e => absurd e (by decide)⟩ ⟨.inl (by decide), .inl (by decide), .inr ⟨rfl, rfl⟩, .inr rfl⟩
  exact ⟨by first | exact Int.natCast_nonneg _ | decide, by first | exact Int.natCast_nonneg _ | decide, hft, by show _ = encB 3 (v0 : Int) (v1 : Int) (0) (0) ([] : List (BitVec 8)) ++ _; rw [hen]; simp, he⟩
theorem one_4 {l m : List (BitVec 8)} {G : PF} (h : allD (flds 4) { PF.zero with k := 4 } l = (0, G, m)) : OneF (by8 4 :: l) G m := by
  obtain ⟨F0, l0, g0, f0, k0⟩ := all_inv (show allD ((32, 33) :: _) _ _ = _ from h)
  obtain ⟨v0, b0, rfl, rfl, e0⟩ := str_inv g0
  obtain ⟨rfl, rfl⟩ := all_end k0
  have he := eats_kind (k := 4) (by decide) (eats_cons e0 f0 (eats_nil _))
  have hen : encB 4 (v0 : Int) 0 (0) (0) ([] : List (BitVec 8)) = by8 4 :: numB v0 := by
    unfold encB
    rw [if_pos (by decide), if_neg (by decide), if_neg (by decide), if_neg (by decide)]
    simp
  have hp : by8 4 :: (numB v0 ++ []) = by8 4 :: numB v0 := by simp
  rw [hp, ← hen] at he
  have f0' : Nmd (v0 : Int) := of_decide_eq_true f0
  have hft : faultI 4 (v0 : Int) 0 (0) (0) ([] : List (BitVec 8)).length = 0 := fault_mk (by decide) (by unfold Big; omega) (by decide) ⟨fun e => absurd e (by decide), fun e => absurd e (by decide), fun _ => f0'⟩ ⟨.inl (by decide), .inr rfl, .inr ⟨rfl, rfl⟩, .inr rfl⟩
  exact ⟨by first | exact Int.natCast_nonneg _ | decide, by first | exact Int.natCast_nonneg _ | decide, hft, by show _ = encB 4 (v0 : Int) 0 (0) (0) ([] : List (BitVec 8)) ++ _; rw [hen]; simp, he⟩
theorem one_5 {l m : List (BitVec 8)} {G : PF} (h : allD (flds 5) { PF.zero with k := 5 } l = (0, G, m)) : OneF (by8 5 :: l) G m := by
  obtain ⟨F0, l0, g0, f0, k0⟩ := all_inv (show allD ((32, 33) :: _) _ _ = _ from h)
  obtain ⟨v0, b0, rfl, rfl, e0⟩ := str_inv g0
  obtain ⟨F1, l1, g1, f1, k1⟩ := all_inv (show allD ((41, 40) :: _) _ _ = _ from k0)
  obtain ⟨v1, b1, rfl, rfl, e1⟩ := n_inv g1
  obtain ⟨rfl, rfl⟩ := all_end k1
  have he := eats_kind (k := 5) (by decide) (eats_cons e0 f0 (eats_cons e1 f1 (eats_nil _)))
  have hen : encB 5 (v0 : Int) (v1 : Int) (0) (0) ([] : List (BitVec 8)) = by8 5 :: (numB v0 ++ numB v1) := by
    unfold encB
    rw [if_pos (by decide), if_neg (by decide), if_neg (by decide), if_pos (by decide)]
    simp
  have hp : by8 5 :: (numB v0 ++ (numB v1 ++ [])) = by8 5 :: (numB v0 ++ numB v1) := by simp
  rw [hp, ← hen] at he
  have f0' : Nmd (v0 : Int) := of_decide_eq_true f0
  have hft : faultI 5 (v0 : Int) (v1 : Int) (0) (0) ([] : List (BitVec 8)).length = 0 := fault_mk (by decide) (by unfold Big; omega) (by decide) ⟨fun e => absurd e (by decide), fun e => absurd e (by decide), fun _ => f0'⟩ ⟨.inl (by decide), .inl (by decide), .inr ⟨rfl, rfl⟩, .inr rfl⟩
  exact ⟨by first | exact Int.natCast_nonneg _ | decide, by first | exact Int.natCast_nonneg _ | decide, hft, by show _ = encB 5 (v0 : Int) (v1 : Int) (0) (0) ([] : List (BitVec 8)) ++ _; rw [hen]; simp, he⟩
theorem one_6 {l m : List (BitVec 8)} {G : PF} (h : allD (flds 6) { PF.zero with k := 6 } l = (0, G, m)) : OneF (by8 6 :: l) G m := by
  obtain ⟨F0, l0, g0, f0, k0⟩ := all_inv (show allD ((32, 33) :: _) _ _ = _ from h)
  obtain ⟨v0, b0, rfl, rfl, e0⟩ := str_inv g0
  obtain ⟨F1, l1, g1, f1, k1⟩ := all_inv (show allD ((41, 40) :: _) _ _ = _ from k0)
  obtain ⟨v1, b1, rfl, rfl, e1⟩ := n_inv g1
  obtain ⟨rfl, rfl⟩ := all_end k1
  have he := eats_kind (k := 6) (by decide) (eats_cons e0 f0 (eats_cons e1 f1 (eats_nil _)))
  have hen : encB 6 (v0 : Int) (v1 : Int) (0) (0) ([] : List (BitVec 8)) = by8 6 :: (numB v0 ++ numB v1) := by
    unfold encB
    rw [if_pos (by decide), if_neg (by decide), if_neg (by decide), if_pos (by decide)]
    simp
  have hp : by8 6 :: (numB v0 ++ (numB v1 ++ [])) = by8 6 :: (numB v0 ++ numB v1) := by simp
  rw [hp, ← hen] at he
  have f0' : Nmd (v0 : Int) := of_decide_eq_true f0
  have hft : faultI 6 (v0 : Int) (v1 : Int) (0) (0) ([] : List (BitVec 8)).length = 0 := fault_mk (by decide) (by unfold Big; omega) (by decide) ⟨fun e => absurd e (by decide), fun e => absurd e (by decide), fun _ => f0'⟩ ⟨.inl (by decide), .inl (by decide), .inr ⟨rfl, rfl⟩, .inr rfl⟩
  exact ⟨by first | exact Int.natCast_nonneg _ | decide, by first | exact Int.natCast_nonneg _ | decide, hft, by show _ = encB 6 (v0 : Int) (v1 : Int) (0) (0) ([] : List (BitVec 8)) ++ _; rw [hen]; simp, he⟩
theorem one_7 {l m : List (BitVec 8)} {G : PF} (h : allD (flds 7) { PF.zero with k := 7 } l = (0, G, m)) : OneF (by8 7 :: l) G m := by
  obtain ⟨F0, l0, g0, f0, k0⟩ := all_inv (show allD ((41, 40) :: _) _ _ = _ from h)
  obtain ⟨v0, b0, rfl, rfl, e0⟩ := n_inv g0
  obtain ⟨rfl, rfl⟩ := all_end k0
  have he := eats_kind (k := 7) (by decide) (eats_cons e0 f0 (eats_nil _))
  have hen : encB 7 0 (v0 : Int) (0) (0) ([] : List (BitVec 8)) = by8 7 :: numB v0 := by
    unfold encB
    rw [if_neg (by decide), if_neg (by decide), if_neg (by decide), if_pos (by decide)]
    simp
  have hp : by8 7 :: (numB v0 ++ []) = by8 7 :: numB v0 := by simp
  rw [hp, ← hen] at he
  have hft : faultI 7 0 (v0 : Int) (0) (0) ([] : List (BitVec 8)).length = 0 := fault_mk (by decide) (by unfold Big; omega) (by decide) ⟨fun e => absurd e (by decide), fun e => absurd e (by decide), fun e => absurd e (by decide)⟩ ⟨.inr rfl, .inl (by decide), .inr ⟨rfl, rfl⟩, .inr rfl⟩
  exact ⟨by first | exact Int.natCast_nonneg _ | decide, by first | exact Int.natCast_nonneg _ | decide, hft, by show _ = encB 7 0 (v0 : Int) (0) (0) ([] : List (BitVec 8)) ++ _; rw [hen]; simp, he⟩
theorem one_8 {l m : List (BitVec 8)} {G : PF} (h : allD (flds 8) { PF.zero with k := 8 } l = (0, G, m)) : OneF (by8 8 :: l) G m := by
  obtain ⟨F0, l0, g0, f0, k0⟩ := all_inv (show allD ((41, 40) :: _) _ _ = _ from h)
  obtain ⟨v0, b0, rfl, rfl, e0⟩ := n_inv g0
  obtain ⟨rfl, rfl⟩ := all_end k0
  have he := eats_kind (k := 8) (by decide) (eats_cons e0 f0 (eats_nil _))
  have hen : encB 8 0 (v0 : Int) (0) (0) ([] : List (BitVec 8)) = by8 8 :: numB v0 := by
    unfold encB
    rw [if_neg (by decide), if_neg (by decide), if_neg (by decide), if_pos (by decide)]
    simp
  have hp : by8 8 :: (numB v0 ++ []) = by8 8 :: numB v0 := by simp
  rw [hp, ← hen] at he
  have hft : faultI 8 0 (v0 : Int) (0) (0) ([] : List (BitVec 8)).length = 0 := fault_mk (by decide) (by unfold Big; omega) (by decide) ⟨fun e => absurd e (by decide), fun e => absurd e (by decide), fun e => absurd e (by decide)⟩ ⟨.inr rfl, .inl (by decide), .inr ⟨rfl, rfl⟩, .inr rfl⟩
  exact ⟨by first | exact Int.natCast_nonneg _ | decide, by first | exact Int.natCast_nonneg _ | decide, hft, by show _ = encB 8 0 (v0 : Int) (0) (0) ([] : List (BitVec 8)) ++ _; rw [hen]; simp, he⟩
theorem one_9 {l m : List (BitVec 8)} {G : PF} (h : allD (flds 9) { PF.zero with k := 9 } l = (0, G, m)) : OneF (by8 9 :: l) G m := by
  obtain ⟨F0, l0, g0, f0, k0⟩ := all_inv (show allD ((32, 40) :: _) _ _ = _ from h)
  obtain ⟨v0, b0, rfl, rfl, e0⟩ := str_inv g0
  obtain ⟨F1, l1, g1, f1, k1⟩ := all_inv (show allD ((41, 40) :: _) _ _ = _ from k0)
  obtain ⟨v1, b1, rfl, rfl, e1⟩ := n_inv g1
  obtain ⟨rfl, rfl⟩ := all_end k1
  have he := eats_kind (k := 9) (by decide) (eats_cons e0 f0 (eats_cons e1 f1 (eats_nil _)))
  have hen : encB 9 (v0 : Int) (v1 : Int) (0) (0) ([] : List (BitVec 8)) = by8 9 :: (numB v0 ++ numB v1) := by
    unfold encB
    rw [if_pos (by decide), if_neg (by decide), if_neg (by decide), if_pos (by decide)]
    simp
  have hp : by8 9 :: (numB v0 ++ (numB v1 ++ [])) = by8 9 :: (numB v0 ++ numB v1) := by simp
  rw [hp, ← hen] at he
  have hft : faultI 9 (v0 : Int) (v1 : Int) (0) (0) ([] : List (BitVec 8)).length = 0 := fault_mk (by decide) (by unfold Big; omega) (by decide) ⟨fun e => absurd e (by decide), fun e => absurd e (by decide), fun e => absurd e (by decide)⟩ ⟨.inl (by decide), .inl (by decide), .inr ⟨rfl, rfl⟩, .inr rfl⟩
  exact ⟨by first | exact Int.natCast_nonneg _ | decide, by first | exact Int.natCast_nonneg _ | decide, hft, by show _ = encB 9 (v0 : Int) (v1 : Int) (0) (0) ([] : List (BitVec 8)) ++ _; rw [hen]; simp, he⟩
theorem dec_one {b m : List (BitVec 8)} {F : PF} (h : allA PF.zero b = (0, F, m)) : OneF b F m := by
  cases b with
  | nil => simp [allA, kindD, oneD] at h
  | cons x l =>
    by_cases hk : Known (ub x)
    · rw [← by8_of x, allA_kind hk] at h
      rw [← by8_of x]
      obtain ⟨k0, k1⟩ := hk
      have : ub x = 1 ∨ ub x = 2 ∨ ub x = 3 ∨ ub x = 4 ∨ ub x = 5 ∨ ub x = 6 ∨ ub x = 7 ∨ ub x = 8 ∨ ub x = 9 := by omega
      rcases this with e | e | e | e | e | e | e | e | e <;> rw [e] at h ⊢
      · exact one_1 h
      · exact one_2 h
      · exact one_3 h
      · exact one_4 h
      · exact one_5 h
      · exact one_6 h
      · exact one_7 h
      · exact one_8 h
      · exact one_9 h
    · exfalso
      have e : kindD PF.zero (x :: l) = (170, PF.zero, l) := by
        simp only [kindD, oneD]
        rw [if_pos ⟨trivial, hk⟩]
      simp only [allA] at h
      rw [e, if_pos (by simp)] at h
      simp at h
end Go.Proofs.Ytkhogbnoincbeab
