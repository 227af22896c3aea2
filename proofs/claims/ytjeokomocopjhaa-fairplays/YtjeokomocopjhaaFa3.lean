import Derived.Test.YtjeokomocopjhaaFa2
namespace Go.Proofs.Ytjeokomocopjhaa
open Go.RowKit Go.Maps
set_option maxRecDepth 100000

set_option maxHeartbeats 2000000 in
/-- slices.Delete of one. -/
theorem delete_any {w : World} {v : Value} {A B : List Int} {x : Int} (h : OwnN w v (A ++ x :: B)) {m n : Nat} (hm : A.length = m) (hn : m + 1 = n) :
    Calls Try.prog 32 #[v, .int .i64 m, .int .i64 n] w fun e w' => ∃ v', e = .returned v' ∧ OwnN w' v' (A ++ B) ∧ Fr (fun k => v.ownBlock = some k) w w' ∧ v'.ownBlock = v.ownBlock := by
  rcases own_shape h with ⟨_, e⟩ | ⟨g, cap, cur, rfl, hg, hlc, hcm, hcs, htk⟩
  · simp at e
  obtain ⟨W, hrA, W2, hrC, hO, hF⟩ := del_runs (w := w.drew) hg hlc hcm hcs htk 54
  have hN : (A ++ x :: B).length = A.length + B.length + 1 := by simp; omega
  obtain ⟨k, hk⟩ : ∃ k, B.length = k := ⟨_, rfl⟩
  obtain ⟨N, hNN⟩ : ∃ N, (A ++ x :: B).length = N := ⟨_, rfl⟩
  obtain ⟨s, hs⟩ : ∃ s, A.length + B.length = s := ⟨_, rfl⟩
  rw [hNN] at hlc ⊢
  rw [hs] at hrA hrC hO
  rw [hm, show B.length = N - n by omega] at hrA
  rw [hn] at hrA
  rw [show 1 = N - s by omega] at hrC
  have HA := hid2 hrA
  have HC := hid2 hrC
  have HO := hid2 hO
  have HF := hid2 hF
  have HM := hid2 (And.intro hm (And.intro hk (And.intro hcm (And.intro hs (And.intro hNN hn)))))
  have j1 : (m : Int) ≤ (n : Int) := by omega
  have j2 : (n : Int) ≤ (N : Int) := by omega
  have j3 : (N : Int) ≤ (cap : Int) := by omega
  have j4 : ¬ m = n := by omega
  have j5 : ¬ cap = s := by omega
  have j7 : (m : Int) ≤ (cap : Int) := by omega
  have j8 : (n : Int) ≤ (cap : Int) := by omega
  have j6 : (s : Int) ≤ (N : Int) := by omega
  have HB : Hid (cap = n → B = []) := fun e => List.eq_nil_of_length_eq_zero (by omega)
  clear h hg hcs htk hrA hrC hO hF hN hNN hs hm hk hcm hlc hn
  go_enter Try.func32, Try.ntmps32
  go_upto_region 5 with fail
  have hcl : (Builtin.clear_ #[54] 0 #[.slice (some ⟨g, s, none⟩) (N - s) (cap - s)]).run Try.prog W = .ok (.tuple #[]) W2 := HC.out _ _
  have HEND : Hid (∃ v', Ending.returned (.slice (some ⟨g, 0, none⟩) s cap) = Ending.returned v' ∧ OwnN W2 v' (A ++ B) ∧ Fr (fun k => (Value.slice (some ⟨g, 0, none⟩) N cap).ownBlock = some k) w W2 ∧ v'.ownBlock = (Value.slice (some ⟨g, 0, none⟩) N cap).ownBlock) :=
    ⟨_, rfl, HO.out, ((Fr.refl _ _).drewN 1).trans (T := fun k => k = g) HF.out (fun x e => .inl (by subst e; rfl)), rfl⟩
  clear HO HF HM HC
  by_cases hcn : cap = n
  · have HAR := hid2 (HA.out ⟨g, 0, none⟩ (.inl (HB.out hcn)))
    clear HA HB
    subst hcn
    go_region_law (refine step_append_by (by rfl) _ _ _ (by rfl) (by rfl) (by rfl) (HAR.out _) ?_)
    all_goals go_wp2_with fail
    all_goals (go_ret; exact HEND.out)
  · have HAR := hid2 (HA.out ⟨g, n, none⟩ (.inr rfl))
    clear HA HB
    go_region_law (refine step_append_by (by rfl) _ _ _ (by rfl) (by rfl) (by rfl) (HAR.out _) ?_)
    all_goals go_wp2_with fail
    all_goals (go_ret; exact HEND.out)
end Go.Proofs.Ytjeokomocopjhaa
