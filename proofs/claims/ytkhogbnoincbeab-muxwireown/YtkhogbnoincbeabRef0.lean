import Derived.Test.YtkhogbnoincbeabEnc0
namespace Go.Proofs.Ytkhogbnoincbeab
open Go.RowKit Go.Maps Go.Sort
set_option maxRecDepth 100000

/-- The reference's bounds. -/
def RB (k s n c h : Int) (L : Nat) : Prop := (Strd k → ¬ s = 0) ∧ (k = 7 ∨ k = 8 → s = 0) ∧ (k = 1 ∨ k = 2 ∨ k = 4 → n = 0) ∧ (k = 1 → (0 ≤ c ∧ c ≤ 7) ∧ (1 ≤ h ∧ h ≤ 255)) ∧ (¬ k = 1 → c = 0 ∧ h = 0) ∧ (k = 2 ↔ 0 < L)
instance (k s n c h : Int) (L : Nat) : Decidable (RB k s n c h L) := by unfold RB; exact inferInstance
theorem rb_iff {k s n c h : Int} {L : Nat} (hk : Known k) (hs : 0 ≤ s) : RB k s n c h L ↔ Bnd k s c h L ∧ Bare k s n c h L := by
  unfold RB Bnd Bare Strd HasS HasN Nmd Cls Shr Fill
  obtain ⟨h1, h2⟩ := hk
  have : k = 1 ∨ k = 2 ∨ k = 3 ∨ k = 4 ∨ k = 5 ∨ k = 6 ∨ k = 7 ∨ k = 8 ∨ k = 9 := by omega
  rcases this with e | e | e | e | e | e | e | e | e <;> subst e <;> simp <;> omega
section
variable (w : World) (k s n c h : Int) (a : Option Addr) (L cap : Nat)
set_option maxHeartbeats 4000000 in
theorem rbounded_any (hs : 0 ≤ s) : Calls Try.prog 45 #[.agg #[.int .i64 k, .int .u64 s, .int .u64 n, .int .i64 c, .int .i64 h, .slice a L cap]] w fun e w' => e = .returned (.bool (decide (RB k s n c h L))) ∧ Below w.heap.size w w' := by
  have HS := hid (fun w => strd_any w k)
  go_enter Try.func45, Try.ntmps45
  go_wp2_with (go_at_call 57; refine (HS.out _).mono ?_; rintro e w' ⟨rfl, rfl⟩)
  all_goals
    go_ret
    refine ⟨ret_b ?_, below_new w _⟩
    clear HS
    unfold RB
    first | (simp_all [Strd]; done) | (simp_all [Strd]; omega) | (simp_all [Strd]; rw [beq_eq_false_iff_ne.2 ‹¬ k = 2›]; simp; omega) | (simp_all [Strd]; rw [beq_eq_false_iff_ne.2 ‹¬ k = 2›]; simp; done)
end
end Go.Proofs.Ytkhogbnoincbeab
