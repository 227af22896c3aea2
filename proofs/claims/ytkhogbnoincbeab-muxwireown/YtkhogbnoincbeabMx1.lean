import Derived.Test.YtkhogbnoincbeabMx0
namespace Go.Proofs.Ytkhogbnoincbeab
open Go.RowKit Go.Maps Go.Sort
set_option maxRecDepth 100000

def Known (k : Int) : Prop := 1 ≤ k ∧ k ≤ 9
instance (k : Int) : Decidable (Known k) := by unfold Known; exact inferInstance
theorem ret_b {b : Bool} {P : Prop} [Decidable P] (h : b = true ↔ P) : Ending.returned (.bool b) = .returned (.bool (decide P)) := by
  by_cases hp : P
  · rw [decide_eq_true hp, h.2 hp]
  · rw [decide_eq_false hp, Bool.eq_false_iff.2 (fun e => hp (h.1 e))]
theorem known_any (w : World) (k : Int) : Calls Try.prog 47 #[.int .i64 k] w fun e w' => e = .returned (.bool (decide (Known k))) ∧ w' = w := by
  by_cases h1 : 0 < k
  · by_cases h2 : k < 10
    · go_enter Try.func47, Try.ntmps47
      go_wp2
      go_ret
      exact ⟨ret_b (by simp [Known]; omega), rfl⟩
    · go_enter Try.func47, Try.ntmps47
      go_wp2
      go_ret
      exact ⟨ret_b (by simp [Known]; omega), rfl⟩
  · go_enter Try.func47, Try.ntmps47
    go_wp2
    go_ret
    exact ⟨ret_b (by simp [Known]; omega), rfl⟩
def HasS (k : Int) : Prop := k ≠ 7 ∧ k ≠ 8
instance (k : Int) : Decidable (HasS k) := by unfold HasS; exact inferInstance
def HasN (k : Int) : Prop := k ≠ 1 ∧ k ≠ 2 ∧ k ≠ 4
instance (k : Int) : Decidable (HasN k) := by unfold HasN; exact inferInstance
theorem dec_t {P : Prop} [Decidable P] (h : P) : Ending.returned (.bool true) = .returned (.bool (decide P)) := by rw [decide_eq_true h]
theorem dec_f {P : Prop} [Decidable P] (h : ¬ P) : Ending.returned (.bool false) = .returned (.bool (decide P)) := by rw [decide_eq_false h]
theorem hasS_any (w : World) (k : Int) : Calls Try.prog 50 #[.int .i64 k] w fun e w' => e = .returned (.bool (decide (HasS k))) ∧ w' = w := by
  by_cases h1 : k = 7
  · subst h1
    go_enter Try.func50, Try.ntmps50
    go_wp2
    go_ret
    exact ⟨dec_f (by decide), rfl⟩
  by_cases h2 : k = 8
  · subst h2
    go_enter Try.func50, Try.ntmps50
    go_wp2
    go_ret
    exact ⟨dec_f (by decide), rfl⟩
  · go_enter Try.func50, Try.ntmps50
    go_wp2
    go_ret
    exact ⟨ret_b (by simp [HasS]), rfl⟩
theorem hasN_any (w : World) (k : Int) : Calls Try.prog 52 #[.int .i64 k] w fun e w' => e = .returned (.bool (decide (HasN k))) ∧ w' = w := by
  by_cases h1 : k = 1
  · subst h1
    go_enter Try.func52, Try.ntmps52
    go_wp2
    go_ret
    exact ⟨dec_f (by decide), rfl⟩
  by_cases h2 : k = 2
  · subst h2
    go_enter Try.func52, Try.ntmps52
    go_wp2
    go_ret
    exact ⟨dec_f (by decide), rfl⟩
  by_cases h3 : k = 4
  · subst h3
    go_enter Try.func52, Try.ntmps52
    go_wp2
    go_ret
    exact ⟨dec_f (by decide), rfl⟩
  · go_enter Try.func52, Try.ntmps52
    go_wp2
    go_ret
    exact ⟨ret_b (by simp [HasN, and_assoc]), rfl⟩
def Strd (k : Int) : Prop := k = 1 ∨ k = 2 ∨ (4 ≤ k ∧ k ≤ 6)
instance (k : Int) : Decidable (Strd k) := by unfold Strd; exact inferInstance
theorem strd_any (w : World) (k : Int) : Calls Try.prog 57 #[.int .i64 k] w fun e w' => e = .returned (.bool (decide (Strd k))) ∧ w' = w := by
  by_cases h1 : k = 1
  · subst h1
    go_enter Try.func57, Try.ntmps57
    go_wp2
    go_ret
    exact ⟨dec_t (by decide), rfl⟩
  by_cases h2 : k = 2
  · subst h2
    go_enter Try.func57, Try.ntmps57
    go_wp2
    go_ret
    exact ⟨dec_t (by decide), rfl⟩
  by_cases h3 : 4 ≤ k
  · by_cases h4 : k ≤ 6
    · go_enter Try.func57, Try.ntmps57
      go_wp2
      go_ret
      exact ⟨ret_b (by simp [Strd]; omega), rfl⟩
    · go_enter Try.func57, Try.ntmps57
      go_wp2
      go_ret
      exact ⟨ret_b (by simp [Strd]; omega), rfl⟩
  · go_enter Try.func57, Try.ntmps57
    go_wp2
    go_ret
    exact ⟨ret_b (by simp [Strd]; omega), rfl⟩
def Cls (c : Int) : Prop := 0 ≤ c ∧ c ≤ 7
instance (c : Int) : Decidable (Cls c) := by unfold Cls; exact inferInstance
def Shr (c : Int) : Prop := 1 ≤ c ∧ c ≤ 255
instance (c : Int) : Decidable (Shr c) := by unfold Shr; exact inferInstance
def Fill (L : Nat) : Prop := 1 ≤ L
instance (L : Nat) : Decidable (Fill L) := by unfold Fill; exact inferInstance
def Nmd (s : Int) : Prop := 1 ≤ s
instance (s : Int) : Decidable (Nmd s) := by unfold Nmd; exact inferInstance
section
variable (w : World) (k s n c h : Int) (a : Option Addr) (L cap : Nat)
/-- A frame's value. -/
def fv (k s n c h : Int) (d : Value) : Value := .agg #[.int .i64 k, .int .u64 s, .int .u64 n, .int .i64 c, .int .i64 h, d]
theorem named_any : Calls Try.prog 33 #[.agg #[.int .i64 k, .int .u64 s, .int .u64 n, .int .i64 c, .int .i64 h, .slice a L cap]] w fun e w' => e = .returned (.bool (decide (Nmd s))) ∧ Below w.heap.size w w' := by
  go_enter Try.func33, Try.ntmps33
  go_wp2
  go_ret
  exact ⟨ret_b (by simp [Nmd]), (Below.refl _ _).alloc (Nat.le_refl _) _⟩
theorem classed_any : Calls Try.prog 35 #[.agg #[.int .i64 k, .int .u64 s, .int .u64 n, .int .i64 c, .int .i64 h, .slice a L cap]] w fun e w' => e = .returned (.bool (decide (Cls c))) ∧ Below w.heap.size w w' := by
  by_cases h1 : 0 ≤ c
  · by_cases h2 : c ≤ 7
    · go_enter Try.func35, Try.ntmps35
      go_wp2
      go_ret
      exact ⟨ret_b (by simp [Cls]; omega), (Below.refl _ _).alloc (Nat.le_refl _) _⟩
    · go_enter Try.func35, Try.ntmps35
      go_wp2
      go_ret
      exact ⟨ret_b (by simp [Cls]; omega), (Below.refl _ _).alloc (Nat.le_refl _) _⟩
  · go_enter Try.func35, Try.ntmps35
    go_wp2
    go_ret
    exact ⟨ret_b (by simp [Cls]; omega), (Below.refl _ _).alloc (Nat.le_refl _) _⟩
theorem shared_any : Calls Try.prog 37 #[.agg #[.int .i64 k, .int .u64 s, .int .u64 n, .int .i64 c, .int .i64 h, .slice a L cap]] w fun e w' => e = .returned (.bool (decide (Shr h))) ∧ Below w.heap.size w w' := by
  by_cases h1 : 1 ≤ h
  · by_cases h2 : h ≤ 255
    · go_enter Try.func37, Try.ntmps37
      go_wp2
      go_ret
      exact ⟨ret_b (by simp [Shr]; omega), (Below.refl _ _).alloc (Nat.le_refl _) _⟩
    · go_enter Try.func37, Try.ntmps37
      go_wp2
      go_ret
      exact ⟨ret_b (by simp [Shr]; omega), (Below.refl _ _).alloc (Nat.le_refl _) _⟩
  · go_enter Try.func37, Try.ntmps37
    go_wp2
    go_ret
    exact ⟨ret_b (by simp [Shr]; omega), (Below.refl _ _).alloc (Nat.le_refl _) _⟩
theorem filled_any : Calls Try.prog 39 #[.agg #[.int .i64 k, .int .u64 s, .int .u64 n, .int .i64 c, .int .i64 h, .slice a L cap]] w fun e w' => e = .returned (.bool (decide (Fill L))) ∧ Below w.heap.size w w' := by
  by_cases h1 : 1 ≤ L
  · go_enter Try.func39, Try.ntmps39
    go_wp2
    go_ret
    exact ⟨ret_b (by simp [Fill]; omega), (Below.refl _ _).alloc (Nat.le_refl _) _⟩
  · go_enter Try.func39, Try.ntmps39
    go_wp2
    go_ret
    exact ⟨ret_b (by simp [Fill]; omega), (Below.refl _ _).alloc (Nat.le_refl _) _⟩
theorem free_any : Calls Try.prog 40 #[.agg #[.int .i64 k, .int .u64 s, .int .u64 n, .int .i64 c, .int .i64 h, .slice a L cap]] w fun e w' => e = .returned (.bool true) ∧ Below w.heap.size w w' := by
  go_enter Try.func40, Try.ntmps40
  go_wp2
  go_ret
  exact ⟨rfl, (Below.refl _ _).alloc (Nat.le_refl _) _⟩
end
end Go.Proofs.Ytkhogbnoincbeab
