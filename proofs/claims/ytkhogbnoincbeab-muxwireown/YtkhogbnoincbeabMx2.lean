import Derived.Test.YtkhogbnoincbeabMx1
namespace Go.Proofs.Ytkhogbnoincbeab
open Go.RowKit Go.Maps Go.Sort
set_option maxRecDepth 100000

/-- The bounds of a kind's own fields. -/
def Bnd (k s c h : Int) (L : Nat) : Prop := (k = 1 → Nmd s ∧ Cls c ∧ Shr h) ∧ (k = 2 → Nmd s ∧ Fill L) ∧ (k = 4 ∨ k = 5 ∨ k = 6 → Nmd s)
instance (k s c h : Int) (L : Nat) : Decidable (Bnd k s c h L) := by unfold Bnd; exact inferInstance
/-- The fields that a kind has not. -/
def Bare (k s n c h : Int) (L : Nat) : Prop := (HasS k ∨ s = 0) ∧ (HasN k ∨ n = 0) ∧ (k = 1 ∨ c = 0 ∧ h = 0) ∧ (k = 2 ∨ L = 0)
instance (k s n c h : Int) (L : Nat) : Decidable (Bare k s n c h L) := by unfold Bare; exact inferInstance
/-- A frame's cells from address b, o on. -/
structure FAt (w : World) (b o : Nat) (k s n c h : Int) (d : Value) : Prop where
  c0 : w.cell? ⟨b, o, none⟩ = some (.int .i64 k)
  c1 : w.cell? ⟨b, o + 1, none⟩ = some (.int .u64 s)
  c2 : w.cell? ⟨b, o + 2, none⟩ = some (.int .u64 n)
  c3 : w.cell? ⟨b, o + 3, none⟩ = some (.int .i64 c)
  c4 : w.cell? ⟨b, o + 4, none⟩ = some (.int .i64 h)
  c5 : w.cell? ⟨b, o + 5, none⟩ = some d
theorem FAt.kept {w w' : World} {b o : Nat} {k s n c h : Int} {d : Value} (H : FAt w b o k s n c h d) (hb : Below w.heap.size w w') : FAt w' b o k s n c h d :=
  ⟨cell_kept hb H.c0, cell_kept hb H.c1, cell_kept hb H.c2, cell_kept hb H.c3, cell_kept hb H.c4, cell_kept hb H.c5⟩
theorem FAt.below {w w' : World} {B b o : Nat} {k s n c h : Int} {d : Value} (H : FAt w b o k s n c h d) (hb : Below B w w') (hB : b < B) : FAt w' b o k s n c h d :=
  ⟨(hb.cell (p := ⟨b, _, none⟩) hB).trans H.c0, (hb.cell (p := ⟨b, _, none⟩) hB).trans H.c1, (hb.cell (p := ⟨b, _, none⟩) hB).trans H.c2, (hb.cell (p := ⟨b, _, none⟩) hB).trans H.c3, (hb.cell (p := ⟨b, _, none⟩) hB).trans H.c4, (hb.cell (p := ⟨b, _, none⟩) hB).trans H.c5⟩
theorem FAt.fr {S : Nat → Prop} {w w' : World} {b o : Nat} {k s n c h : Int} {d : Value} (H : FAt w b o k s n c h d) (hf : Fr S w w') (hS : ¬ S b) : FAt w' b o k s n c h d :=
  ⟨hf.cell H.c0 hS, hf.cell H.c1 hS, hf.cell H.c2 hS, hf.cell H.c3 hS, hf.cell H.c4 hS, hf.cell H.c5 hS⟩
theorem fat_new (w : World) (k s n c h : Int) (d : Value) : FAt (w.alloc (.cells #[.int .i64 k, .int .u64 s, .int .u64 n, .int .i64 c, .int .i64 h, d] 41)) w.heap.size 0 k s n c h d := by
  have R := Row.new' w #[.int .i64 k, .int .u64 s, .int .u64 n, .int .i64 c, .int .i64 h, d] [.int .i64 k, .int .u64 s, .int .u64 n, .int .i64 c, .int .i64 h, d] 41 _ rfl rfl
  exact ⟨R.cell 0 _ rfl, R.cell 1 _ rfl, R.cell 2 _ rfl, R.cell 3 _ rfl, R.cell 4 _ rfl, R.cell 5 _ rfl⟩
theorem below_two {B : Nat} {w w1 w2 : World} (h1 : Below B w w1) (h2 : Below w1.heap.size w1 w2) (hB : B ≤ w.heap.size) : Below B w w2 := h1.trans (h2.mono (Nat.le_trans hB h1.size))
section
variable (w : World) (k s n c h : Int) (a : Option Addr) (L cap : Nat)
set_option maxHeartbeats 1000000 in
theorem bounded_any : Calls Try.prog 48 #[.agg #[.int .i64 k, .int .u64 s, .int .u64 n, .int .i64 c, .int .i64 h, .slice a L cap]] w fun e w' => e = .returned (.bool (decide (Bnd k s c h L))) ∧ Below w.heap.size w w' := by
  have HN : Hid (∀ w, Calls Try.prog 33 #[.agg #[.int .i64 k, .int .u64 s, .int .u64 n, .int .i64 c, .int .i64 h, .slice a L cap]] w fun e w' => e = .returned (.bool (decide (Nmd s))) ∧ Below w.heap.size w w') := fun w => named_any w k s n c h a L cap
  have HC : Hid (∀ w, Calls Try.prog 35 #[.agg #[.int .i64 k, .int .u64 s, .int .u64 n, .int .i64 c, .int .i64 h, .slice a L cap]] w fun e w' => e = .returned (.bool (decide (Cls c))) ∧ Below w.heap.size w w') := fun w => classed_any w k s n c h a L cap
  have HH : Hid (∀ w, Calls Try.prog 37 #[.agg #[.int .i64 k, .int .u64 s, .int .u64 n, .int .i64 c, .int .i64 h, .slice a L cap]] w fun e w' => e = .returned (.bool (decide (Shr h))) ∧ Below w.heap.size w w') := fun w => shared_any w k s n c h a L cap
  have HF : Hid (∀ w, Calls Try.prog 39 #[.agg #[.int .i64 k, .int .u64 s, .int .u64 n, .int .i64 c, .int .i64 h, .slice a L cap]] w fun e w' => e = .returned (.bool (decide (Fill L))) ∧ Below w.heap.size w w') := fun w => filled_any w k s n c h a L cap
  have HX := hid ((Below.refl w.heap.size w).alloc (Nat.le_refl _) (.cells #[.int .i64 k, .int .u64 s, .int .u64 n, .int .i64 c, .int .i64 h, .slice a L cap] 41))
  have HQ := hid (fat_new w k s n c h (.slice a L cap))
  go_enter Try.func48, Try.ntmps48
  go_wp2_with (first | (go_at_call 33; refine (HN.out _).mono ?_; rintro e w1 ⟨rfl, hb1⟩; have HB1 := hid (HX.out.trans (hb1.mono HX.out.size)); have F1 := hid (HQ.out.kept hb1); obtain ⟨a0, a1, a2, a3, a4, a5⟩ := F1.out; clear hb1) | (go_at_call 35; refine (HC.out _).mono ?_; rintro e w2 ⟨rfl, hb2⟩; have HB2 := hid (HB1.out.trans (hb2.mono HB1.out.size)); obtain ⟨b0, b1, b2, b3, b4, b5⟩ := F1.out.kept hb2; clear hb2) | (go_at_call 37; refine (HH.out _).mono ?_; rintro e w3 ⟨rfl, hb3⟩; have HB3 := hid (HB2.out.trans (hb3.mono HB2.out.size)); clear hb3) | (go_at_call 39; refine (HF.out _).mono ?_; rintro e w2 ⟨rfl, hb2⟩; have HB2 := hid (HB1.out.trans (hb2.mono HB1.out.size)); clear hb2))
  all_goals
    go_ret
    refine ⟨ret_b ?_, by first | exact HB3.out | exact HB2.out | exact HB1.out | exact HX.out⟩
    unfold Bnd
    first | (simp [*]; done) | (simp_all; done) | (simp_all; omega)
set_option maxHeartbeats 1000000 in
theorem bare_any : Calls Try.prog 49 #[.agg #[.int .i64 k, .int .u64 s, .int .u64 n, .int .i64 c, .int .i64 h, .slice a L cap]] w fun e w' => e = .returned (.bool (decide (Bare k s n c h L))) ∧ Below w.heap.size w w' := by
  have HS := hid (fun w => hasS_any w k)
  have HN := hid (fun w => hasN_any w k)
  have HX : Hid (Below w.heap.size w (w.alloc (.cells #[.int .i64 k, .int .u64 s, .int .u64 n, .int .i64 c, .int .i64 h, .slice a L cap] 41))) := (Below.refl _ _).alloc (Nat.le_refl _) _
  go_enter Try.func49, Try.ntmps49
  go_wp2_with (first | (go_at_call 50; refine (HS.out _).mono ?_; rintro e w' ⟨rfl, rfl⟩) | (go_at_call 52; refine (HN.out _).mono ?_; rintro e w' ⟨rfl, rfl⟩))
  all_goals
    go_ret
    refine ⟨ret_b ?_, (Below.refl _ _).alloc (Nat.le_refl _) _⟩
    unfold Bare
    first | (simp [*]; done) | (simp [*]; omega) | (simp_all; done) | (simp_all; omega)
end
end Go.Proofs.Ytkhogbnoincbeab
