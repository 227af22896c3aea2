import Derived.Test.YtapggdkofdlmlaaSame
namespace Go.Proofs.Ytapggdkofdlmlaa
open Go.RowKit Go.Sort
set_option maxRecDepth 100000

theorem Row.ne {w : World} {g g' : Nat} {c c' : List Value} {t t' : TypeId} (h : Row w g c t) (k : Row w g' c' t') (hne : t ≠ t') : g ≠ g' := by
  rintro rfl
  have := h.at_.symm.trans k.at_
  simp only [Option.some.injEq, Obj.cells.injEq] at this
  exact hne this.2.1
def up2 {α : Type} (f : Bool → α) (c : Bool) (x : α) : Bool → α := fun d => if d = c then x else f d
theorem up2_at {α : Type} (f : Bool → α) (c : Bool) (x : α) : up2 f c x c = x := by unfold up2; rw [if_pos rfl]
theorem up2_off {α : Type} (f : Bool → α) (c d : Bool) (x : α) (h : d ≠ c) : up2 f c x d = f d := by unfold up2; rw [if_neg h]
/-- Two of the program's, two of the document's, and the two lists of them. -/
structure Pl (W w : World) (g r : Bool → Nat) (A B : Nat) (E F : Bool → Es) (n : Bool → Nat) : Prop where
  est : ∀ c, One W w (g c) (E c)
  ref : ∀ c, RefAt w (r c) (F c) (n c)
  fok : ∀ c, (F c).Ok
  rge : ∀ c, W.heap.size ≤ r c
  gne : g false ≠ g true
  rne : r false ≠ r true
  a : Row w A [.pointer (some ⟨g false, 0, none⟩), .pointer (some ⟨g true, 0, none⟩)] 38
  b : Row w B [.pointer (some ⟨r false, 0, none⟩), .pointer (some ⟨r true, 0, none⟩)] 42
section
variable {W w w' : World} {g r : Bool → Nat} {A B : Nat} {E F : Bool → Es} {n : Bool → Nat}
theorem ne_of_ends {g : Bool → Nat} (h : g false ≠ g true) {c d : Bool} (hd : d ≠ c) : g d ≠ g c := by
  cases c <;> cases d <;> first | exact absurd rfl hd | exact h | exact h.symm
theorem Pl.kept (p : Pl W w g r A B E F n) (hb : Below w.heap.size w w') : Pl W w' g r A B E F n :=
  ⟨fun c => (p.est c).kept hb, fun c => (p.ref c).kept hb, p.fok, p.rge, p.gne, p.rne, p.a.kept hb p.a.lt, p.b.kept hb p.b.lt⟩
theorem Pl.drawn (p : Pl W w g r A B E F n) (k : Nat) : Pl W { w with drawn := k } g r A B E F n := p.kept (below_drawn (Below.refl _ _) k)
theorem Pl.bel (p : Pl W w g r A B E F n) : Below W.heap.size W w := (p.est false).bel
theorem Pl.cellA (p : Pl W w g r A B E F n) (c : Bool) : w.cell? ⟨A, c.toNat, none⟩ = some (.pointer (some ⟨g c, 0, none⟩)) := by
  cases c
  · exact p.a.cell 0 _ rfl
  · exact p.a.cell 1 _ rfl
theorem Pl.cellB (p : Pl W w g r A B E F n) (c : Bool) : w.cell? ⟨B, c.toNat, none⟩ = some (.pointer (some ⟨r c, 0, none⟩)) := by
  cases c
  · exact p.b.cell 0 _ rfl
  · exact p.b.cell 1 _ rfl
theorem Pl.est_to (p : Pl W w g r A B E F n) (c : Bool) {X : Es} (h1 : One W w' (g c) X) (h2 : Only [g c] w w') : Pl W w' g r A B (up2 E c X) F n := by
  refine ⟨fun d => ?_, fun d => ⟨h2.row (p.ref d).row ?_, (p.ref d).s⟩, p.fok, p.rge, p.gne, p.rne, h2.row p.a ?_, h2.row p.b ?_⟩
  · by_cases hd : d = c
    · subst hd; rw [up2_at]; exact h1
    · rw [up2_off _ _ _ _ hd]
      exact (p.est c).other (p.est d) h2 (ne_of_ends p.gne hd)
  · simpa using (p.ref d).row.ne (p.est c).at_ (by decide)
  · simpa using p.a.ne (p.est c).at_ (by decide)
  · simpa using p.b.ne (p.est c).at_ (by decide)
theorem Pl.ref_to (p : Pl W w g r A B E F n) (c : Bool) {X : Es} {m : Nat} (h1 : RefAt w' (r c) X m) (hX : X.Ok) (h2 : Only [r c] w w') : Pl W w' g r A B E (up2 F c X) (up2 n c m) := by
  have hb : Below W.heap.size W w' := p.bel.trans (h2.below p.bel.size (fun x hx => by rw [List.mem_singleton.1 hx]; exact p.rge c))
  refine ⟨fun d => ⟨h2.row (p.est d).at_ ?_, (p.est d).ok, (p.est d).ge, hb⟩, fun d => ?_, fun d => ?_, p.rge, p.gne, p.rne, h2.row p.a ?_, h2.row p.b ?_⟩
  · simpa using Row.ne (p.est d).at_ (p.ref c).row (by decide)
  · by_cases hd : d = c
    · subst hd; rw [up2_at, up2_at]; exact h1
    · rw [up2_off _ _ _ _ hd, up2_off _ _ _ _ hd]
      exact ⟨h2.row (p.ref d).row (by simpa using ne_of_ends p.rne hd), (p.ref d).s⟩
  · by_cases hd : d = c
    · subst hd; rw [up2_at]; exact hX
    · rw [up2_off _ _ _ _ hd]; exact p.fok d
  · simpa using p.a.ne (p.ref c).row (by decide)
  · simpa using p.b.ne (p.ref c).row (by decide)
theorem Pl.sample (p : Pl W w g r A B E F n) (c : Bool) {ms : Int} (h0 : 0 ≤ ms) : Calls Try.prog 9 #[.pointer (some ⟨g c, 0, none⟩), .int .u64 ms] w fun e w' => e = .returned (.tuple #[]) ∧ Pl W w' g r A B (up2 E c ((E c).sample ms)) F n ∧ Only [g c] w w' :=
  ((p.est c).sample h0).mono fun _ _ ⟨he, h1, h2⟩ => ⟨he, p.est_to c h1 h2, h2⟩
theorem Pl.calm (p : Pl W w g r A B E F n) (c : Bool) : Calls Try.prog 14 #[.pointer (some ⟨g c, 0, none⟩)] w fun e w' => e = .returned (.tuple #[]) ∧ Pl W w' g r A B (up2 E c (E c).calm) F n :=
  (p.est c).calm.mono fun _ _ ⟨he, h1, h2⟩ => ⟨he, p.est_to c h1 h2⟩
theorem Pl.back (p : Pl W w g r A B E F n) (c : Bool) : Calls Try.prog 13 #[.pointer (some ⟨g c, 0, none⟩)] w fun e w' => e = .returned (.tuple #[]) ∧ Pl W w' g r A B (up2 E c (E c).back) F n :=
  (p.est c).back.mono fun _ _ ⟨he, h1, h2⟩ => ⟨he, p.est_to c h1 h2⟩
theorem Pl.rsample (p : Pl W w g r A B E F n) (c : Bool) {ms : Int} (h0 : 0 ≤ ms) (hn : n c ≤ 140737488355328) : Calls Try.prog 18 #[.pointer (some ⟨r c, 0, none⟩), .int .u64 ms] w fun e w' => e = .returned (.tuple #[]) ∧ Pl W w' g r A B E (up2 F c ((F c).sample ms)) (up2 n c (n c + 1)) :=
  (rsample_any (p.ref c) (p.fok c) hn h0).mono fun _ _ ⟨he, h1, h2⟩ => ⟨he, p.ref_to c h1 ((p.fok c).sample h0) h2⟩
theorem up2_self {α : Type} (f : Bool → α) (c : Bool) : up2 f c (f c) = f := by
  funext d
  unfold up2
  split
  · next h => rw [h]
  · rfl
theorem Pl.rcalm (p : Pl W w g r A B E F n) (c : Bool) : Calls Try.prog 20 #[.pointer (some ⟨r c, 0, none⟩)] w fun e w' => e = .returned (.tuple #[]) ∧ Pl W w' g r A B E (up2 F c (F c).calm) n :=
  (rcalm_any (p.ref c)).mono fun _ _ ⟨he, h1, h2⟩ => ⟨he, by have := p.ref_to c h1 (p.fok c).calm h2; rwa [up2_self n c] at this⟩
theorem Pl.rback (p : Pl W w g r A B E F n) (c : Bool) : Calls Try.prog 19 #[.pointer (some ⟨r c, 0, none⟩)] w fun e w' => e = .returned (.tuple #[]) ∧ Pl W w' g r A B E (up2 F c (F c).back) n :=
  (rback_any (p.ref c) (p.fok c).b0 (p.fok c).b1).mono fun _ _ ⟨he, h1, h2⟩ => ⟨he, by have := p.ref_to c h1 (p.fok c).back h2; rwa [up2_self n c] at this⟩
theorem Pl.same (p : Pl W w g r A B E E n) (c : Bool) : Calls Try.prog 17 #[.pointer (some ⟨g c, 0, none⟩), .pointer (some ⟨r c, 0, none⟩)] w fun e w' => e = .returned (.bool true) ∧ Pl W w' g r A B E E n :=
  (same_any (p.est c).at_ (p.ref c) (p.est c).ok).mono fun _ _ ⟨he, h1⟩ => ⟨he, p.kept h1⟩
end
end Go.Proofs.Ytapggdkofdlmlaa
