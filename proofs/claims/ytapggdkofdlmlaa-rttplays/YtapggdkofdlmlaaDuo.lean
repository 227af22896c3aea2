import Derived.Test.YtapggdkofdlmlaaRto
namespace Go.Proofs.Ytapggdkofdlmlaa
open Go.RowKit Go.Sort
set_option maxRecDepth 100000

def CellsAt (w : World) (a : Option Addr) (xs : List Value) : Prop := ∀ k (h : k < xs.length), ∃ g o, a = some ⟨g, o, none⟩ ∧ w.cell? ⟨g, o + k, none⟩ = some xs[k]
theorem CellsAt.kept {w w' : World} {a : Option Addr} {xs : List Value} (h : CellsAt w a xs) (hb : Below w.heap.size w w') : CellsAt w' a xs := fun k hk => by
  obtain ⟨g, o, e, c⟩ := h k hk
  exact ⟨g, o, e, cell_kept hb c⟩
/-- An Est of its own, above what was there. -/
structure One (W w : World) (g : Nat) (E : Es) : Prop where
  at_ : EstAt w g E
  ok : E.Ok
  ge : W.heap.size ≤ g
  bel : Below W.heap.size W w
section
variable {W w w' : World} {g h : Nat} {E F : Es}
theorem One.kept (o : One W w g E) (hb : Below w.heap.size w w') : One W w' g E := ⟨o.at_.kept hb, o.ok, o.ge, o.bel.trans (hb.mono o.bel.size)⟩
theorem One.only (o : One W w g E) (ho : Only [g] w w') : Below W.heap.size W w' := o.bel.trans (ho.below o.bel.size (fun x hx => by rw [List.mem_singleton.1 hx]; exact o.ge))
theorem One.other (o : One W w g E) (p : One W w h F) (ho : Only [g] w w') (hne : h ≠ g) : One W w' h F := ⟨ho.row p.at_ (by simpa using hne), p.ok, p.ge, o.only ho⟩
theorem one_new (hb : Below W.heap.size W w) : Calls Try.prog 8 #[] w fun e w' => e = .returned (.pointer (some ⟨w.heap.size, 0, none⟩)) ∧ One W w' w.heap.size Es.new ∧ Below w.heap.size w w' :=
  (fresh_any w).mono fun _ _ ⟨he, h1, h2⟩ => ⟨he, ⟨h1, Es.new_ok, hb.size, hb.trans (h2.mono hb.size)⟩, h2⟩
theorem One.sample (o : One W w g E) {ms : Int} (h0 : 0 ≤ ms) : Calls Try.prog 9 #[.pointer (some ⟨g, 0, none⟩), .int .u64 ms] w fun e w' => e = .returned (.tuple #[]) ∧ One W w' g (E.sample ms) ∧ Only [g] w w' :=
  (sample_any o.at_ o.ok h0).mono fun _ _ ⟨he, h1, h2⟩ => ⟨he, ⟨h1, o.ok.sample h0, o.ge, o.only h2⟩, h2⟩
def Es.calm (E : Es) : Es := { E with b := 0 }
def Es.back (E : Es) : Es := { E with b := min (E.b + 1) 16 }
theorem Es.Ok.calm (h : E.Ok) : E.calm.Ok := ⟨h.t0, h.t1, h.v0, h.v1, by simp [Es.calm], by simp [Es.calm], h.no⟩
theorem Es.Ok.back (h : E.Ok) : E.back.Ok := ⟨h.t0, h.t1, h.v0, h.v1, by have := h.b0; simp only [Es.back]; omega, by simp only [Es.back]; omega, h.no⟩
theorem One.calm (o : One W w g E) : Calls Try.prog 14 #[.pointer (some ⟨g, 0, none⟩)] w fun e w' => e = .returned (.tuple #[]) ∧ One W w' g E.calm ∧ Only [g] w w' :=
  (calm_any o.at_).mono fun _ _ ⟨he, h1, h2⟩ => ⟨he, ⟨h1, o.ok.calm, o.ge, o.only h2⟩, h2⟩
theorem One.back (o : One W w g E) : Calls Try.prog 13 #[.pointer (some ⟨g, 0, none⟩)] w fun e w' => e = .returned (.tuple #[]) ∧ One W w' g E.back ∧ Only [g] w w' :=
  (back_any o.at_ o.ok.b0 o.ok.b1).mono fun _ _ ⟨he, h1, h2⟩ => ⟨he, ⟨h1, o.ok.back, o.ge, o.only h2⟩, h2⟩
/-- Two of them. -/
structure Duo (W w : World) (g h : Nat) (E F : Es) : Prop where
  l : One W w g E
  r : One W w h F
  ne : g ≠ h
theorem Duo.turn (d : Duo W w g h E F) : Duo W w h g F E := ⟨d.r, d.l, d.ne.symm⟩
theorem Duo.kept (d : Duo W w g h E F) (hb : Below w.heap.size w w') : Duo W w' g h E F := ⟨d.l.kept hb, d.r.kept hb, d.ne⟩
theorem Duo.sample (d : Duo W w g h E F) {ms : Int} (h0 : 0 ≤ ms) : Calls Try.prog 9 #[.pointer (some ⟨g, 0, none⟩), .int .u64 ms] w fun e w' => e = .returned (.tuple #[]) ∧ Duo W w' g h (E.sample ms) F :=
  (d.l.sample h0).mono fun _ _ ⟨he, h1, h2⟩ => ⟨he, h1, d.l.other d.r h2 d.ne.symm, d.ne⟩
theorem Duo.calm (d : Duo W w g h E F) : Calls Try.prog 14 #[.pointer (some ⟨g, 0, none⟩)] w fun e w' => e = .returned (.tuple #[]) ∧ Duo W w' g h E.calm F :=
  (d.l.calm).mono fun _ _ ⟨he, h1, h2⟩ => ⟨he, h1, d.l.other d.r h2 d.ne.symm, d.ne⟩
theorem Duo.back (d : Duo W w g h E F) : Calls Try.prog 13 #[.pointer (some ⟨g, 0, none⟩)] w fun e w' => e = .returned (.tuple #[]) ∧ Duo W w' g h E.back F :=
  (d.l.back).mono fun _ _ ⟨he, h1, h2⟩ => ⟨he, h1, d.l.other d.r h2 d.ne.symm, d.ne⟩
theorem Duo.rto (d : Duo W w g h E F) : Calls Try.prog 12 #[.pointer (some ⟨g, 0, none⟩)] w fun e w' => e = .returned (.int .u64 E.rto) ∧ Duo W w' g h E F :=
  (rto_any d.l.at_ d.l.ok).mono fun _ _ ⟨he, h1⟩ => ⟨he, d.kept h1⟩
theorem Duo.srtt (d : Duo W w g h E F) : Calls Try.prog 10 #[.pointer (some ⟨g, 0, none⟩)] w fun e w' => e = .returned (.tuple #[.int .u64 (E.t / 8), .bool E.s]) ∧ Duo W w' g h E F :=
  (srtt_any d.l.at_ d.l.ok).mono fun _ _ ⟨he, h1⟩ => ⟨he, d.kept h1⟩
theorem Duo.var (d : Duo W w g h E F) : Calls Try.prog 11 #[.pointer (some ⟨g, 0, none⟩)] w fun e w' => e = .returned (.tuple #[.int .u64 (E.v / 4), .bool E.s]) ∧ Duo W w' g h E F :=
  (var_any d.l.at_ d.l.ok).mono fun _ _ ⟨he, h1⟩ => ⟨he, d.kept h1⟩
theorem duo_new (o : One W w g E) : Calls Try.prog 8 #[] w fun e w' => e = .returned (.pointer (some ⟨w.heap.size, 0, none⟩)) ∧ Duo W w' g w.heap.size E Es.new :=
  (one_new o.bel).mono fun _ _ ⟨he, h1, h2⟩ => ⟨he, o.kept h2, h1, Nat.ne_of_lt (Row.lt o.at_)⟩
end
/-- All samples of a list. -/
def Es.all (E : Es) (xs : List Int) : Es := xs.foldl Es.sample E
theorem Es.all_snoc (E : Es) (xs : List Int) (x : Int) : E.all (xs ++ [x]) = (E.all xs).sample x := by unfold Es.all; rw [List.foldl_append]; rfl
theorem take_snoc' {α : Type} (l : List α) (k : Nat) (h : k < l.length) : l.take (k + 1) = l.take k ++ [l[k]] := by rw [List.take_add_one, List.getElem?_eq_getElem h]; rfl
end Go.Proofs.Ytapggdkofdlmlaa
