import Derived.Test.YtjnmfedefmemnaaAct2
namespace Go.Proofs.Ytjnmfedefmemnaa
open Go.RowKit Go.Maps
set_option maxRecDepth 100000

/-- What act answers: a frame if it was a Take that found one, else nothing. -/
structure ActSays (w w' : World) (D : Dat) (n : Nat) (o : OpV) (a : Option Addr) (m : Nat) (b got : Bool) : Prop where
  says : got = true ↔ o.kind = 2 ∧ D.err n o.path o.dir o.k true = 0
  nought : got = false → a = none ∧ m = 0 ∧ b = false
  frame : got = true → m = (D.at o.path o.dir o.k).1.length ∧ b = sp (D.at o.path o.dir o.k).2 m ∧ ∃ g', a = some ⟨g', 0, none⟩ ∧ w.heap.size ≤ g' ∧ Row w' g' (bcells (xorT (D.at o.path o.dir o.k).1 (D.at o.path o.dir o.k).2)) 5
section
variable {B B' : Nat} {w w' : World} {p g n K p' g' n' K' : Nat} {vs vs' us : Nat → Nat → Value} {fr fr' er : Nat → Nat → List Fr} {D D' : Dat}
theorem act_any (h : NetP B w p g n vs fr K D) (o : OpV) (hF : BytesAt w o.fa o.frame) (hm : o.frame.length ≤ 140737488351232) (hK : K < 281474976710656) :
    Calls Try.prog 22 #[.pointer (some ⟨p, 0, none⟩), .agg o.cells.toArray] w fun e w' => ∃ a m b got, e = .returned (.tuple #[.agg #[.slice a m m, .bool b], .bool got]) ∧ ActSays w w' D n o a m b got ∧ ∃ vs' fr', NetP B w' p g n vs' fr' (K + 1) (D.act n o) ∧ Stays w w' g n vs vs' fr fr' := by
  have no : ∀ w', o.kind ≠ 2 → ActSays w w' D n o none 0 false false := fun w' h2 => ⟨⟨(fun e => by cases e), fun e => absurd e.1 h2⟩, fun _ => ⟨rfl, rfl, rfl⟩, (fun e => by cases e)⟩
  unfold Dat.act
  by_cases h1 : o.kind = 1
  · rw [if_pos h1]
    refine (act_put h o hF hm h1).mono ?_
    rintro e w' ⟨rfl, vs', fr', hn, hs⟩
    exact ⟨_, _, _, _, rfl, no w' (by omega), vs', fr', hn.more (Nat.le_succ K), hs⟩
  rw [if_neg h1]
  by_cases h2 : o.kind = 2
  · rw [if_pos h2]
    refine (act_take h o h2).mono ?_
    rintro e w' ⟨a, m, b, er, rfl, ⟨e1, e2, e3⟩, vs', fr', hn, hs⟩
    refine ⟨_, _, _, _, rfl, ⟨⟨fun e => ⟨h2, by rw [← e1]; simpa using e⟩, fun e => by rw [e1, e.2]; rfl⟩, fun e => e2 (by simpa using e), fun e => e3 (by simpa using e)⟩, vs', fr', hn.more (Nat.le_succ K), hs⟩
  rw [if_neg h2]
  by_cases h3 : o.kind = 3
  · rw [if_pos h3]
    refine (act_drop h o h3).mono ?_
    rintro e w' ⟨rfl, vs', fr', hn, hs⟩
    exact ⟨_, _, _, _, rfl, no w' h2, vs', fr', hn.more (Nat.le_succ K), hs⟩
  rw [if_neg h3]
  by_cases h4 : o.kind = 4
  · rw [if_pos h4]
    refine (act_double h o h4).mono ?_
    rintro e w' ⟨rfl, vs', fr', hn, hs⟩
    exact ⟨_, _, _, _, rfl, no w' h2, vs', fr', hn.more (Nat.le_succ K), hs⟩
  rw [if_neg h4]
  by_cases h5 : o.kind = 5
  · rw [if_pos h5]
    refine (act_spoil h o hK h5).mono ?_
    rintro e w' ⟨rfl, vs', fr', hn, hs⟩
    exact ⟨_, _, _, _, rfl, no w' h2, vs', fr', hn, hs⟩
  rw [if_neg h5]
  by_cases h6 : o.kind = 6
  · rw [if_pos h6]
    refine (act_set h o h6).mono ?_
    rintro e w' ⟨rfl, vs', fr', hn, hs⟩
    exact ⟨_, _, _, _, rfl, no w' h2, vs', fr', hn.more (Nat.le_succ K), hs⟩
  rw [if_neg h6]
  refine (act_other h o (by omega)).mono ?_
  rintro e w' ⟨rfl, vs', fr', hn, hs⟩
  exact ⟨_, _, _, _, rfl, no w' h2, vs', fr', hn.more (Nat.le_succ K), hs⟩
/-- Two nets that own nothing together: a call of the one leaves the other. -/
def Apart2 (g n : Nat) (vs : Nat → Nat → Value) (fr : Nat → Nat → List Fr) (g' n' : Nat) (us : Nat → Nat → Value) (er : Nat → Nat → List Fr) : Prop := ∀ x, Owned g n vs fr x → ¬ Owned g' n' us er x
theorem NetP.beside (h : NetP B w p g n vs fr K D) (hs : Stays w w' g n vs vs' fr fr') (h2 : NetP B' w p' g' n' us er K' D') (ha : Apart2 g n vs fr g' n' us er) : NetP B' w' p' g' n' us er K' D' ∧ Apart2 g n vs' fr' g' n' us er := by
  obtain ⟨c, hG, _⟩ := h
  obtain ⟨c2, hG2, hD2⟩ := h2
  obtain ⟨S, ho, hS⟩ := hs.only
  refine ⟨⟨c2, hG2.far ho (fun x hx => ha x (hS x hx)) (fun x hx cc t r => ?_), hD2⟩, fun x hx hx2 => ?_⟩
  · rcases hG.types (hS x hx) r with rfl | rfl | rfl <;> decide
  · rcases hs.own x hx with h1 | h1
    · exact ha x h1 hx2
    · have := hG2.lt hx2; omega
end
end Go.Proofs.Ytjnmfedefmemnaa
