import Derived.Test.YtjpllcliehgnfaaDoorJ4
namespace Go.Proofs.YtjpllcliehgnfaaDoor
open Go.RowKit
set_option maxRecDepth 100000

/-! What the slots of a drawn statement hold. -/
def Sps (L : List (Value → World → Prop)) (i : Nat) (v : Value) (w : World) : Prop := ∃ f, L[i]? = some f ∧ f v w
def Keeps (f : Value → World → Prop) : Prop := ∀ v w w', Below w.heap.size w w' → f v w → f v w'
theorem Sps.get {L : List (Value → World → Prop)} {i : Nat} {v : Value} {w : World} {f : Value → World → Prop} (h : Sps L i v w) (e : L[i]? = some f) : f v w := by
  obtain ⟨g, e2, hg⟩ := h
  rw [e] at e2
  cases e2
  exact hg
theorem Sps.kept {L : List (Value → World → Prop)} (hL : ∀ f ∈ L, Keeps f) {w w' : World} (hb : Below w.heap.size w w') {i : Nat} {v : Value} (h : Sps L i v w) : Sps L i v w' := by
  obtain ⟨g, e, hg⟩ := h
  exact ⟨g, e, hL g (List.mem_of_getElem? e) v w w' hb hg⟩
def Is (x v : Value) (_ : World) : Prop := v = x
theorem keeps_is (x : Value) : Keeps (Is x) := fun _ _ _ _ h => h
def Own (B : Nat) (bs : List (BitVec 8)) (v : Value) (w : World) : Prop := OwnB w B v bs
theorem keeps_own (B : Nat) (bs : List (BitVec 8)) : Keeps (Own B bs) := fun _ _ _ hb h => OwnB.kept h hb
def Two (x y : List (BitVec 8)) (v : Value) (w : World) : Prop := ∃ g, v = .slice (some ⟨g, 0, none⟩) 2 2 ∧ PartsC w (some ⟨g, 0, none⟩) [x, y]
theorem keeps_two (x y : List (BitVec 8)) : Keeps (Two x y) := fun _ _ _ hb ⟨g, e, h⟩ => ⟨g, e, h.kept hb⟩
def NewR (B : Nat) (c : List Value) (t : TypeId) (v : Value) (w : World) : Prop := ∃ g, v = .pointer (some ⟨g, 0, none⟩) ∧ B ≤ g ∧ Row w g c t
theorem keeps_newR (B : Nat) (c : List Value) (t : TypeId) : Keeps (NewR B c t) := fun _ _ _ hb ⟨g, e, h1, h2⟩ => ⟨g, e, h1, h2.kept hb h2.lt⟩
/-- A frame with a Mac of its own. -/
def FrO (B : Nat) (k p : Int) (non : BitVec 32) (bs : List (BitVec 8)) (v : Value) (w : World) : Prop := ∃ m, v = frV k p 0#32 non m false ∧ OwnB w B m bs
theorem keeps_frO (B : Nat) (k p : Int) (non : BitVec 32) (bs : List (BitVec 8)) : Keeps (FrO B k p non bs) := fun _ _ _ hb ⟨m, e, h⟩ => ⟨m, e, OwnB.kept h hb⟩
theorem ownB_set {w : World} {B : Nat} {v : Value} {bs : List (BitVec 8)} (h : OwnB w B v bs) {k : Nat} (hk : k < B) (cs : Array Value) : OwnB (w.setRow k cs) B v bs := by
  refine ⟨h.1, ?_⟩
  rcases h.2 with e | ⟨g, cap, cur, hv, h1, hg, h2⟩
  · exact .inl e
  · exact .inr ⟨g, cap, cur, hv, h1, by rw [setRow_other w k g _ (by omega)]; exact hg, h2⟩
theorem frC_one (k p : Int) (tok non : BitVec 32) (s : Option Addr) (n c : Nat) (bk : Bool) : ∀ v ∈ frC k p tok non (.slice s n c) bk, v.oneCell' = true := by
  intro v hv
  simp [frC] at hv
  rcases hv with rfl | rfl | rfl | rfl | rfl | rfl | rfl | rfl | rfl <;> rfl
def frZ : List Value := frC 0 0 0#32 0#32 (.slice none 0 0) false
end Go.Proofs.YtjpllcliehgnfaaDoor
