import Derived.Test.YtkhogbnoincbeabREnc
namespace Go.Proofs.Ytkhogbnoincbeab
open Go.RowKit Go.Maps Go.Sort
set_option maxRecDepth 100000

theorem own_some {w : World} {base : Nat} {v : Value} {l : List (BitVec 8)} (h : OwnBy w base v l) (hl : 0 < l.length) : ∃ g cap, v = .slice (some ⟨g, 0, none⟩) l.length cap ∧ base ≤ g ∧ l.length ≤ cap ∧ cap ≤ maxLen ∧ BytesAt w (some ⟨g, 0, none⟩) l := by
  obtain ⟨a, cap, rfl, hB, h1, h2, h3, h4⟩ := ownBy_shape h
  obtain ⟨g, o, rfl, _⟩ := hB 0 hl
  obtain ⟨h5, rfl, _⟩ := h4 g o rfl
  exact ⟨g, cap, rfl, h5, h1, h2, hB⟩
theorem BytesAt.take {w : World} {a : Option Addr} {l m : List (BitVec 8)} (h : BytesAt w a (l ++ m)) : BytesAt w a l := fun k hk => by
  obtain ⟨g, o, e, c⟩ := h k (by simp; omega)
  exact ⟨g, o, e, by rw [c, List.getElem_append_left hk]⟩
theorem psame_yes {w : World} {a a' : Option Addr} {n n' c c' : Nat} {bs : List (BitVec 8)} (hx : BytesAt w a bs) (hn : bs.length = n) (hy : BytesAt w a' bs) (hn' : bs.length = n') :
    Calls Try.prog 9 #[.slice a n c, .slice a' n' c'] w fun e w' => e = .returned (.bool true) ∧ w' = w := by
  refine (psame_any hx hn hy hn').mono ?_
  rintro e w' ⟨rfl, rfl⟩
  exact ⟨by simp, rfl⟩
theorem own_frozen {w : World} {base : Nat} {v : Value} {l : List (BitVec 8)} {g n cap : Nat} (h : w.ownsRow base 5 1 v n (bcells l)) (e : v = .slice (some ⟨g, 0, none⟩) n cap) (i : Nat) : w.frozen? ⟨g, i, none⟩ = false := by
  rcases h.2 with ⟨h1, _⟩ | ⟨g', cap', cur, h1, _, h2, _⟩
  · rw [e] at h1; simp at h1
  · rw [e] at h1
    simp at h1
    obtain ⟨rfl, rfl⟩ := h1
    simp [World.frozen?, h2]
theorem own_cell {w : World} {base g n cap : Nat} {l : List (BitVec 8)} (h : w.ownsRow base 5 1 (.slice (some ⟨g, 0, none⟩) n cap) n (bcells l)) (hl : l.length = n) (i : Nat) (hi : i < n) : ∃ x : BitVec 8, w.cell? ⟨g, i, none⟩ = some (.int .u8 (ub x)) := by
  subst hl
  obtain ⟨a', c', e, h1, _⟩ := ownBy_shape h
  injection e with e1 e2 e3
  subst e1
  obtain ⟨g1, o1, e1, c1⟩ := h1 i hi
  cases e1
  rw [Nat.zero_add] at c1
  exact ⟨_, c1⟩
/-- A row of bytes whose contents do not matter. -/
def AnyRow (w : World) (base g n cap : Nat) : Prop := ∃ l : List (BitVec 8), l.length = n ∧ w.ownsRow base 5 1 (.slice (some ⟨g, 0, none⟩) n cap) n (bcells l)
theorem AnyRow.put {w : World} {base g n cap : Nat} (h : AnyRow w base g n cap) (i : Nat) (x : BitVec 8) (v : Value) (hv : v = .int .u8 (ub x)) : AnyRow (w.setCell ⟨g, i, none⟩ v) base g n cap ∧ w.grownBy (w.setCell ⟨g, i, none⟩ v) (some g) := by
  obtain ⟨l, hl, ho⟩ := h
  subst hv
  obtain ⟨h2, hg⟩ := ho.stored i (.int .u8 (ub x))
  rw [bcells_set] at h2
  exact ⟨⟨l.set i x, by rw [List.length_set]; exact hl, h2⟩, hg⟩
theorem AnyRow.cell {w : World} {base g n cap : Nat} (h : AnyRow w base g n cap) (i : Nat) (hi : i < n) : (∃ x : BitVec 8, w.cell? ⟨g, i, none⟩ = some (.int .u8 (ub x))) ∧ w.frozen? ⟨g, i, none⟩ = false := by
  obtain ⟨l, hl, ho⟩ := h
  exact ⟨own_cell ho hl i hi, own_frozen ho rfl i⟩
theorem grown_fr {w w' : World} {g : Nat} (h : w.grownBy w' (some g)) : Fr (fun x => x = g) w w' := Fr.of_grown h (fun k hk => by simp at hk; exact .inl hk.symm)
theorem BytesAt.fr {S : Nat → Prop} {w w' : World} {a : Option Addr} {bs : List (BitVec 8)} (h : BytesAt w a bs) (hf : Fr S w w') (hS : ∀ g o, a = some ⟨g, o, none⟩ → ¬ S g) : BytesAt w' a bs :=
  fun k hk => by obtain ⟨g, o, e, c⟩ := h k hk; exact ⟨g, o, e, hf.cell c (hS g o e)⟩
end Go.Proofs.Ytkhogbnoincbeab
