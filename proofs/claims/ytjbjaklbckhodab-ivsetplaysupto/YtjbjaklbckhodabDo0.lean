import Derived.Test.YtjbjaklbckhodabMeets1
import Derived.Test.YtjbjaklbckhodabIsSet
import Derived.Test.YtjbjaklbckhodabRMiss
import Derived.Test.YtjbjaklbckhodabRHas
import Derived.Test.YtjbjaklbckhodabForm
import Derived.Deep.RegionHeld3
namespace Go.Proofs.Ytjbjaklbckhodab
open Go.RowKit
set_option maxRecDepth 100000

/-- A set and the document's list of it. -/
structure PSt (B : Nat) (w : World) (p : Nat) (v : Value) (b : Option Addr) (c : Nat) (L : List Rg) : Prop where
  set : SetAt w p v L
  fit : Fit L
  row : w.ownsRow B 25 2 (.slice b L.length c) L.length (flat L)
  at_ : B ≤ p
  vrow : ∀ x, v.ownBlock = some x → B ≤ x
  apart : ∀ x, v.ownBlock = some x → (Value.slice b L.length c).ownBlock ≠ some x
/-- Of what was there nothing has turned but the set at p and its row; what is new lies behind. -/
structure Moved (w w' : World) (p : Nat) (v l : Value) (p' : Nat) (v' l' : Value) : Prop where
  os : w'.os = w.os
  tape : w'.tape = w.tape
  output : w'.output = w.output
  size : w.heap.size ≤ w'.heap.size
  block : ∀ k, k < w.heap.size → k ≠ p → some k ≠ v.ownBlock → w'.heap[k]? = w.heap[k]?
  pp : p' = p ∨ w.heap.size ≤ p'
  vv : ∀ x, v'.ownBlock = some x → v.ownBlock = some x ∨ w.heap.size ≤ x
  ll : ∀ x, l'.ownBlock = some x → l.ownBlock = some x ∨ w.heap.size ≤ x
/-- What one call of the law's do gives. -/
def DoAns (B : Nat) (w w' : World) (p : Nat) (v l : Value) (n : Nat) (e : Ending) : Prop :=
  ∃ (p' : Nat) (v' : Value) (b' : Option Addr) (c' : Nat) (L' : List Rg), e = .returned (.tuple #[.pointer (some ⟨p', 0, none⟩), .slice b' L'.length c', .bool true]) ∧ PSt B w' p' v' b' c' L' ∧ Moved w w' p v l p' v' (.slice b' L'.length c') ∧ L'.length ≤ n + 1
theorem PSt.lt {B : Nat} {w : World} {p : Nat} {v : Value} {b : Option Addr} {c : Nat} {L : List Rg} (S : PSt B w p v b c L) : B ≤ w.heap.size := Nat.le_trans S.at_ (Nat.le_of_lt S.set.lt.1)
theorem PSt.kept {B : Nat} {w w' : World} {p : Nat} {v : Value} {b : Option Addr} {c : Nat} {L : List Rg} (S : PSt B w p v b c L) (hb : Below w.heap.size w w') : PSt B w' p v b c L := ⟨S.set.kept hb, S.fit, own_below S.row hb, S.at_, S.vrow, S.apart⟩
theorem PSt.view {B : Nat} {w : World} {p : Nat} {v : Value} {b : Option Addr} {c : Nat} {L : List Rg} (S : PSt B w p v b c L) (hf : L.length ≤ 2097152) : ∃ a cap, v = .slice a L.length cap ∧ View w p a cap L := S.set.view (by omega)
theorem PSt.cells {B : Nat} {w : World} {p : Nat} {v : Value} {b : Option Addr} {c : Nat} {L : List Rg} (S : PSt B w p v b c L) : Cells w b L := own_cells_at S.row
/-- The set's own block is no row of stretches. -/
theorem set_no_row {w : World} {p B n g : Nat} {v u : Value} {L : List Rg} {xs : List Value} (S : SetAt w p v L) (h : w.ownsRow B 25 2 u n xs) (hg : u.ownBlock = some g) : g ≠ p := by
  rcases h.2 with ⟨rfl, _⟩ | ⟨g', cap, cur, rfl, _, h2, _⟩
  · simp [Value.ownBlock] at hg
  · simp only [Value.ownBlock, Option.some.injEq] at hg
    subst hg
    rintro rfl
    rw [S.hp] at h2
    simp at h2
theorem Moved.of_below {w w' : World} {p : Nat} {v l : Value} (hb : Below w.heap.size w w') : Moved w w' p v l p v l := ⟨hb.os, hb.tape, hb.output, hb.size, fun k hk _ _ => hb.block k hk, .inl rfl, fun _ h => .inl h, fun _ h => .inl h⟩
/-- Nothing but new memory: the set and the list are what they were. -/
theorem do_same {B : Nat} {w w' : World} {p : Nat} {v : Value} {b : Option Addr} {c : Nat} {L : List Rg} (S : PSt B w p v b c L) (hb : Below w.heap.size w w') (e : Ending) (he : e = .returned (.tuple #[.pointer (some ⟨p, 0, none⟩), .slice b L.length c, .bool true])) : DoAns B w w' p v (.slice b L.length c) L.length e :=
  ⟨p, v, b, c, L, he, S.kept hb, Moved.of_below hb, by omega⟩
/-- The set was turned behind some new memory, and the new list lies in a row of its own. -/
theorem do_turned {B : Nat} {w w1 w2 w3 : World} {p : Nat} {v v' : Value} {b b' : Option Addr} {c c' : Nat} {L L' : List Rg} (S : PSt B w p v b c L) (hb1 : Below w.heap.size w w1) (S2 : SetAt w2 p v' L') (T : Turned w1 w2 p v v') (hb3 : Below w2.heap.size w2 w3) (F : Fit L')
    (hn : w1.ownsRow w.heap.size 25 2 (.slice b' L'.length c') L'.length (flat L')) (hl : L'.length ≤ L.length + 1) (e : Ending) (he : e = .returned (.tuple #[.pointer (some ⟨p, 0, none⟩), .slice b' L'.length c', .bool true])) : DoAns B w w3 p v (.slice b L.length c) L.length e := by
  have hv : ∀ x, v.ownBlock = some x → x < w.heap.size := S.set.lt.2
  have hp := S.set.lt.1
  have hB := S.lt
  have hnew : ∀ x, (Value.slice b' L'.length c').ownBlock = some x → w.heap.size ≤ x := fun x hx => own_ge hn hx
  have hnl : ∀ x, (Value.slice b' L'.length c').ownBlock = some x → x < w1.heap.size := fun x hx => (hn.lt x hx).2
  have hn2 : w2.ownsRow w.heap.size 25 2 (.slice b' L'.length c') L'.length (flat L') := own_turned hn T (fun g hg => ⟨by have := hnew g hg; omega, fun e => by have := hv g e.symm; have := hnew g hg; omega⟩)
  have hv' : ∀ x, v'.ownBlock = some x → v.ownBlock = some x ∨ w1.heap.size ≤ x := by
    intro x hx
    rcases T.row with h | ⟨g, h, hg⟩
    · exact .inl (h ▸ hx)
    · rw [h] at hx; simp only [Option.some.injEq] at hx; exact .inr (by omega)
  have hs1 := hb1.size
  refine ⟨p, v', b', c', L', he, ⟨S2.kept hb3, F, owns_mono (own_below hn2 hb3) hB, S.at_, ?_, ?_⟩, ⟨hb3.os.trans (T.os.trans hb1.os), hb3.tape.trans (T.tape.trans hb1.tape), hb3.output.trans (T.output.trans hb1.output), Nat.le_trans hs1 (Nat.le_trans T.size hb3.size), ?_, .inl rfl, ?_, fun x hx => .inr (hnew x hx)⟩, hl⟩
  · intro x hx
    rcases hv' x hx with h | h
    · exact S.vrow x h
    · omega
  · intro x hx hx2
    have h1 := hnew x hx2
    have h2 := hnl x hx2
    rcases hv' x hx with h | h
    · have := hv x h; omega
    · omega
  · intro k hk h1 h2
    rw [hb3.block k (by have := T.size; omega), T.block k (by omega) h1 h2, hb1.block k hk]
  · intro x hx
    rcases hv' x hx with h | h
    · exact .inl h
    · exact .inr (by omega)
end Go.Proofs.Ytjbjaklbckhodab
