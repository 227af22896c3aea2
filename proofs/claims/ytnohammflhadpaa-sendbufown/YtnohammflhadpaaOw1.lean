import Derived.Test.YtnohammflhadpaaOw0
import Derived.Test.YtnohammflhadpaaTx4
import Derived.Test.YtnohammflhadpaaIx4
import Derived.Test.YtnohammflhadpaaSb39
namespace Go.Proofs.Ytnohammflhadpaa
open Go.RowKit Go.Maps Go.Sort
set_option maxRecDepth 100000

/-- An open stream whose memory is all new. -/
structure OpS (w : World) (p : Nat) (F : Sb) (wr : World) : Prop where
  bf : ∃ S, Bf wr p F S ∧ ∀ y, S y → w.heap.size ≤ y
  cl : F.closed = false
  ac : F.acked ≤ F.end_
  bel : Below w.heap.size w wr
section
variable {w wr w' : World} {p : Nat} {F : Sb}
theorem OpS.kept (h : OpS w p F wr) (hb : Below wr.heap.size wr w') : OpS w p F w' := by
  obtain ⟨S, h1, h2⟩ := h.bf
  exact ⟨⟨S, h1.kept hb, h2⟩, h.cl, h.ac, h.bel.trans (hb.mono h.bel.size)⟩
theorem OpS.turn (h : OpS w p F wr) {S : Nat → Prop} (h2 : ∀ y, S y → w.heap.size ≤ y) {F' : Sb} (k1 : Bf w' p F' (grew S wr w')) (k2 : Fr S wr w') (hc : F'.closed = false) (ha : F'.acked ≤ F'.end_) : OpS w p F' w' := by
  refine ⟨⟨_, k1, fun y hy => ?_⟩, hc, ha, h.bel.trans (k2.below h2 h.bel.size)⟩
  rcases hy with hy | hy
  · exact h2 y hy
  · have := h.bel.size; omega
theorem OpS.write (h : OpS w p F wr) {y : Wt} (hy : y.Ok w) : Calls Try.prog 11 #[.pointer (some ⟨p, 0, none⟩), .slice y.a y.bs.length y.cap] wr fun e w' => (∃ n : Nat, e = .returned (.int .i64 n)) ∧ ∃ F', OpS w p F' w' := by
  obtain ⟨S, h1, h2⟩ := h.bf
  refine (write_B h1 h.cl h.ac (hy.by_.kept h.bel) y.bs.length y.cap rfl hy.lc hy.nm hy.z _ rfl).mono ?_
  rintro e w' ⟨rfl, F', k1, k2, k3⟩
  exact ⟨⟨_, rfl⟩, F', h.turn h2 k1 k2 (k3.closed.trans h.cl) (by have := h.ac; rw [k3.acked, k3.end_]; omega)⟩
theorem OpS.sent (h : OpS w p F wr) (x off : Int) : Calls Try.prog 17 #[.pointer (some ⟨p, 0, none⟩), .int .i64 x, .int .u64 off] wr fun e w' => (∃ b, e = .returned (.bool b)) ∧ ∃ F', OpS w p F' w' := by
  obtain ⟨S, h1, h2⟩ := h.bf
  refine (sent_B h1 h.ac x off).mono ?_
  rintro e w' ⟨hb, F', k1, k2, k3⟩
  exact ⟨hb, F', h.turn h2 k1 k2 (k3.closed.trans h.cl) k3.le⟩
/-- What Want and Next answer, told alike. -/
def LowU (w : World) (e : Ending) (w' : World) : Prop := ∃ (off len : Int) (fin : Bool) (a : Option Addr) (l : List Int) (c : Nat) (held ok : Bool), e = .returned (.tuple #[.agg #[.int .u64 off, .int .i64 len, .bool fin, .slice a l.length c, .bool held], .bool ok]) ∧ OwnI w' w.heap.size (.slice a l.length c) l ∧ l.length ≤ 8 ∧ Below w.heap.size w w'
theorem lowU_of {x : Option Ck} {e : Ending} (h : LowAns w x e w') : LowU w e w' := by
  obtain ⟨hb, hx⟩ := h
  cases x with
  | none => exact ⟨0, 0, false, none, [], 0, false, false, hx, ⟨rfl, .inl ⟨rfl, rfl⟩⟩, Nat.zero_le _, hb⟩
  | some c =>
    obtain ⟨s, rfl, hs⟩ := hx
    obtain ⟨a, cc, rfl⟩ := ownI_shape hs
    exact ⟨_, _, _, a, onUp c.on 8, cc, _, true, rfl, hs, onUp_len _ _, hb⟩
theorem OpS.want (h : OpS w p F wr) : Calls Try.prog 14 #[.pointer (some ⟨p, 0, none⟩)] wr (LowU wr) := by
  obtain ⟨S, ⟨a, cap, h1⟩, _⟩ := h.bf
  exact (want_any h1.sb.r).mono fun e w' h => lowU_of h
theorem OpS.next (h : OpS w p F wr) (x : Int) : Calls Try.prog 23 #[.pointer (some ⟨p, 0, none⟩), .int .i64 x] wr (LowU wr) := by
  obtain ⟨S, ⟨a, cap, h1⟩, _⟩ := h.bf
  exact (next_any h1.sb.r x).mono fun e w' h => lowU_of h
theorem OpS.chunks (h : OpS w p F wr) : Calls Try.prog 19 #[.pointer (some ⟨p, 0, none⟩)] wr fun e w' => ∃ v X, e = .returned v ∧ w'.ownsRow wr.heap.size 32 5 v F.L.length X ∧ ChZ w' wr.heap.size F.L X ∧ Below wr.heap.size wr w' := by
  obtain ⟨S, ⟨a, cap, h1⟩, _⟩ := h.bf
  exact chunks_lists h1.sb.r
theorem OpS.bytes (h : OpS w p F wr) {k : Nat} (hk : k < F.L.length) : Calls Try.prog 27 #[.pointer (some ⟨p, 0, none⟩), .int .u64 F.L[k].off] wr fun e w' => ∃ v, e = .returned v ∧ w'.ownsRow wr.heap.size 5 1 v F.L[k].bs.length (bcells F.L[k].bs) ∧ Below wr.heap.size wr w' := by
  obtain ⟨S, ⟨a, cap, h1⟩, _⟩ := h.bf
  exact bytes_own h1.sb.r hk
theorem OpS.ok (h : OpS w p F wr) : F.Ok := by
  obtain ⟨S, h1, _⟩ := h.bf
  exact h1.ok
theorem OpS.pos (h : OpS w p F wr) {k : Nat} (hk : k < F.L.length) : 0 < F.L[k].bs.length ∧ F.L[k].bs.length ≤ 65536 := by
  have h1 := h.ok.ck _ (List.getElem_mem hk)
  have h2 := h1.few (h.ok.cl h.cl _ (List.getElem_mem hk))
  have := h1.cap; have := h1.capm
  exact ⟨List.length_pos_iff.2 h2, by omega⟩
end
theorem ChZ.stay {w w' : World} {B : Nat} {L : List Ck} {X : List Value} (h : ChZ w B L X) (hs : Tx.Stay 3 w w') : ChZ w' B L X :=
  ⟨h.len, fun k hk => by
    obtain ⟨h0, h1, h2, h4, s, h3, ho⟩ := h.at_ k hk
    exact ⟨h0, h1, h2, h4, s, h3, Tx.own_stay ho hs⟩, h.ap⟩
theorem Row.stay {w w' : World} {g : Nat} {c : List Value} {t : TypeId} (h : Row w g c t) (hs : Tx.Stay t w w') : Row w' g c t := ⟨hs g _ h.at_⟩
/-- Five cells of an own row are written. -/
theorem put5 {w : World} {B g c n : Nat} {e : TypeId} {X : List Value} (h : w.ownsRow B e 5 (.slice (some ⟨g, 0, none⟩) n c) n X) (i : Nat) (hi : i < n) (v0 v1 v2 v3 v4 : Value) :
    (∃ y, w.cell? ⟨g, i * 5, none⟩ = some y) ∧ w.frozen? ⟨g, i * 5, none⟩ = false ∧
    (∃ y, (w.setCell ⟨g, i * 5, none⟩ v0).cell? ⟨g, i * 5 + 1, none⟩ = some y) ∧ (w.setCell ⟨g, i * 5, none⟩ v0).frozen? ⟨g, i * 5 + 1, none⟩ = false ∧
    (∃ y, ((w.setCell ⟨g, i * 5, none⟩ v0).setCell ⟨g, i * 5 + 1, none⟩ v1).cell? ⟨g, i * 5 + 2, none⟩ = some y) ∧ ((w.setCell ⟨g, i * 5, none⟩ v0).setCell ⟨g, i * 5 + 1, none⟩ v1).frozen? ⟨g, i * 5 + 2, none⟩ = false ∧
    (∃ y, (((w.setCell ⟨g, i * 5, none⟩ v0).setCell ⟨g, i * 5 + 1, none⟩ v1).setCell ⟨g, i * 5 + 2, none⟩ v2).cell? ⟨g, i * 5 + 3, none⟩ = some y) ∧ (((w.setCell ⟨g, i * 5, none⟩ v0).setCell ⟨g, i * 5 + 1, none⟩ v1).setCell ⟨g, i * 5 + 2, none⟩ v2).frozen? ⟨g, i * 5 + 3, none⟩ = false ∧
    (∃ y, ((((w.setCell ⟨g, i * 5, none⟩ v0).setCell ⟨g, i * 5 + 1, none⟩ v1).setCell ⟨g, i * 5 + 2, none⟩ v2).setCell ⟨g, i * 5 + 3, none⟩ v3).cell? ⟨g, i * 5 + 4, none⟩ = some y) ∧ ((((w.setCell ⟨g, i * 5, none⟩ v0).setCell ⟨g, i * 5 + 1, none⟩ v1).setCell ⟨g, i * 5 + 2, none⟩ v2).setCell ⟨g, i * 5 + 3, none⟩ v3).frozen? ⟨g, i * 5 + 4, none⟩ = false ∧
    ∃ X', (((((w.setCell ⟨g, i * 5, none⟩ v0).setCell ⟨g, i * 5 + 1, none⟩ v1).setCell ⟨g, i * 5 + 2, none⟩ v2).setCell ⟨g, i * 5 + 3, none⟩ v3).setCell ⟨g, i * 5 + 4, none⟩ v4).ownsRow B e 5 (.slice (some ⟨g, 0, none⟩) n c) n X' ∧ w.grownBy (((((w.setCell ⟨g, i * 5, none⟩ v0).setCell ⟨g, i * 5 + 1, none⟩ v1).setCell ⟨g, i * 5 + 2, none⟩ v2).setCell ⟨g, i * 5 + 3, none⟩ v3).setCell ⟨g, i * 5 + 4, none⟩ v4) (some g) := by
  have hl := h.1
  obtain ⟨h1, g1⟩ := h.stored (i * 5) v0
  obtain ⟨h2, g2⟩ := h1.stored (i * 5 + 1) v1
  obtain ⟨h3, g3⟩ := h2.stored (i * 5 + 2) v2
  obtain ⟨h4, g4⟩ := h3.stored (i * 5 + 3) v3
  obtain ⟨h5, g5⟩ := h4.stored (i * 5 + 4) v4
  exact ⟨⟨_, (h.cellAt _ (by omega)).trans (List.getElem?_eq_getElem (by omega))⟩, h.frozenAt _, ⟨_, (h1.cellAt _ (by omega)).trans (List.getElem?_eq_getElem (by simp; omega))⟩, h1.frozenAt _, ⟨_, (h2.cellAt _ (by omega)).trans (List.getElem?_eq_getElem (by simp; omega))⟩, h2.frozenAt _, ⟨_, (h3.cellAt _ (by omega)).trans (List.getElem?_eq_getElem (by simp; omega))⟩, h3.frozenAt _, ⟨_, (h4.cellAt _ (by omega)).trans (List.getElem?_eq_getElem (by simp; omega))⟩, h4.frozenAt _, _, h5, (((g1.trans g2).trans g3).trans g4).trans g5⟩
theorem own_rd2 {w : World} {B : Nat} {e : TypeId} {size : Nat} {v : Value} {n : Nat} {xs : List Value} (h : w.ownsRow B e size v n xs) : ∃ a c, v = .slice a n c ∧ ∀ j u, xs[j]? = some u → ∃ g, a = some ⟨g, 0, none⟩ ∧ w.cell? ⟨g, j, none⟩ = some u := own_rd h
end Go.Proofs.Ytnohammflhadpaa
