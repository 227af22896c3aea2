import Derived.Test.YtdbdiebgjnofgabGu1
import Derived.Test.YtdbdiebgjnofgabBCh
namespace Go.Proofs.Ytdbdiebgjnofgab
open Go.RowKit Go.Maps Go.Sort
set_option maxRecDepth 100000

/-- A stream whose memory is all new. -/
structure GuS (w : World) (p : Nat) (F : Snd.Sb) (wr : World) : Prop where
  bf : ∃ S, Snd.Bf wr p F S ∧ ∀ y, S y → w.heap.size ≤ y
  gs : F.Gs
  bel : Below w.heap.size w wr
section
variable {w wr w' : World} {p : Nat} {F : Snd.Sb}
theorem GuS.kept (h : GuS w p F wr) (hb : Below wr.heap.size wr w') : GuS w p F w' := by
  obtain ⟨S, h1, h2⟩ := h.bf
  exact ⟨⟨S, h1.kept hb, h2⟩, h.gs, h.bel.trans (hb.mono h.bel.size)⟩
theorem GuS.turn (h : GuS w p F wr) {S : Nat → Prop} (h2 : ∀ y, S y → w.heap.size ≤ y) {F' : Snd.Sb} (k1 : Snd.Bf w' p F' (Snd.grew S wr w')) (k2 : Snd.Fr S wr w') (hg : F'.Gs) : GuS w p F' w' := by
  refine ⟨⟨_, k1, fun y hy => ?_⟩, hg, h.bel.trans (k2.below h2 h.bel.size)⟩
  rcases hy with hy | hy
  · exact h2 y hy
  · have := h.bel.size; omega
theorem GuS.sent (h : GuS w p F wr) (x off : Int) : Calls Try.prog 20 #[.pointer (some ⟨p, 0, none⟩), .int .i64 x, .int .u64 off] wr fun e w' => (∃ b, e = .returned (.bool b)) ∧ ∃ F', GuS w p F' w' := by
  obtain ⟨S, h1, h2⟩ := h.bf
  refine (Snd.sent_G h1 h.gs x off).mono ?_
  rintro e w' ⟨hb, F', k1, k2, k3⟩
  exact ⟨hb, F', h.turn h2 k1 k2 k3.gs⟩
theorem GuS.lost (h : GuS w p F wr) (x off : Int) : Calls Try.prog 21 #[.pointer (some ⟨p, 0, none⟩), .int .i64 x, .int .u64 off] wr fun e w' => (∃ b, e = .returned (.bool b)) ∧ ∃ F', GuS w p F' w' := by
  obtain ⟨S, h1, h2⟩ := h.bf
  refine (Snd.lost_G h1 h.gs x off).mono ?_
  rintro e w' ⟨hb, F', k1, k2, k3⟩
  exact ⟨hb, F', h.turn h2 k1 k2 k3.gs⟩
theorem GuS.held (h : GuS w p F wr) (x off : Int) : Calls Try.prog 22 #[.pointer (some ⟨p, 0, none⟩), .int .i64 x, .int .u64 off] wr fun e w' => (∃ b, e = .returned (.bool b)) ∧ ∃ F', GuS w p F' w' := by
  obtain ⟨S, h1, h2⟩ := h.bf
  refine (Snd.held_G h1 h.gs x off).mono ?_
  rintro e w' ⟨hb, F', k1, k2, k3⟩
  exact ⟨hb, F', h.turn h2 k1 k2 k3.gs⟩
theorem GuS.ack (h : GuS w p F wr) (v E : Int) (hE0 : 0 ≤ E) (hE1 : E ≤ 18446744073709551615) : Calls Try.prog 23 #[.pointer (some ⟨p, 0, none⟩), .int .u64 v, .int .u64 E] wr fun e w' => (∃ b, e = .returned (.bool b)) ∧ ∃ F', GuS w p F' w' := by
  obtain ⟨S, h1, h2⟩ := h.bf
  refine (Snd.ack_G h1 h.gs v E hE0 hE1).mono ?_
  rintro e w' ⟨hb, F', k1, k2, k3⟩
  exact ⟨hb, F', h.turn h2 k1 k2 k3.gs⟩
theorem GuS.close (h : GuS w p F wr) : Calls Try.prog 24 #[.pointer (some ⟨p, 0, none⟩)] wr fun e w' => (∃ b, e = .returned (.bool b)) ∧ ∃ F', GuS w p F' w' := by
  obtain ⟨S, h1, h2⟩ := h.bf
  refine (Snd.close_G h1 h.gs).mono ?_
  rintro e w' ⟨hb, F', k1, k2, k3⟩
  exact ⟨⟨_, hb⟩, F', h.turn h2 k1 k2 k3.gs⟩
/-- Bytes that came in. -/
structure Gw where
  a : Option Addr
  cap : Nat
  bs : List (BitVec 8)
structure Gw.Ok (w : World) (x : Gw) : Prop where
  by_ : Snd.BytesAt w x.a x.bs
  lc : x.bs.length ≤ x.cap
  nm : x.bs.length ≤ 140737488355328
  z : x.a = none → x.cap = 0
theorem GuS.write (h : GuS w p F wr) {y : Gw} (hy : y.Ok w) : Calls Try.prog 19 #[.pointer (some ⟨p, 0, none⟩), .slice y.a y.bs.length y.cap] wr fun e w' => (∃ n : Nat, e = .returned (.int .i64 n)) ∧ ∃ F', GuS w p F' w' := by
  obtain ⟨S, h1, h2⟩ := h.bf
  refine (Snd.write_G h1 h.gs (hy.by_.kept h.bel) y.bs.length y.cap rfl hy.lc hy.nm hy.z _ rfl).mono ?_
  rintro e w' ⟨hb, F', k1, k2, k3⟩
  exact ⟨⟨_, hb⟩, F', h.turn h2 k1 k2 k3.gs⟩
/-- May answers the same, whatever new memory there is. -/
theorem GuS.may (h : GuS w p F wr) (x off n : Int) : ∃ B : Bool, ∀ W, Below wr.heap.size wr W → Calls Try.prog 26 #[.pointer (some ⟨p, 0, none⟩), .int .i64 x, .int .u64 off, .int .i64 n] W fun e w' => e = .returned (.bool B) ∧ Below W.heap.size W w' := by
  obtain ⟨S, ⟨a, cap, h1⟩, _⟩ := h.bf
  by_cases hf : ∃ k, F.find off k
  · obtain ⟨k, hk, rfl⟩ := hf
    obtain ⟨g, o, rfl⟩ := h1.at_ hk
    exact ⟨_, fun W hW => Snd.may_some (h1.sb.r.kept hW) x n hk rfl⟩
  · exact ⟨false, fun W hW => Snd.may_none (h1.sb.r.kept hW) x off n (fun k hk => hf ⟨k, hk⟩)⟩
theorem GuS.chunks (h : GuS w p F wr) : Calls Try.prog 25 #[.pointer (some ⟨p, 0, none⟩)] wr fun e w' => ∃ v X, e = .returned v ∧ w'.ownsRow wr.heap.size 26 5 v F.L.length X ∧ Snd.ChZ w' wr.heap.size F.L X ∧ Below wr.heap.size wr w' := by
  obtain ⟨S, ⟨a, cap, h1⟩, _⟩ := h.bf
  exact Snd.chunks_lists h1.sb.r
theorem GuS.few (h : GuS w p F wr) : F.L.length ≤ 65537 := by
  obtain ⟨S, h1, _⟩ := h.bf
  exact h1.ok.nl
end
/-- A call of the script, with its bytes. -/
structure Opg where
  kind : Int
  path : Int
  off : Int
  edge : Int
  y : Gw
abbrev Opg.cells (o : Opg) : List Value := [.int .i64 o.kind, .int .i64 o.path, .int .u64 o.off, .int .u64 o.edge, .slice o.y.a o.y.bs.length o.y.cap]
def OpgAt (w : World) (a : Option Addr) (Os : List Opg) : Prop := ∀ k (h : k < Os.length), ∃ g o, a = some ⟨g, o, none⟩ ∧ (∀ j v, Os[k].cells[j]? = some v → w.cell? ⟨g, o + k * 5 + j, none⟩ = some v) ∧ (0 ≤ Os[k].edge ∧ Os[k].edge ≤ 18446744073709551615) ∧ Os[k].y.Ok w
end Go.Proofs.Ytdbdiebgjnofgab
