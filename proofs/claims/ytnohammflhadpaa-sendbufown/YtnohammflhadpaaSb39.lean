import Derived.Test.YtnohammflhadpaaSb38
import Derived.Test.YtnohammflhadpaaSb32
namespace Go.Proofs.Ytnohammflhadpaa
open Go.RowKit Go.Maps Go.Sort
set_option maxRecDepth 100000

/-- Blocks of N hold what they held. -/
def SameN (N : Nat → Prop) (w w' : World) : Prop := ∀ y c v, N y → w.cell? ⟨y, c, none⟩ = some v → w'.cell? ⟨y, c, none⟩ = some v
/-- A stream, and boxes (N) that are none of its memory. -/
structure WaS (w : World) (p : Nat) (F : Sb) (N : Nat → Prop) (wr : World) : Prop where
  bf : ∃ S, Bf wr p F S ∧ (∀ y, S y → w.heap.size ≤ y) ∧ ∀ y, N y → ¬ S y ∧ y < wr.heap.size
  gs : F.Gs
  bel : Below w.heap.size w wr
section
variable {w wr w' : World} {p : Nat} {F : Sb} {N : Nat → Prop}
theorem WaS.kept (h : WaS w p F N wr) (hb : Below wr.heap.size wr w') : WaS w p F N w' := by
  obtain ⟨S, h1, h2, h3⟩ := h.bf
  exact ⟨⟨S, h1.kept hb, h2, fun y hy => ⟨(h3 y hy).1, Nat.lt_of_lt_of_le (h3 y hy).2 hb.size⟩⟩, h.gs, h.bel.trans (hb.mono h.bel.size)⟩
theorem WaS.less (h : WaS w p F N wr) {M : Nat → Prop} (hM : ∀ y, M y → N y) : WaS w p F M wr := by
  obtain ⟨S, h1, h2, h3⟩ := h.bf
  exact ⟨⟨S, h1, h2, fun y hy => h3 y (hM y hy)⟩, h.gs, h.bel⟩
/-- A new box. -/
theorem WaS.box (h : WaS w p F N wr) (ob : Obj) : WaS w p F (fun y => N y ∨ y = wr.heap.size) (wr.alloc ob) := by
  have hb : Below wr.heap.size wr (wr.alloc ob) := (Below.refl _ _).alloc (Nat.le_refl _) _
  obtain ⟨S, h1, h2, h3⟩ := h.bf
  refine ⟨⟨S, h1.kept hb, h2, fun y hy => ?_⟩, h.gs, h.bel.trans (hb.mono h.bel.size)⟩
  rcases hy with hy | rfl
  · exact ⟨(h3 y hy).1, Nat.lt_of_lt_of_le (h3 y hy).2 hb.size⟩
  · exact ⟨fun hs => by have := h1.lt _ hs; omega, by simp⟩
theorem WaS.turn (h : WaS w p F N wr) {S : Nat → Prop} (h2 : ∀ y, S y → w.heap.size ≤ y) (h3 : ∀ y, N y → ¬ S y ∧ y < wr.heap.size) {F' : Sb} (k1 : Bf w' p F' (grew S wr w')) (k2 : Fr S wr w') (hg : F'.Gs) : WaS w p F' N w' ∧ SameN N wr w' := by
  refine ⟨⟨⟨_, k1, fun y hy => ?_, fun y hy => ⟨fun hs => ?_, Nat.lt_of_lt_of_le (h3 y hy).2 k2.size⟩⟩, hg, h.bel.trans (k2.below h2 h.bel.size)⟩, fun y c v hy hc => k2.cell hc (h3 y hy).1⟩
  · rcases hy with hy | hy
    · exact h2 y hy
    · have := h.bel.size; omega
  · rcases hs with hs | hs
    · exact (h3 y hy).1 hs
    · have := (h3 y hy).2; omega
theorem WaS.play (h : WaS w p F N wr) (k : Int) (ot : Bool) (pa off : Int) (rel : Bool) (ed n : Int) (da : Value) (hE0 : 0 ≤ ed) (hE1 : ed ≤ 18446744073709551615) :
    Calls Try.prog 21 #[.pointer (some ⟨p, 0, none⟩), .agg #[.int .i64 k, .bool ot, .int .i64 pa, .int .u64 off, .bool rel, .int .u64 ed, .int .i64 n, da]] wr fun e w' => e = .returned (.tuple #[]) ∧ ∃ F', WaS w p F' N w' ∧ SameN N wr w' := by
  obtain ⟨S, h1, h2, h3⟩ := h.bf
  refine (play_any h1 h.gs k ot pa off rel ed n da hE0 hE1).mono ?_
  rintro e w' ⟨rfl, F', k1, k2, k3⟩
  exact ⟨rfl, F', h.turn h2 h3 k1 k2 k3.gs⟩
theorem WaS.write (h : WaS w p F N wr) {y : Wt} (hy : y.Ok w) :
    Calls Try.prog 11 #[.pointer (some ⟨p, 0, none⟩), .slice y.a y.bs.length y.cap] wr fun e w' => (∃ n : Nat, e = .returned (.int .i64 n)) ∧ ∃ F', WaS w p F' N w' ∧ SameN N wr w' := by
  obtain ⟨S, h1, h2, h3⟩ := h.bf
  refine (write_G h1 h.gs (hy.by_.kept h.bel) y.bs.length y.cap rfl hy.lc hy.nm hy.z _ rfl).mono ?_
  rintro e w' ⟨rfl, F', k1, k2, k3⟩
  exact ⟨⟨_, rfl⟩, F', h.turn h2 h3 k1 k2 k3.gs⟩
theorem WaS.want (h : WaS w p F N wr) : Calls Try.prog 14 #[.pointer (some ⟨p, 0, none⟩)] wr fun e w' => LowAns wr (F.low 255) e w' := by
  obtain ⟨S, ⟨a, cap, h1⟩, _⟩ := h.bf
  exact want_any h1.sb.r
theorem WaS.next (h : WaS w p F N wr) (x : Int) : Calls Try.prog 23 #[.pointer (some ⟨p, 0, none⟩), .int .i64 x] wr fun e w' => LowAns wr (F.nxt x) e w' := by
  obtain ⟨S, ⟨a, cap, h1⟩, _⟩ := h.bf
  exact next_any h1.sb.r x
theorem WaS.edge (h : WaS w p F N wr) : Calls Try.prog 22 #[.pointer (some ⟨p, 0, none⟩)] wr fun e w' => e = .returned (.int .u64 F.edge) ∧ w' = wr := by
  obtain ⟨S, ⟨a, cap, h1⟩, _⟩ := h.bf
  exact edge_any h1.sb.r
theorem WaS.high (h : WaS w p F N wr) : Calls Try.prog 16 #[.pointer (some ⟨p, 0, none⟩)] wr fun e w' => e = .returned (.int .u64 F.high) ∧ w' = wr := by
  obtain ⟨S, ⟨a, cap, h1⟩, _⟩ := h.bf
  exact high_any h1.sb.r
theorem WaS.ok (h : WaS w p F N wr) : F.Ok := by
  obtain ⟨S, h1, _⟩ := h.bf
  exact h1.ok
theorem WaS.mayAt (h : WaS w p F N wr) (x n : Int) {k : Nat} (hk : k < F.L.length) : Calls Try.prog 24 #[.pointer (some ⟨p, 0, none⟩), .int .i64 x, .int .u64 F.L[k].off, .int .i64 n] wr fun e w' => e = .returned (.bool (decide ((F.L[k].bs.length : Int) = n) && F.mayOn F.L[k] (bit x))) ∧ Below wr.heap.size wr w' := by
  obtain ⟨S, ⟨a, cap, h1⟩, _⟩ := h.bf
  obtain ⟨g, o, rfl⟩ := h1.at_ hk
  exact may_some h1.sb.r x n hk rfl
theorem WaS.mayBad (h : WaS w p F N wr) {x : Int} (hx : x < 0 ∨ 8 ≤ x) (off n : Int) : Calls Try.prog 24 #[.pointer (some ⟨p, 0, none⟩), .int .i64 x, .int .u64 off, .int .i64 n] wr fun e w' => e = .returned (.bool false) ∧ Below wr.heap.size wr w' := by
  by_cases hf : ∃ k, F.find off k
  · obtain ⟨k, hk, rfl⟩ := hf
    have := h.mayAt x n hk
    rw [mayOn_bad F _ hx, Bool.and_false] at this
    exact this
  · obtain ⟨S, ⟨a, cap, h1⟩, _⟩ := h.bf
    exact may_none h1.sb.r x off n (fun k hk => hf ⟨k, hk⟩)
theorem WaS.sent (h : WaS w p F N wr) (x : Int) {k : Nat} (hk : k < F.L.length) (hz : F.mayOn F.L[k] (bit x) = true) : Calls Try.prog 17 #[.pointer (some ⟨p, 0, none⟩), .int .i64 x, .int .u64 F.L[k].off] wr fun e w' => e = .returned (.bool true) ∧ WaS w p (F.sent k F.L[k] (bit x)) N w' ∧ SameN N wr w' := by
  obtain ⟨S, h1, h2, h3⟩ := h.bf
  refine (sent_X h1 x hk hz).mono ?_
  rintro e w' ⟨rfl, k1, k2⟩
  have hp := pg_put h.gs hk (c := F.L[k].go (bit x)) ⟨rfl, rfl, rfl⟩
  exact ⟨rfl, h.turn h2 h3 k1 k2 ⟨hp.gs.fin, hp.gs.opn⟩⟩
end
/-- A call of a script with its bytes. -/
def OpwAt (w : World) (a : Option Addr) (Os : List (OpQ × Wt)) : Prop := ∀ k (h : k < Os.length), ∃ g o, a = some ⟨g, o, none⟩ ∧ (∀ j v, Os[k].1.cells[j]? = some v → w.cell? ⟨g, o + k * 8 + j, none⟩ = some v) ∧ (0 ≤ Os[k].1.edge ∧ Os[k].1.edge ≤ 18446744073709551615) ∧ Os[k].1.data = .slice Os[k].2.a Os[k].2.bs.length Os[k].2.cap ∧ Os[k].2.Ok w
/-- What Want has told. -/
structure WInfo (F : Sb) (ok : Bool) (wo wl : Int) (fi : Bool) (sn : Nat) : Prop where
  yes : ok = true → ∃ (k : Nat) (h : k < F.L.length), F.low 255 = some F.L[k] ∧ F.L[k].off = wo ∧ (F.L[k].bs.length : Int) = wl ∧ F.L[k].fin = fi ∧ F.mayGo F.L[k] = true ∧ F.L[k].held = false ∧ F.L[k].on = 0 ∧ sn = 0
  no : ok = false → F.low 255 = none ∧ wo = 0 ∧ wl = 0
theorem winfo_some {F : Sb} (ok : F.Ok) {c : Ck} (h : F.low 255 = some c) : WInfo F true c.off c.bs.length c.fin (onUp c.on 8).length ∧ c.held = false := by
  obtain ⟨k, hk, rfl, h1, h2⟩ := low_spec F 255 F.L c h
  have hck := ok.ck _ (List.getElem_mem hk)
  obtain ⟨h3, h4⟩ := free_all hck.on0 hck.on1 h2
  refine ⟨⟨fun _ => ⟨k, hk, h, rfl, rfl, rfl, h1, h3, h4, by rw [h4, onUp_zero]; rfl⟩, fun e => by cases e⟩, h3⟩
theorem winfo_none {F : Sb} (h : F.low 255 = none) : WInfo F false 0 0 false 0 := ⟨fun e => (by cases e), fun _ => ⟨h, rfl, rfl⟩⟩
end Go.Proofs.Ytnohammflhadpaa
