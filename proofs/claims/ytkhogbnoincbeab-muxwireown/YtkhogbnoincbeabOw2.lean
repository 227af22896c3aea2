import Derived.Test.YtkhogbnoincbeabTx4
import Derived.Test.YtkhogbnoincbeabAll3
import Derived.Test.YtkhogbnoincbeabRo0
import Derived.Lib.QuietBelow
import Derived.BigQuiet
namespace Go.Proofs.Ytkhogbnoincbeab
open Go.RowKit Go.Maps Go.Sort
set_option maxRecDepth 100000

/-- A book of texts beside a row u that grows. -/
structure TBF (B b m : Nat) (w : World) (X : List Value) (u : Value) : Prop where
  ex : ∃ lv wv Y C, Tx.Book B w b lv wv X Y ∧ Y.length = X.length ∧ Tx.LA B w X C ∧ (∀ i (h : i < Y.length), w.ownsRow B 5 1 Y[i] (C i).length (bcells (C i))) ∧ (∀ j, j < X.length → (C j).length ≤ m) ∧ (∀ y ∈ Y, ∀ g, u.ownBlock = some g → y.ownBlock ≠ some g) ∧ (∀ x ∈ X, ∀ g, u.ownBlock = some g → x.ownBlock ≠ some g)
  le : B ≤ w.heap.size
  bb : B ≤ b
  vl : ∀ g, u.ownBlock = some g → g < w.heap.size
theorem TBF.tb {B b m : Nat} {w : World} {X : List Value} {u : Value} (h : TBF B b m w X u) : Tx.TB B b m w X := by
  obtain ⟨lv, wv, Y, C, k1, k2, k3, k4, k5, _, _⟩ := h.ex
  exact ⟨⟨lv, wv, Y, C, k1, k2, k3, k4, k5⟩, h.le, h.bb⟩
theorem TBF.new {B m : Nat} (w : World) (hB : B ≤ w.heap.size) : TBF B w.heap.size m (w.alloc (.cells #[.slice none 0 0, .slice none 0 0] 33)) [] (.slice none 0 0) := by
  obtain ⟨⟨lv, wv, Y, C, k1, k2, k3, k4, k5⟩, h2, h3⟩ := Tx.TB.new (B := B) (m := m) w hB
  exact ⟨⟨lv, wv, Y, C, k1, k2, k3, k4, k5, fun y hy g e => by simp [Value.ownBlock] at e, fun y hy g e => by simp [Value.ownBlock] at e⟩, h2, h3, fun g e => by simp [Value.ownBlock] at e⟩
theorem stay_rowM {w w' : World} {row : Option Nat} {t t' : TypeId} (hg : w.grownBy w' row) (hr : ∀ g, row = some g → ∃ cs, w.heap[g]? = some (.cells cs t' (0, 0))) (ht : t ≠ t') : Tx.Stay t w w' := fun k cs hk => by
  refine (hg.block k (Array.getElem?_eq_some_iff.1 hk).1 (fun e => ?_)).trans hk
  obtain ⟨c', hc'⟩ := hr k e.symm
  rw [hk] at hc'
  injection hc' with hc'
  injection hc' with _ hc'
  exact ht hc'
theorem TBF.stay {B b m : Nat} {w w' : World} {X : List Value} {u : Value} (h : TBF B b m w X u) (h5 : Tx.Stay 5 w w') (h27 : Tx.Stay 27 w w') (h33 : Tx.Stay 33 w w') (hs : w.heap.size ≤ w'.heap.size) : TBF B b m w' X u := by
  obtain ⟨lv, wv, Y, C, k1, k2, k3, k4, k5, k6, k7⟩ := h.ex
  exact ⟨⟨lv, wv, Y, C, ⟨h33 b _ k1.head, Tx.own_stay k1.l h27, Tx.own_stay k1.s h27, k1.ne⟩, k2, ⟨fun j hj => Tx.own_stay (k3.row j hj) h5, k3.apart⟩, fun i hi => Tx.own_stay (k4 i hi) h5, k5, k6, k7⟩, Nat.le_trans h.le hs, h.bb, fun g e => Nat.lt_of_lt_of_le (h.vl g e) hs⟩
theorem TBF.below {B b m : Nat} {w w' : World} {X : List Value} {u : Value} (h : TBF B b m w X u) (hb : Below w.heap.size w w') : TBF B b m w' X u := h.stay (Tx.stay_below hb) (Tx.stay_below hb) (Tx.stay_below hb) hb.size
/-- The row grows, in place or to a new one. -/
theorem TBF.app {B b m : Nat} {w w' : World} {X : List Value} {u u' : Value} {C0 : Nat} {L : List (BitVec 8)} (h : TBF B b m w X u) (ou : OwnBy w C0 u L) (hg : w.grownBy w' u.ownBlock) (hu : u'.ownBlock = u.ownBlock ∨ u'.ownBlock = some w.heap.size) (hl : ∀ g, u'.ownBlock = some g → g < w'.heap.size) : TBF B b m w' X u' := by
  obtain ⟨lv, wv, Y, C, k1, k2, k3, k4, k5, k6, k7⟩ := h.ex
  have hr : ∀ g, u.ownBlock = some g → ∃ cs, w.heap[g]? = some (.cells cs 5 (0, 0)) := fun g e => Tx.row_type ou e
  have s27 := stay_rowM (t := 27) hg hr (by decide)
  have s33 := stay_rowM (t := 33) hg hr (by decide)
  have hx : ∀ j (hj : j < X.length), w'.ownsRow B 5 1 X[j] (C j).length (bcells (C j)) := fun j hj => Tx.own_kept (k3.row j hj) hg (fun g e e' => k7 _ (List.getElem_mem hj) g e' e)
  have hy : ∀ i (hi : i < Y.length), w'.ownsRow B 5 1 Y[i] (C i).length (bcells (C i)) := fun i hi => Tx.own_kept (k4 i hi) hg (fun g e e' => k6 _ (List.getElem_mem hi) g e' e)
  refine ⟨⟨lv, wv, Y, C, ⟨s33 b _ k1.head, Tx.own_stay k1.l s27, Tx.own_stay k1.s s27, k1.ne⟩, k2, ⟨hx, k3.apart⟩, hy, k5, fun y hm g e => ?_, fun y hm g e => ?_⟩, Nat.le_trans h.le hg.size, h.bb, hl⟩
  · obtain ⟨i, hi, rfl⟩ := List.getElem_of_mem hm
    rcases hu with e1 | e1
    · exact k6 _ hm g (e1.symm.trans e)
    · rw [e1] at e
      injection e with e
      subst e
      exact fun e2 => Nat.lt_irrefl _ (own_lt (k4 i hi) e2)
  · obtain ⟨i, hi, rfl⟩ := List.getElem_of_mem hm
    rcases hu with e1 | e1
    · exact k7 _ hm g (e1.symm.trans e)
    · rw [e1] at e
      injection e with e
      subst e
      exact fun e2 => Nat.lt_irrefl _ (own_lt (k3.row i hi) e2)
/-- One text more. -/
theorem TBF.keep {B b m : Nat} {wx : World} {X : List Value} {u : Value} (hx : TBF B b m wx X u) {v : Value} {bs : List (BitVec 8)} (ov : wx.ownsRow B 5 1 v bs.length (bcells bs)) (hap : ∀ j (hj : j < X.length) g, X[j].ownBlock = some g → v.ownBlock ≠ some g) (huv : ∀ g, u.ownBlock = some g → v.ownBlock ≠ some g) (hm : bs.length ≤ m) (hmm : m ≤ 140737488355200) (hX : X.length ≤ 1000000000000) :
    Calls Try.prog 16 #[.pointer (some ⟨b, 0, none⟩), v] wx fun e w' => e = .returned (.tuple #[]) ∧ TBF B b m w' (X ++ [v]) u ∧ (∀ t, t ≠ 33 → t ≠ 27 → Tx.Stay t wx w') ∧ Below B wx w' := by
  obtain ⟨lv, wv, Y, C, k1, k2, k3, k4, k5, k6, k7⟩ := hx.ex
  obtain ⟨a, cap, rfl, hC⟩ := Tx.own_cells ov
  have hz : a = none → cap = 0 := fun e => by
    rcases ov.2 with ⟨e', _⟩ | ⟨g, cap', cur, e', _⟩
    · simp only [Value.slice.injEq] at e'; exact e'.2.2
    · simp only [Value.slice.injEq] at e'; rw [e] at e'; cases e'.1
  have hty : ∀ ad, a = some ad → ∃ cs, wx.heap[ad.block]? = some (.cells cs 5 (0, 0)) := fun ad e => by
    rcases ov.2 with ⟨e', _⟩ | ⟨g, cap', cur, e', _, hg, _⟩
    · simp only [Value.slice.injEq] at e'; rw [e] at e'; cases e'.1
    · simp only [Value.slice.injEq] at e'
      rw [e] at e'
      simp only [Option.some.injEq] at e'
      rw [e'.1]
      exact ⟨_, hg⟩
  refine (Tx.keep_any k1 hx.le hC (fun ad e => ?_) (by omega) (by omega) (by omega) hz).mono ?_
  · obtain ⟨cs, hc⟩ := hty ad e
    refine ⟨fun e' => ?_, fun e' => ?_, fun e' => ?_⟩
    · rw [e', k1.head] at hc
      simp at hc
    · obtain ⟨cs', hc'⟩ := Tx.row_type k1.l e'.symm
      rw [hc] at hc'
      simp at hc'
    · obtain ⟨cs', hc'⟩ := Tx.row_type k1.s e'.symm
      rw [hc] at hc'
      simp at hc'
  · rintro e w' ⟨rfl, lv', wv', u', hB', hu', hK, _, _⟩
    have hst : ∀ t, t ≠ 33 → t ≠ 27 → Tx.Stay t wx w' := fun t h1 h2 => Tx.stay_kept k1 hK h1 h2
    have h5 := hst 5 (by decide) (by decide)
    have hbel := Tx.below_kept k1 hK hx.bb hx.le
    refine ⟨rfl, ⟨⟨lv', wv', Y ++ [u'], fun j => if j < X.length then C j else bs, hB', by simp [k2], ⟨fun j hj => ?_, fun i j hi hj hij x hx' => ?_⟩, fun i hi => ?_, fun j hj => ?_, ?_, ?_⟩, Nat.le_trans hx.le hbel.size, hx.bb, fun g hg => Nat.lt_of_lt_of_le (hx.vl g hg) hbel.size⟩, hst, hbel⟩
    · by_cases e : j < X.length
      · rw [if_pos e, List.getElem_append_left e]
        exact Tx.own_stay (k3.row j e) h5
      · have e' : j = X.length := by simp at hj; omega
        subst e'
        rw [if_neg (by omega), List.getElem_concat_length rfl]
        exact Tx.own_stay ov h5
    · by_cases ei : i < X.length
      · rw [List.getElem_append_left ei] at hx'
        by_cases ej : j < X.length
        · rw [List.getElem_append_left ej]
          exact k3.apart i j ei ej hij x hx'
        · have e' : j = X.length := by simp at hj; omega
          subst e'
          rw [List.getElem_concat_length rfl]
          exact hap i ei x hx'
      · have e' : i = X.length := by simp at hi; omega
        subst e'
        rw [List.getElem_concat_length rfl] at hx'
        have ej : j < X.length := by simp at hj; omega
        rw [List.getElem_append_left ej]
        intro e2
        exact hap j ej x e2 hx'
    · by_cases e : i < Y.length
      · rw [List.getElem_append_left e]
        show w'.ownsRow B 5 1 _ (if i < X.length then C i else bs).length (bcells (if i < X.length then C i else bs))
        rw [if_pos (by omega)]
        exact Tx.own_stay (k4 i e) h5
      · have e' : i = Y.length := by simp at hi; omega
        subst e'
        rw [List.getElem_concat_length rfl]
        show w'.ownsRow B 5 1 _ (if Y.length < X.length then C Y.length else bs).length (bcells (if Y.length < X.length then C Y.length else bs))
        rw [if_neg (by omega)]
        exact Tx.own_mono hu' hx.le
    · by_cases e : j < X.length
      · simp only [if_pos e]; exact k5 j e
      · simp only [if_neg e]; exact hm
    · intro y hy g hg
      rcases List.mem_append.1 hy with hy | hy
      · exact k6 y hy g hg
      · rw [List.mem_singleton] at hy
        subst hy
        intro e2
        have q1 := own_ge hu' e2
        have q2 := hx.vl g hg
        omega
    · intro y hy g hg
      rcases List.mem_append.1 hy with hy | hy
      · exact k7 y hy g hg
      · rw [List.mem_singleton] at hy
        subst hy
        exact huv g hg
theorem dt_own {w : World} {B : Nat} {d : Value} {bs : List (BitVec 8)} (h : Dt w B d bs) (hl : bs.length ≤ 32768) : OwnBy w B d bs := by
  rcases h with ⟨rfl, rfl⟩ | ⟨g, rfl, hr, hg⟩
  · exact ⟨rfl, .inl ⟨rfl, rfl⟩⟩
  · refine ⟨by rw [bcells_len, Nat.mul_one], .inr ⟨g, bs.length, (bcells bs).toArray, rfl, hg, hr.at_, Nat.le_refl _, ?_, by simp [bcells_len], ?_⟩⟩
    · unfold maxLen; omega
    · rw [Nat.mul_one]
      exact List.take_of_length_le (by simp [bcells_len])
/-- A book, with texts that are still to be kept, beside a row that grows. -/
structure Kq (w wr : World) (bk : Nat) (X : List Value) (V : List (Value × List (BitVec 8))) (u : Value) : Prop where
  tb : TBF w.heap.size bk 32768 wr X u
  ow : ∀ y ∈ V, OwnBy wr w.heap.size y.1 y.2 ∧ y.2.length ≤ 32768 ∧ (∀ g, u.ownBlock = some g → y.1.ownBlock ≠ some g) ∧ ∀ x ∈ X, ∀ g, x.ownBlock = some g → y.1.ownBlock ≠ some g
  pw : V.Pairwise fun a b => ∀ g, a.1.ownBlock = some g → b.1.ownBlock ≠ some g
section
variable {w wr w' : World} {bk : Nat} {X : List Value} {V : List (Value × List (BitVec 8))} {u : Value}
theorem Kq.kept (h : Kq w wr bk X V u) (hb : Below wr.heap.size wr w') : Kq w w' bk X V u :=
  ⟨h.tb.below hb, fun y hy => by obtain ⟨h1, h2⟩ := h.ow y hy; exact ⟨own_below h1 hb, h2⟩, h.pw⟩
theorem Kq.adds (h : Kq w wr bk X V u) (hb : Below wr.heap.size wr w') {V2 : List (Value × List (BitVec 8))} (ov : ∀ y ∈ V2, OwnBy w' wr.heap.size y.1 y.2 ∧ y.2.length ≤ 32768) (hp : V2.Pairwise fun a b => ∀ g, a.1.ownBlock = some g → b.1.ownBlock ≠ some g) : Kq w w' bk X (V ++ V2) u := by
  have hk := h.kept hb
  have hle := h.tb.le
  refine ⟨hk.tb, fun y hy => ?_, List.pairwise_append.2 ⟨h.pw, hp, fun a ha b hb2 g e e' => ?_⟩⟩
  · rcases List.mem_append.1 hy with hy | hy
    · exact hk.ow y hy
    · obtain ⟨h1, h2⟩ := ov y hy
      refine ⟨own_less h1 hle, h2, fun g e e' => ?_, fun x hx g e e' => ?_⟩
      · have := h.tb.vl g e
        have := own_ge h1 e'
        omega
      · obtain ⟨j, hj, rfl⟩ := List.getElem_of_mem hx
        have := h.tb.tb.lt hj e
        have := own_ge h1 e'
        omega
  · have q1 := own_lt (h.ow a ha).1 e
    have q2 := own_ge (ov b hb2).1 e'
    omega
theorem Kq.add (h : Kq w wr bk X V u) (hb : Below wr.heap.size wr w') {v : Value} {bs : List (BitVec 8)} (ov : OwnBy w' wr.heap.size v bs) (hl : bs.length ≤ 32768) : Kq w w' bk X (V ++ [(v, bs)]) u :=
  h.adds hb (fun y hy => by rw [List.mem_singleton] at hy; subst hy; exact ⟨ov, hl⟩) (List.pairwise_singleton _ _)
theorem Kq.app (h : Kq w wr bk X V u) {u' : Value} {C0 : Nat} {L : List (BitVec 8)} (ou : OwnBy wr C0 u L) (hg : wr.grownBy w' u.ownBlock) (hu : u'.ownBlock = u.ownBlock ∨ u'.ownBlock = some wr.heap.size) (hl : ∀ g, u'.ownBlock = some g → g < w'.heap.size) : Kq w w' bk X V u' := by
  refine ⟨h.tb.app ou hg hu hl, fun y hy => ?_, h.pw⟩
  obtain ⟨h1, h2, h3, h4⟩ := h.ow y hy
  refine ⟨Tx.own_kept h1 hg (fun g e e' => h3 g e' e), h2, fun g e => ?_, h4⟩
  rcases hu with e1 | e1
  · exact h3 g (e1.symm.trans e)
  · rw [e1] at e
    injection e with e
    subst e
    exact fun e2 => Nat.lt_irrefl _ (own_lt h1 e2)
theorem Kq.keep {y : Value × List (BitVec 8)} (h : Kq w wr bk X (y :: V) u) (hX : X.length ≤ 1000) :
    Calls Try.prog 16 #[.pointer (some ⟨bk, 0, none⟩), y.1] wr fun e w' => e = .returned (.tuple #[]) ∧ Kq w w' bk (X ++ [y.1]) V u ∧ Tx.Stay 41 wr w' ∧ Tx.Stay 5 wr w' ∧ Below w.heap.size wr w' := by
  obtain ⟨h1, h2, h3, h4⟩ := h.ow y (List.mem_cons_self)
  have hpw := List.pairwise_cons.1 h.pw
  refine (h.tb.keep h1 (fun j hj g e => h4 _ (List.getElem_mem hj) g e) h3 h2 (by decide) (by omega)).mono ?_
  rintro e w' ⟨rfl, k1, k2, k3⟩
  refine ⟨rfl, ⟨k1, fun z hz => ?_, hpw.2⟩, k2 41 (by decide) (by decide), k2 5 (by decide) (by decide), k3⟩
  obtain ⟨z1, z2, z3, z4⟩ := h.ow z (List.mem_cons_of_mem _ hz)
  refine ⟨Tx.own_stay z1 (k2 5 (by decide) (by decide)), z2, z3, fun x hx g e => ?_⟩
  rcases List.mem_append.1 hx with hx | hx
  · exact z4 x hx g e
  · rw [List.mem_singleton] at hx
    subst hx
    exact hpw.1 z hz g e
end
/-- What the law's loop keeps. -/
structure OwM (w wr : World) (gL bk : Nat) (fs : List Fi) (i : Nat) (u : Value) : Prop where
  be : Below w.heap.size w wr
  fi : ∀ j (_ : j < fs.length) m x, (pcells (fs[j].F, fs[j].v))[m]? = some x → wr.cell? ⟨gL, j * 6 + m, none⟩ = some x
  gl : ∃ cs, wr.heap[gL]? = some (.cells cs 41 (0, 0))
  kq : ∃ X, X.length ≤ i * 4 ∧ Kq w wr bk X [] u
  ob : OwnBy wr w.heap.size u (encs ((fs.take i).map (·.F)))
theorem OwM.kept {w wr w' : World} {gL bk i : Nat} {fs : List Fi} {u : Value} (h : OwM w wr gL bk fs i u) (hb : Below wr.heap.size wr w') : OwM w w' gL bk fs i u := by
  obtain ⟨cs, hcs⟩ := h.gl
  obtain ⟨X, hX, hk⟩ := h.kq
  exact ⟨h.be.trans (hb.mono h.be.size), fun j hj m x hx => cell_kept hb (h.fi j hj m x hx), ⟨cs, (hb.block gL (Array.getElem?_eq_some_iff.1 hcs).1).trans hcs⟩, ⟨X, hX, hk.kept hb⟩, own_below h.ob hb⟩
theorem cells_stay {w w' : World} {g : Nat} {cs : Array Value} {t : TypeId} (h : w.heap[g]? = some (.cells cs t (0, 0))) (hs : Tx.Stay t w w') {j : Nat} {x : Value} (hc : w.cell? ⟨g, j, none⟩ = some x) : w'.cell? ⟨g, j, none⟩ = some x := by
  have h2 := hs g cs h
  rw [cell_of_row w g _ _ _ _ h] at hc
  rw [cell_of_row w' g _ _ _ _ h2]
  exact hc
end Go.Proofs.Ytkhogbnoincbeab
namespace Go.Proofs.Ytkhogbnoincbeab
open Go.RowKit Go.Maps Go.Sort
set_option maxRecDepth 100000

theorem bsl53 (w : World) (a b c d e f a' b' c' d' e' f' a2 b2 c2 d2 e2 f2 a3 b3 c3 d3 e3 f3 : Value) : (Instr.buildSlice 53 4 #[(0, .agg #[a, b, c, d, e, f]), (1, .agg #[a', b', c', d', e', f']), (2, .agg #[a2, b2, c2, d2, e2, f2]), (3, .agg #[a3, b3, c3, d3, e3, f3])]).run Try.prog w = .ok (.slice (some ⟨w.heap.size, 0, none⟩) 4 4) (w.alloc (.cells #[a, b, c, d, e, f, a', b', c', d', e', f', a2, b2, c2, d2, e2, f2, a3, b3, c3, d3, e3, f3] 41)) := by kernel_rfl
theorem bsl31 (w : World) (a : Option Addr) (n c : Nat) : (Instr.buildSlice 31 1 #[(0, .slice a n c)]).run Try.prog w = .ok (.slice (some ⟨w.heap.size, 0, none⟩) 1 1) (w.alloc (.cells #[.slice a n c] 27)) := by kernel_rfl
/-- A frame's six cells. -/
def Six (w : World) (p : Nat) (F : PF) (v : Value) : Prop := w.cell? ⟨p, 0, none⟩ = some (.int .i64 F.k) ∧ w.cell? ⟨p, 1, none⟩ = some (.int .u64 F.s) ∧ w.cell? ⟨p, 2, none⟩ = some (.int .u64 F.n) ∧ w.cell? ⟨p, 3, none⟩ = some (.int .i64 F.c) ∧ w.cell? ⟨p, 4, none⟩ = some (.int .i64 F.h) ∧ w.cell? ⟨p, 5, none⟩ = some v
theorem sixr {w : World} {p : Nat} {F : PF} {v : Value} (h : Row w p (pcells (F, v)) 41) : Six w p F v := ⟨h.cell 0 _ rfl, h.cell 1 _ rfl, h.cell 2 _ rfl, h.cell 3 _ rfl, h.cell 4 _ rfl, h.cell 5 _ rfl⟩
theorem Row.stay {w w' : World} {g : Nat} {c : List Value} {t : TypeId} (h : Row w g c t) (hs : Tx.Stay t w w') : Row w' g c t := ⟨hs g _ h.at_⟩
theorem dec_any {w : World} {F : PF} (hf : F.fit) {v : Value} {B : Nat} (ho : OwnBy w B v F.enc) {W : World} (hb : Below w.heap.size w W) :
    Calls Try.prog 22 #[v] W fun e w' => Below W.heap.size W w' ∧ ∃ a n c, e = .returned (.tuple #[.agg #[.int .i64 F.k, .int .u64 F.s, .int .u64 F.n, .int .i64 F.c, .int .i64 F.h, .slice a n c], .int .i64 (F.enc.length : Nat), .int .i64 0]) ∧ Dt w' W.heap.size (.slice a n c) F.bs := by
  obtain ⟨a, c, rfl, hB, hc, hm, hz, _⟩ := ownBy_shape (own_below ho hb)
  refine (decode_any W a _ _ c hB rfl hc hm hz).mono ?_
  rintro e w' ⟨h1, h2⟩
  have hd := hf.dec []
  rw [List.append_nil] at hd
  rw [hd] at h2
  rcases h2 with ⟨h, _⟩ | ⟨_, d, he, hdt⟩
  · exact absurd rfl h
  · obtain ⟨a', n', c', rfl⟩ := hdt.shape
    refine ⟨h1, a', n', c', ?_, hdt⟩
    rw [he]
    simp
theorem fit_bs {F : PF} (h : F.fit) : F.bs.length ≤ 16384 ∧ F.enc.length ≤ 32768 := by
  have h1 := enc_two h
  obtain ⟨_, _, hl, _, _⟩ := faultI_zero h.2.2
  omega
theorem dt_stay {w w' : World} {B : Nat} {d : Value} {bs : List (BitVec 8)} (h : Dt w B d bs) (hs : Tx.Stay 5 w w') : Dt w' B d bs := by
  rcases h with h | ⟨g, h1, h2, h3⟩
  · exact .inl h
  · exact .inr ⟨g, h1, h2.stay hs, h3⟩
theorem own_rdM {w : World} {B : Nat} {e : TypeId} {size : Nat} {v : Value} {n : Nat} {xs : List Value} (h : w.ownsRow B e size v n xs) : ∃ a c, v = .slice a n c ∧ True := by
  obtain ⟨a, c, e⟩ := Tx.row_slice h
  exact ⟨a, c, e, trivial⟩
theorem encs_fits : ∀ (Gs : List PF), (∀ F ∈ Gs, F.fit) → (encs Gs).length ≤ Gs.length * 32768
  | [], _ => by simp [encs]
  | F :: r, h => by
    have h1 := encs_fits r (fun G hG => h G (List.mem_cons_of_mem _ hG))
    have h2 := (fit_bs (h F (List.mem_cons_self))).2
    have e : encs (F :: r) = F.enc ++ encs r := by simp [encs]
    rw [e, List.length_append, List.length_cons]
    omega
set_option maxHeartbeats 16000000 in
theorem own_main (w : World) (F G : PF) (ax ay : Option Addr) (cx cy : Nat) (hBF : BytesAt w ax F.bs) (hzF : ax = none → cx = 0) (hBG : BytesAt w ay G.bs) (hzG : ay = none → cy = 0) (hF : F.fit) (hG : G.fit) :
    Calls Try.prog 4 #[.agg #[.int .i64 F.k, .int .u64 F.s, .int .u64 F.n, .int .i64 F.c, .int .i64 F.h, .slice ax F.bs.length cx], .agg #[.int .i64 G.k, .int .u64 G.s, .int .u64 G.n, .int .i64 G.c, .int .i64 G.h, .slice ay G.bs.length cy]] w fun e w' => e = .returned (.bool true) ∧ Below w.heap.size w w' := by
  have HAW := hid (fun W => awake_any W)
  obtain ⟨fs, hfs⟩ : ∃ fs : List Fi, fs = [⟨F, ax, cx⟩, ⟨G, ay, cy⟩, ⟨F, ax, cx⟩, ⟨F, ax, cx⟩] := ⟨_, rfl⟩
  have hfl : fs.length = 4 := by rw [hfs]; rfl
  have HOK : Hid (∀ q ∈ fs, BytesAt w q.ax q.F.bs ∧ (q.ax = none → q.cx = 0) ∧ q.F.fit) := fun q hq => by
    rw [hfs] at hq
    simp only [List.mem_cons, List.not_mem_nil, or_false] at hq
    rcases hq with rfl | rfl | rfl | rfl
    · exact ⟨hBF, hzF, hF⟩
    · exact ⟨hBG, hzG, hG⟩
    · exact ⟨hBF, hzF, hF⟩
    · exact ⟨hBF, hzF, hF⟩
  have HLF : Hid (∀ W, Below w.heap.size w W → Calls Try.prog 19 #[.agg #[.int .i64 F.k, .int .u64 F.s, .int .u64 F.n, .int .i64 F.c, .int .i64 F.h, .slice ax F.bs.length cx]] W fun e w' => e = .returned (.bool true) ∧ Below W.heap.size W w') := fun W hb => by
    have := lfit_any W F.k F.s F.n F.c F.h ax F.bs _ cx (hBF.kept hb) rfl hzF hF.1 hF.2.1
    rw [decide_eq_true hF.2.2] at this
    exact this
  have HLG : Hid (∀ W, Below w.heap.size w W → Calls Try.prog 19 #[.agg #[.int .i64 G.k, .int .u64 G.s, .int .u64 G.n, .int .i64 G.c, .int .i64 G.h, .slice ay G.bs.length cy]] W fun e w' => e = .returned (.bool true) ∧ Below W.heap.size W w') := fun W hb => by
    have := lfit_any W G.k G.s G.n G.c G.h ay G.bs _ cy (hBG.kept hb) rfl hzG hG.1 hG.2.1
    rw [decide_eq_true hG.2.2] at this
    exact this
  have HFS := hid hfs
  have HFIT : Hid (∀ X ∈ fs.map (·.F), X.fit) := fun X hX => by
    obtain ⟨q, hq, rfl⟩ := List.mem_map.1 hX
    exact (HOK.out q hq).2.2
  have hbl := bsl53
  clear hBF hzF hBG hzG hF hG hfs
  obtain ⟨mF, hmF⟩ : ∃ m, F.bs.length = m := ⟨_, rfl⟩
  obtain ⟨mG, hmG⟩ : ∃ m, G.bs.length = m := ⟨_, rfl⟩
  rw [hmF] at HLF ⊢
  rw [hmG] at HLG ⊢
  have HMF := hid hmF
  have HMG := hid hmG
  clear hmF hmG
  go_enter Try.func4, Try.ntmps4
  go_upto_region 1 with fail
  refine wp_world ?_
  intro wa HW
  have HXA : Hid (Below w.heap.size w wa) := by show Below _ _ _; rw [HW.out]; exact ((Below.refl _ _).alloc (Nat.le_refl _) _).alloc (by simp) _
  have HRF : Hid (Row wa w.heap.size (pcells (F, .slice ax mF cx)) 41) := by show Row _ _ _ _; rw [HW.out]; exact (Row.new _ _ _).kept (below_new _ _) (by simp)
  have HRG : Hid (Row wa (w.heap.size + 1) (pcells (G, .slice ay mG cy)) 41) := by
    show Row _ _ _ _
    rw [HW.out]
    have := Row.new (w.alloc (.cells #[.int .i64 F.k, .int .u64 F.s, .int .u64 F.n, .int .i64 F.c, .int .i64 F.h, .slice ax mF cx] 41)) (pcells (G, .slice ay mG cy)) 41
    rw [show (w.alloc (.cells #[.int .i64 F.k, .int .u64 F.s, .int .u64 F.n, .int .i64 F.c, .int .i64 F.h, .slice ax mF cx] 41)).heap.size = w.heap.size + 1 by simp] at this
    exact this
  clear HW
  go_upto_region 3 with (go_at_call 18; refine (HAW.out _).mono ?_; rintro e w1 ⟨rfl, hb1⟩; have HX1 := hid (HXA.out.trans (hb1.mono HXA.out.size)); have HF1 := hid (HRF.out.kept hb1 HRF.out.lt); have HG1 := hid (HRG.out.kept hb1 HRG.out.lt); clear hb1)
  clear HXA HRF HRG HAW
  have HL1 := hid (HLF.out w1 HX1.out)
  obtain ⟨p0, p1, p2, p3, p4, p5⟩ := sixr HF1.out
  obtain ⟨q0, q1, q2, q3, q4, q5⟩ := sixr HG1.out
  go_upto_region 5 with (first
    | (go_at_call 19; refine HL1.out.mono ?_; clear HL1; rintro e w2 ⟨rfl, hb2⟩; have HX2 := hid (HX1.out.trans (hb2.mono HX1.out.size)); have HF2 := hid (HF1.out.kept hb2 HF1.out.lt); have HG2 := hid (HG1.out.kept hb2 HG1.out.lt); clear q0 q1 q2 q3 q4 q5; obtain ⟨q0, q1, q2, q3, q4, q5⟩ := sixr HG2.out; have HL2 := hid (HLG.out w2 HX2.out); clear hb2)
    | (go_at_call 19; refine HL2.out.mono ?_; clear HL2; rintro e w3 ⟨rfl, hb3⟩; have HX3 := hid (HX2.out.trans (hb3.mono HX2.out.size)); have HF3 := hid (HF2.out.kept hb3 HF2.out.lt); have HG3 := hid (HG2.out.kept hb3 HG2.out.lt); clear hb3))
  clear p0 p1 p2 p3 p4 p5 q0 q1 q2 q3 q4 q5 HX1 HX2 HF1 HF2 HG1 HG2 HLF HLG
  go_upto_region 7 with fail
  have HKQ : Hid (Kq w (w3.alloc (.cells #[.slice none 0 0, .slice none 0 0] 33)) w3.heap.size [] [] (.slice none 0 0)) := ⟨TBF.new w3 HX3.out.size, fun y hy => (by cases hy), List.Pairwise.nil⟩
  have hb4 := below_new w3 (.cells #[.slice none 0 0, .slice none 0 0] 33)
  have HX4 := hid (HX3.out.trans (hb4.mono HX3.out.size))
  have HF4 := hid (HF3.out.kept hb4 HF3.out.lt)
  have HG4 := hid (HG3.out.kept hb4 HG3.out.lt)
  clear HX3 HF3 HG3 hb4
  revert HKQ HX4 HF4 HG4
  generalize w3.alloc (.cells #[.slice none 0 0, .slice none 0 0] 33) = w4
  generalize w3.heap.size = bk
  intro HKQ HX4 HF4 HG4
  obtain ⟨p0, p1, p2, p3, p4, p5⟩ := sixr HF4.out
  obtain ⟨q0, q1, q2, q3, q4, q5⟩ := sixr HG4.out
  go_upto_region 8 with fail
  have HM0 : Hid (OwM w (w4.alloc (.cells #[.int .i64 F.k, .int .u64 F.s, .int .u64 F.n, .int .i64 F.c, .int .i64 F.h, .slice ax mF cx, .int .i64 G.k, .int .u64 G.s, .int .u64 G.n, .int .i64 G.c, .int .i64 G.h, .slice ay mG cy, .int .i64 F.k, .int .u64 F.s, .int .u64 F.n, .int .i64 F.c, .int .i64 F.h, .slice ax mF cx, .int .i64 F.k, .int .u64 F.s, .int .u64 F.n, .int .i64 F.c, .int .i64 F.h, .slice ax mF cx] 41)) w4.heap.size bk fs 0 (.slice none 0 0)) := by
    have hb := below_new w4 (.cells #[.int .i64 F.k, .int .u64 F.s, .int .u64 F.n, .int .i64 F.c, .int .i64 F.h, .slice ax mF cx, .int .i64 G.k, .int .u64 G.s, .int .u64 G.n, .int .i64 G.c, .int .i64 G.h, .slice ay mG cy, .int .i64 F.k, .int .u64 F.s, .int .u64 F.n, .int .i64 F.c, .int .i64 F.h, .slice ax mF cx, .int .i64 F.k, .int .u64 F.s, .int .u64 F.n, .int .i64 F.c, .int .i64 F.h, .slice ax mF cx] 41)
    have hr := Row.new w4 (flatP [(F, .slice ax mF cx), (G, .slice ay mG cy), (F, .slice ax mF cx), (F, .slice ax mF cx)]) 41
    refine ⟨HX4.out.trans (hb.mono HX4.out.size), fun j hj m x hx => ?_, ⟨_, hr.at_⟩, ⟨[], Nat.le_refl _, HKQ.out.kept hb⟩, by rw [List.take_zero]; exact ⟨rfl, .inl ⟨rfl, rfl⟩⟩⟩
    have hm : m < 6 := by have := (List.getElem?_eq_some_iff.1 hx).1; simpa [pcells] using this
    refine hr.cell (j * 6 + m) x ?_
    rw [flatP_at _ j m (by rw [hfl] at hj; exact hj) hm]
    have e : ∀ j (h1 : j < fs.length) (h2 : j < 4), (fs[j].F, fs[j].v) = [(F, Value.slice ax mF cx), (G, Value.slice ay mG cy), (F, Value.slice ax mF cx), (F, Value.slice ax mF cx)][j] := fun j h1 h2 => by
      have h3 := HFS.out
      subst h3
      match j, h2 with
      | 0, _ => simp [Fi.v, HMF.out]
      | 1, _ => simp [Fi.v, HMG.out]
      | 2, _ => simp [Fi.v, HMF.out]
      | 3, _ => simp [Fi.v, HMF.out]
    rw [← e j hj (by omega)]
    exact hx
  clear p0 p1 p2 p3 p4 p5 q0 q1 q2 q3 q4 q5 HX4 HF4 HG4 HKQ hbl
  revert HM0
  generalize w4.alloc (.cells #[.int .i64 F.k, .int .u64 F.s, .int .u64 F.n, .int .i64 F.c, .int .i64 F.h, .slice ax mF cx, .int .i64 G.k, .int .u64 G.s, .int .u64 G.n, .int .i64 G.c, .int .i64 G.h, .slice ay mG cy, .int .i64 F.k, .int .u64 F.s, .int .u64 F.n, .int .i64 F.c, .int .i64 F.h, .slice ax mF cx, .int .i64 F.k, .int .u64 F.s, .int .u64 F.n, .int .i64 F.c, .int .i64 F.h, .slice ax mF cx] 41) = w5
  generalize w4.heap.size = gL
  intro HM0
  clear HFS HMF HMG
  go_loopw [6, 52] (fun s6 s52 wr => ∃ i : Nat, i ≤ 4 ∧ s52 = .int .i64 i ∧ Hid (OwM w wr gL bk fs i s6)) (fun _ s _ => 5 - (intOf s).toNat)
  case atStart => exact ⟨0, Nat.zero_le _, rfl, HM0.out⟩
  case round =>
    obtain ⟨i, hi, rfl, HM⟩ := hrel
    clear HM0
    have hiI : (i : Int) ≤ 4 := by omega
    by_cases hlt : i < 4
    · have hlI : (i : Int) < 4 := by omega
      have hif : i < fs.length := by omega
      have hfi := HM.out.fi i hif
      obtain ⟨hBq, hzq, hFq⟩ := HOK.out fs[i] (List.getElem_mem hif)
      have henc : encs ((fs.take (i + 1)).map (·.F)) = encs ((fs.take i).map (·.F)) ++ fs[i].F.enc := by
        rw [List.take_succ_eq_append_getElem hif, List.map_append, encs_app]
        simp [encs]
      have HENC := hid henc
      obtain ⟨⟨H, aq, cq⟩, hq⟩ : ∃ q, fs[i] = q := ⟨_, rfl⟩
      rw [hq] at hfi hBq hzq hFq HENC
      simp only [Fi.v] at hfi hBq hzq hFq HENC
      obtain ⟨mq, hmq⟩ : ∃ m, H.bs.length = m := ⟨_, rfl⟩
      rw [hmq] at hfi
      have d0 := hfi 0 _ rfl
      have d1 := hfi 1 _ rfl
      have d2 := hfi 2 _ rfl
      have d3 := hfi 3 _ rfl
      have d4 := hfi 4 _ rfl
      have d5 := hfi 5 _ rfl
      rw [Nat.add_zero] at d0
      have HBQ := hid hBq
      have HZQ := hid hzq
      have HFQ := hid hFq
      have HMQ := hid hmq
      obtain ⟨a6, c6, e6, hB6, -, -, hz6, -⟩ := ownBy_shape HM.out.ob
      obtain ⟨n6, hn6⟩ : ∃ n, (encs ((fs.take i).map (·.F))).length = n := ⟨_, rfl⟩
      rw [hn6] at e6
      subst e6
      have HN6 := hid hn6
      clear hfi hBq hzq hFq henc hq hmq hB6 hz6 hn6 hif
      go_upto_region 10 with fail
      refine wp_world ?_
      intro w2 hw2
      have hb2 : Below wr.heap.size wr w2 := by rw [hw2.out]; exact below_new _ _
      have HRX : Hid (Row w2 wr.heap.size (pcells (H, .slice aq mq cq)) 41) := by show Row _ _ _ _; rw [hw2.out]; exact Row.new _ _ _
      have HM2 := hid (HM.out.kept hb2)
      clear hw2 hb2 d0 d1 d2 d3 d4 d5
      generalize wr.heap.size = gX at *
      obtain ⟨X0, hX0, hK0⟩ := HM2.out.kq
      have HX0 := hid hX0
      have HK2 := hid hK0
      have HENL : Hid (H.enc.length ≤ 32768 ∧ H.bs.length ≤ 32768) := by have := fit_bs HFQ.out; exact ⟨this.2, by omega⟩
      have hen := encode_any w2 H.k H.s H.n H.c H.h aq H.bs _ cq (HBQ.out.kept HM2.out.be) HMQ.out HZQ.out HFQ.out.1 HFQ.out.2.1
      unfold EncAns at hen
      rw [HFQ.out.2.2, show encO H.k H.s H.n H.c H.h H.bs = H.enc by unfold encO; rw [if_pos HFQ.out.2.2]; rfl] at hen
      have HEN := hid hen
      clear hX0 hK0 hen
      obtain ⟨p0, p1, p2, p3, p4, p5⟩ := sixr HRX.out
      obtain ⟨nE, hnE⟩ : ∃ n, H.enc.length = n := ⟨_, rfl⟩
      have HNE := hid hnE
      clear hnE
      go_upto_region 11 with (go_at_call 21; refine HEN.out.mono ?_; rintro e w3 ⟨v3, rfl, ho3, hb3⟩; have HO3 := hid ho3; have HB3 := hid hb3; have HK3 := hid (HK2.out.add hb3 ho3 HENL.out.1); obtain ⟨a3, c3, e3, -⟩ := ownBy_shape ho3; rw [HNE.out] at e3; subst e3; clear ho3 hb3)
      clear HEN p0 p1 p2 p3 p4 p5 HK2
      have HM3 := hid (HM2.out.kept HB3.out)
      have HRX3 := hid (HRX.out.kept HB3.out HRX.out.lt)
      clear HM2 HRX HB3
      have HCP : Hid (Calls Try.prog 6 #[.slice a3 nE c3] w3 fun e w' => ∃ v', e = .returned v' ∧ OwnBy w' w3.heap.size v' H.enc ∧ Below w3.heap.size w3 w') := by
        obtain ⟨a', c', e1, h1, _, _, h2, _⟩ := ownBy_shape HO3.out
        injection e1 with e1 e2 e3
        subst e1 e3
        exact copy_any h1 HNE.out h2 (by have := HENL.out.1; have := HNE.out; omega)
      go_upto_region 12 with (go_at_call 6; refine HCP.out.mono ?_; rintro e w4 ⟨v4, rfl, ho4, hb4⟩; have HO4 := hid ho4; have HB4 := hid hb4; have HK4 := hid (HK3.out.add hb4 ho4 HENL.out.1); obtain ⟨a4, c4, e4, -⟩ := ownBy_shape ho4; rw [HNE.out] at e4; subst e4; clear ho4 hb4)
      have HM4 := hid (HM3.out.kept HB4.out)
      have HRX4 := hid (HRX3.out.kept HB4.out HRX3.out.lt)
      have HO3b := hid (own_below HO3.out HB4.out)
      clear HM3 HRX3 HB4 HK3 HCP HO3
      have HDC : Hid (∀ W, Below w4.heap.size w4 W → Calls Try.prog 22 #[.slice a4 nE c4] W fun e w' => Below W.heap.size W w' ∧ ∃ a n c, e = .returned (.tuple #[.agg #[.int .i64 H.k, .int .u64 H.s, .int .u64 H.n, .int .i64 H.c, .int .i64 H.h, .slice a n c], .int .i64 (nE : Nat), .int .i64 0]) ∧ Dt w' W.heap.size (.slice a n c) H.bs) := fun W hb => by
        have := dec_any HFQ.out HO4.out hb
        rw [HNE.out] at this
        exact this
      have HD4 := hid (HDC.out w4 (Below.refl _ _))
      go_upto_region 13 with (go_at_call 22; refine HD4.out.mono ?_; rintro e w5 ⟨hb5, a5, n5, c5, rfl, hd5⟩; have HB5 := hid hb5; have HD5 := hid hd5; clear hb5 hd5)
      refine wp_world ?_
      intro w6 hw6
      have hb56 : Below w5.heap.size w5 w6 := by rw [hw6.out]; exact below_new _ _
      have HRY6 : Hid (Row w6 w5.heap.size (pcells (H, .slice a5 n5 c5)) 41) := by show Row _ _ _ _; rw [hw6.out]; exact Row.new _ _ _
      have HB6 : Hid (Below w4.heap.size w4 w6) := HB5.out.trans (hb56.mono HB5.out.size)
      have HK6 : Hid (Kq w w6 bk X0 [(.slice a3 nE c3, H.enc), (.slice a4 nE c4, H.enc), (.slice a5 n5 c5, H.bs)] (.slice a6 n6 c6)) := (HK4.out.add HB5.out (dt_own HD5.out HENL.out.2) HENL.out.2).kept hb56
      have HE5 : Hid (Dt w6 w4.heap.size (.slice a5 n5 c5) H.bs) := HD5.out.frT (S := fun _ => False) (Fr.of_below hb56 (Nat.le_refl _)) (fun _ _ _ _ e => e)
      clear hw6 hb56 HK4 HD4 HB5 HD5
      generalize w5.heap.size = gY at *
      have HD7 := hid (HDC.out w6 HB6.out)
      go_upto_region 14 with (go_at_call 22; refine HD7.out.mono ?_; rintro e w7 ⟨hb7, a7, n7, c7, rfl, hd7⟩; have HB7 := hid hb7; have HD8 := hid hd7; clear hb7 hd7)
      refine wp_world ?_
      intro w8 hw8
      have hb78 : Below w7.heap.size w7 w8 := by rw [hw8.out]; exact below_new _ _
      have HRZ : Hid (Row w8 w7.heap.size (pcells (H, .slice a7 n7 c7)) 41) := by show Row _ _ _ _; rw [hw8.out]; exact Row.new _ _ _
      have HB68 : Hid (Below w6.heap.size w6 w8) := HB7.out.trans (hb78.mono HB7.out.size)
      have HB8 : Hid (Below w4.heap.size w4 w8) := HB6.out.trans (HB68.out.mono HB6.out.size)
      have HK8 : Hid (Kq w w8 bk X0 [(.slice a3 nE c3, H.enc), (.slice a4 nE c4, H.enc), (.slice a5 n5 c5, H.bs), (.slice a7 n7 c7, H.bs)] (.slice a6 n6 c6)) := (HK6.out.add HB7.out (dt_own HD8.out HENL.out.2) HENL.out.2).kept hb78
      have HRY := hid (HRY6.out.kept HB68.out HRY6.out.lt)
      have HRX := hid (HRX4.out.kept HB8.out HRX4.out.lt)
      have HM8 := hid (HM4.out.kept HB8.out)
      have HO3c := hid (own_below HO3b.out HB8.out)
      have HSA : Hid (Calls Try.prog 12 #[.agg #[.int .i64 H.k, .int .u64 H.s, .int .u64 H.n, .int .i64 H.c, .int .i64 H.h, .slice aq mq cq], .agg #[.int .i64 H.k, .int .u64 H.s, .int .u64 H.n, .int .i64 H.c, .int .i64 H.h, .slice a5 n5 c5]] w8 fun e w' => e = .returned (.bool true) ∧ Below w8.heap.size w8 w') := by
        obtain ⟨a', c', e1, h1, _⟩ := ownBy_shape (own_below (dt_own HE5.out HENL.out.2) HB68.out)
        injection e1 with e1 e2 e3
        subst e1 e2 e3
        refine (rsame_any w8 H.k H.s H.n H.c H.h H.k H.s H.n H.c H.h aq a5 H.bs H.bs mq H.bs.length cq c5 (HBQ.out.kept HM8.out.be) HMQ.out h1 rfl).mono ?_
        rintro e w' ⟨rfl, hb⟩
        exact ⟨by rw [decide_eq_true ⟨rfl, rfl, rfl, rfl, rfl, rfl⟩], hb⟩
      clear hw8 hb78 HK6 HD7 HB7 HD8 HDC HB6 HRY6 HRX4 HM4 HO3b HB8 HB68 HO4 HE5
      generalize w7.heap.size = gZ at *
      obtain ⟨p0, p1, p2, p3, p4, p5⟩ := sixr HRX.out
      obtain ⟨q0, q1, q2, q3, q4, q5⟩ := sixr HRY.out
      go_upto_region 16 with (go_at_call 12; refine HSA.out.mono ?_; rintro e w9 ⟨rfl, hb9⟩; have HK9 := hid (HK8.out.kept hb9); have HRY9 := hid (HRY.out.kept hb9 HRY.out.lt); have HRZ9 := hid (HRZ.out.kept hb9 HRZ.out.lt); have HM9 := hid (HM8.out.kept hb9); have HO9 := hid (own_below HO3c.out hb9); clear hb9)
      clear p0 p1 p2 p3 p4 p5 q0 q1 q2 q3 q4 q5 HSA HK8 HRY HRZ HM8 HO3c HRX
      have HC9 : Hid (BytesAt w9 a3 H.enc ∧ (a3 = none → c3 = 0)) := by
        obtain ⟨a', c', e1, h1, _, _, h2, _⟩ := ownBy_shape HO9.out
        injection e1 with e1 e2 e3
        subst e1 e3
        exact ⟨h1, h2⟩
      have HOB : Hid (w9.ownsRow w.heap.size 5 1 (.slice a6 n6 c6) n6 (bcells (encs ((fs.take i).map (·.F))))) := by
        have := HM9.out.ob
        unfold OwnBy at this
        rw [HN6.out] at this
        exact this
      have HLL : Hid (n6 + nE ≤ 140737488355328) := by
        have h1 := encs_fits ((fs.take i).map (·.F)) (fun X hX => HFIT.out X (by
          obtain ⟨q, hq, rfl⟩ := List.mem_map.1 hX
          exact List.mem_map.2 ⟨q, List.mem_of_mem_take hq, rfl⟩))
        have h2 := HENL.out.1
        have h3 := HN6.out
        have h4 := HNE.out
        have h5 : ((fs.take i).map (·.F)).length ≤ 4 := by rw [List.length_map, List.length_take]; omega
        have h6 : ((fs.take i).map (·.F)).length * 32768 ≤ 4 * 32768 := Nat.mul_le_mul_right _ h5
        show n6 + nE ≤ _
        omega
      go_upto_region 17 with (at_builtin; refine wpAppendA (.tmp 93) (.tmp 94) rfl rfl (base := w.heap.size) rfl HOB.out HM9.out.be.size rfl HC9.out.2 HNE.out HC9.out.1 HLL.out ?_; intro w10 v10 hO10 hg10; have HO10 := hid hO10.out; have HG10 := hid hg10.out; clear hO10 hg10)
      obtain ⟨a10, c10, e10, -⟩ := own_rdM HO10.out
      subst e10
      have hrow : ∀ g, (Value.slice a6 n6 c6).ownBlock = some g → ∃ cs, w9.heap[g]? = some (.cells cs 5 (0, 0)) := fun g e => Tx.row_type HOB.out e
      have HS10 : Hid (Tx.Stay 41 w9 w10) := stay_rowM HG10.out.1 hrow (by decide)
      have HK10 : Hid (Kq w w10 bk X0 [(.slice a3 nE c3, H.enc), (.slice a4 nE c4, H.enc), (.slice a5 n5 c5, H.bs), (.slice a7 n7 c7, H.bs)] (.slice a10 (n6 + nE) c10)) := HK9.out.app HM9.out.ob HG10.out.1 HG10.out.2 (fun g e => (HO10.out.lt g e).2)
      have HBE10 : Hid (Below w.heap.size w w10) := HM9.out.be.grown HG10.out.1 HM9.out.be.size (fun g e => own_ge HOB.out e)
      have HRY10 := hid (HRY9.out.stay HS10.out)
      have HRZ10 := hid (HRZ9.out.stay HS10.out)
      have HO10b : Hid (OwnBy w10 w.heap.size (.slice a10 (n6 + nE) c10) (encs ((fs.take i).map (·.F)) ++ H.enc)) := by
        have := HO10.out
        unfold Hid OwnBy
        rw [List.length_append, HN6.out, HNE.out]
        exact this
      clear hrow HO10 HG10 HOB HK9 HRY9 HRZ9 HO9 HC9 HLL
      have HQ1 := hid (HK10.out.keep (by have := HX0.out; omega))
      go_upto_region 18 with (go_at_call 16; refine HQ1.out.mono ?_; rintro e w11 ⟨rfl, h1, h2, h3, h4⟩; have HK11 := hid h1; have HA11 := hid (And.intro h2 (And.intro h3 h4)); clear h1 h2 h3 h4)
      clear HQ1 HK10
      have HQ2 := hid (HK11.out.keep (by have := HX0.out; simp; omega))
      go_upto_region 19 with (go_at_call 16; refine HQ2.out.mono ?_; rintro e w12 ⟨rfl, h1, h2, h3, h4⟩; have HK12 := hid h1; have HA12 := hid (And.intro h2 (And.intro h3 h4)); clear h1 h2 h3 h4)
      clear HQ2 HK11
      have HRY12 := hid ((HRY10.out.stay HA11.out.1).stay HA12.out.1)
      have HRZ12 := hid ((HRZ10.out.stay HA11.out.1).stay HA12.out.1)
      have q5 := HRY12.out.cell 5 _ rfl
      have HQ3 := hid (HK12.out.keep (by have := HX0.out; simp; omega))
      go_upto_region 20 with (go_at_call 16; refine HQ3.out.mono ?_; rintro e w13 ⟨rfl, h1, h2, h3, h4⟩; have HK13 := hid h1; have HA13 := hid (And.intro h2 (And.intro h3 h4)); clear h1 h2 h3 h4)
      clear HQ3 HK12 q5
      have z5 := (HRZ12.out.stay HA13.out.1).cell 5 _ rfl
      have HQ4 := hid (HK13.out.keep (by have := HX0.out; simp; omega))
      go_wp2_with (go_at_call 16; refine HQ4.out.mono ?_; rintro e w14 ⟨rfl, h1, h2, h3, h4⟩; have HK14 := hid h1; have HA14 := hid (And.intro h2 (And.intro h3 h4)); clear h1 h2 h3 h4)
      go_roundw
      case rel =>
        have S41 : ∀ (k : Nat) (cs : Array Value), w9.heap[k]? = some (.cells cs 41 (0, 0)) → w14.heap[k]? = some (.cells cs 41 (0, 0)) := fun k cs h => HA14.out.1 k cs (HA13.out.1 k cs (HA12.out.1 k cs (HA11.out.1 k cs (HS10.out k cs h))))
        obtain ⟨cs, hcs⟩ := HM9.out.gl
        refine ⟨i + 1, hlt, by go_num, (((HBE10.out.trans HA11.out.2.2).trans HA12.out.2.2).trans HA13.out.2.2).trans HA14.out.2.2, fun j hj m x hx => cells_stay hcs S41 (HM9.out.fi j hj m x hx), ⟨cs, S41 gL cs hcs⟩, ⟨_, ?_, HK14.out⟩, ?_⟩
        · have := HX0.out
          simp
          omega
        · rw [HENC.out]
          exact Tx.own_stay (Tx.own_stay (Tx.own_stay (Tx.own_stay HO10b.out HA11.out.2.1) HA12.out.2.1) HA13.out.2.1) HA14.out.2.1
      case measure => simp [intOf]; omega
    · obtain rfl : i = 4 := by omega
      obtain ⟨X0, hX0, hK0⟩ := HM.out.kq
      have HX0 := hid hX0
      have HK0 := hid hK0
      have hob := HM.out.ob
      have htk : (fs.take 4).map (·.F) = fs.map (·.F) := by rw [← hfl, List.take_length]
      rw [htk] at hob
      obtain ⟨Gs, hGs⟩ : ∃ Gs, fs.map (·.F) = Gs := ⟨_, rfl⟩
      have hGl : Gs.length = 4 := by rw [← hGs, List.length_map, hfl]
      rw [hGs] at hob HFIT
      have HGL := hid hGl
      have HBE := hid HM.out.be
      have hE : (encs Gs).length ≤ 67108864 := by
        have := encs_fits Gs HFIT.out
        rw [hGl] at this
        omega
      obtain ⟨a6, c6, e6, -⟩ := ownBy_shape hob
      obtain ⟨n6, hn6⟩ : ∃ n, (encs Gs).length = n := ⟨_, rfl⟩
      rw [hn6] at e6
      subst e6
      have hb2 := below_new wr (.cells #[.slice a6 n6 c6] 27)
      have hob2 : OwnBy (wr.alloc (.cells #[.slice a6 n6 c6] 27)) w.heap.size (.slice a6 n6 c6) (encs Gs) := own_below hob hb2
      have HAL : Hid (Calls Try.prog 23 #[.slice (some ⟨wr.heap.size, 0, none⟩) 1 1, .bool false] (wr.alloc (.cells #[.slice a6 n6 c6] 27)) fun e w' => ∃ (a2 : Option Addr) (c2 : Nat) (x6 lf : Int) (Ps : List (PF × Value)), e = .returned (.tuple #[.slice a2 4 c2, .int .i64 0, .int .u64 x6, .int .i64 lf]) ∧ FrV w' (wr.alloc (.cells #[.slice a6 n6 c6] 27)).heap.size (.slice a2 4 c2) Ps ∧ Ps.map (·.1) = Gs ∧ Below (wr.alloc (.cells #[.slice a6 n6 c6] 27)).heap.size (wr.alloc (.cells #[.slice a6 n6 c6] 27)) w') := by
        refine (lall_any (c := 1) (n := 1) (Ts := [encs Gs]) rfl (one_pcs (Row.new wr [.slice a6 n6 c6] 27) hob2) false (by simpa using hE) (by decide)).mono ?_
        rintro e w' ⟨v, lf, rfl, _, ⟨Ps, hF, hm⟩, hB⟩
        have e1 : [encs Gs].flatten = encs Gs := by simp
        rw [e1, Pr_all HFIT.out] at hm
        replace hm : Ps.map (·.1) = Gs := hm
        obtain ⟨a2, c2, e2, -⟩ := own_rdM hF.own
        have hl : Ps.length = 4 := by rw [← hGl, ← hm, List.length_map]
        rw [hl] at e2
        subst e2
        refine ⟨a2, c2, (([encs Gs].flatten.length - (Pr [encs Gs].flatten).2.2.length : Nat) : Int), (lf : Int), Ps, ?_, hF, hm, hB⟩
        rw [e1, Pr_all HFIT.out]
      have HK1 := hid (HK0.out.kept hb2)
      have HX1 := hid (HBE.out.trans (hb2.mono HBE.out.size))
      have HXL : Hid (w.heap.size ≤ (wr.alloc (.cells #[.slice a6 n6 c6] 27)).heap.size) := HX1.out.size
      have hbs := bsl31
      clear hX0 hK0 hob htk hGs hE hn6 hb2 hob2 HM HK0 HBE
      go_upto_region 23 with (go_at_call 23; refine HAL.out.mono ?_; rintro e w3 ⟨a2, c2, x6, lf, Ps, rfl, hF3, hm3, hb3⟩; have HF3 := hid hF3; have HM3 := hid hm3; have HB3 := hid hb3; clear hF3 hm3 hb3)
      have HPL : Hid (Ps.length = 4) := by show _ = _; rw [← HGL.out, ← HM3.out, List.length_map]
      have HBS : Hid (∀ x ∈ Ps, x.1.bs.length ≤ 32768) := fun x hx => by
        have := fit_bs (HFIT.out x.1 (by rw [← HM3.out]; exact List.mem_map.2 ⟨x, hx, rfl⟩))
        omega
      have HK3 : Hid (Kq w w3 bk X0 (Ps.map fun x => (x.2, x.1.bs)) (.slice a6 n6 c6)) := by
        have := HK1.out.adds (V2 := Ps.map fun x => (x.2, x.1.bs)) HB3.out (fun y hy => by
          obtain ⟨x, hx, rfl⟩ := List.mem_map.1 hy
          exact ⟨dt_own (HF3.out.dt x hx) (HBS.out x hx), HBS.out x hx⟩) (List.pairwise_map.2 HF3.out.ap)
        rw [List.nil_append] at this
        exact this
      have HX3 := hid (HX1.out.trans (HB3.out.mono HX1.out.size))
      clear HAL HK1 HX1 HB3 hbs
      go_wp2_with fail
      go_loopw [117] (fun s117 wx => ∃ k : Nat, k ≤ 4 ∧ s117 = .int .i64 k ∧ Hid (∃ X, X.length ≤ 16 + k ∧ Kq w wx bk X ((Ps.drop k).map fun x => (x.2, x.1.bs)) (.slice a6 n6 c6)) ∧ Hid (FrV wx w.heap.size (.slice a2 4 c2) Ps) ∧ Hid (Below w.heap.size w wx)) (fun s _ => 5 - (intOf s).toNat)
      case atStart => exact ⟨0, Nat.zero_le _, rfl, ⟨X0, HX0.out, HK3.out⟩, ⟨own_less HF3.out.own HXL.out, fun x hx => (HF3.out.dt x hx).less HXL.out, HF3.out.ap⟩, HX3.out⟩
      case round =>
        obtain ⟨k, hk, rfl, HK, HF, HB⟩ := hrel
        clear HK3 HF3 HX3
        have hkI : (k : Int) ≤ 4 := by omega
        by_cases hkl : k < 4
        · have hklI : (k : Int) < 4 := by omega
          have hkP : k < Ps.length := by rw [HPL.out]; exact hkl
          obtain ⟨a', c', e', hat⟩ := HF.out.at
          rw [HPL.out] at e'
          injection e' with e1 _ e3
          subst e1 e3
          obtain ⟨g2, ax2, cx2, rfl, h2, hB2, hc2⟩ := hat k hkP
          obtain ⟨X1, hX1, hK1⟩ := HK.out
          rw [List.drop_eq_getElem_cons hkP, List.map_cons] at hK1
          have hkeep : ∀ W, Kq w W bk X1 ((Ps[k].2, Ps[k].1.bs) :: (Ps.drop (k + 1)).map fun x => (x.2, x.1.bs)) (.slice a6 n6 c6) → Calls Try.prog 16 #[.pointer (some ⟨bk, 0, none⟩), .slice ax2 Ps[k].1.bs.length cx2] W fun e w' => e = .returned (.tuple #[]) ∧ Kq w w' bk (X1 ++ [Ps[k].2]) ((Ps.drop (k + 1)).map fun x => (x.2, x.1.bs)) (.slice a6 n6 c6) ∧ Tx.Stay 41 W w' ∧ Tx.Stay 5 W w' ∧ Below w.heap.size W w' := fun W hW => by
            have := hW.keep (by omega)
            rw [show ((Ps[k].2, Ps[k].1.bs) : Value × List (BitVec 8)).1 = .slice ax2 Ps[k].1.bs.length cx2 from h2] at this
            rw [h2]
            exact this
          have HKE := hid hkeep
          have HK1 := hid hK1
          have HX1 := hid hX1
          have p0 := hc2 0 _ rfl
          have p1 := hc2 1 _ rfl
          have p2 := hc2 2 _ rfl
          have p3 := hc2 3 _ rfl
          have p4 := hc2 4 _ rfl
          have p5 := hc2 5 _ rfl
          rw [Nat.add_zero] at p0
          rw [h2] at p5
          clear hat h2 hB2 hc2 hK1 hkeep hX1
          go_upto_region 26 with fail
          refine wp_world ?_
          intro w4 hw4
          have hb4 : Below wr.heap.size wr w4 := by rw [hw4.out]; exact below_new _ _
          have r5 : w4.cell? ⟨wr.heap.size, 5, none⟩ = some (.slice ax2 Ps[k].1.bs.length cx2) := by rw [hw4.out]; exact (Row.new _ [_, _, _, _, _, _] _).cell 5 _ rfl
          have HF4 := hid (HF.out.kept hb4)
          have HB4 := hid (HB.out.trans (hb4.mono HB.out.size))
          have HQ4 := hid (HKE.out w4 (HK1.out.kept hb4))
          clear hw4 hb4 p0 p1 p2 p3 p4 p5 HKE HK1
          go_wp2_with (go_at_call 16; refine HQ4.out.mono ?_; rintro e w5 ⟨rfl, h1, h2, h3, h4⟩; have HK5 := hid h1; have HA5 := hid (And.intro h2 (And.intro h3 h4)); clear h1 h2 h3 h4)
          go_roundw
          case rel => exact ⟨k + 1, hkl, by go_num, ⟨_, by have := HX1.out; simp; omega, HK5.out⟩, ⟨Tx.own_stay HF4.out.own HA5.out.1, fun x hx => dt_stay (HF4.out.dt x hx) HA5.out.2.1, HF4.out.ap⟩, HB4.out.trans HA5.out.2.2⟩
          case measure => simp [intOf]; omega
        · obtain rfl : k = 4 := by omega
          obtain ⟨X1, hX1, hK1⟩ := HK.out
          have HGD := hid (hK1.tb.tb.good (by decide) (by omega))
          clear hX1 hK1
          go_wp2_with (go_at_call 17; refine HGD.out.mono ?_; rintro e w5 ⟨rfl, -, hb5⟩; have HB5 := hid hb5; clear hb5)
          go_ret
          exact ⟨rfl, HB.out.trans HB5.out⟩
end Go.Proofs.Ytkhogbnoincbeab
namespace Go.Proofs.Ytkhogbnoincbeab
open Go.RowKit Go.Maps Go.Sort
set_option maxRecDepth 100000

theorem toKr {f : FuncId} {args : Array Value} {w : World} {v : Value} (h : ∀ W, Below w.heap.size w W → Calls Try.prog f args W fun e w' => e = .returned v ∧ Below W.heap.size W w') : ∀ d os, Calls Try.prog f args (grow (redrawn w d) os) fun e w'' => e = .returned v ∧ ∃ p : Regrown, w'' = grow (redrawn w p.d) p.os := fun d os => Calls.regrown_of (h _ (below_regrown w d os))
set_option maxHeartbeats 8000000 in
theorem own_not (w : World) (F G : PF) (ax ay : Option Addr) (cx cy mF mG : Nat) (bF bG : Bool) (hb : ¬ (bF = true ∧ bG = true))
    (HLF : Hid (∀ W, Below w.heap.size w W → Calls Try.prog 19 #[.agg #[.int .i64 F.k, .int .u64 F.s, .int .u64 F.n, .int .i64 F.c, .int .i64 F.h, .slice ax mF cx]] W fun e w' => e = .returned (.bool bF) ∧ Below W.heap.size W w'))
    (HLG : Hid (∀ W, Below w.heap.size w W → Calls Try.prog 19 #[.agg #[.int .i64 G.k, .int .u64 G.s, .int .u64 G.n, .int .i64 G.c, .int .i64 G.h, .slice ay mG cy]] W fun e w' => e = .returned (.bool bG) ∧ Below W.heap.size W w'))
    (HIF : Hid (∀ W, Below w.heap.size w W → Calls Try.prog 20 #[.agg #[.int .i64 F.k, .int .u64 F.s, .int .u64 F.n, .int .i64 F.c, .int .i64 F.h, .slice ax mF cx]] W fun e w' => e = .returned (.bool bF) ∧ Below W.heap.size W w'))
    (HIG : Hid (∀ W, Below w.heap.size w W → Calls Try.prog 20 #[.agg #[.int .i64 G.k, .int .u64 G.s, .int .u64 G.n, .int .i64 G.c, .int .i64 G.h, .slice ay mG cy]] W fun e w' => e = .returned (.bool bG) ∧ Below W.heap.size W w')) :
    Calls Try.prog 4 #[.agg #[.int .i64 F.k, .int .u64 F.s, .int .u64 F.n, .int .i64 F.c, .int .i64 F.h, .slice ax mF cx], .agg #[.int .i64 G.k, .int .u64 G.s, .int .u64 G.n, .int .i64 G.c, .int .i64 G.h, .slice ay mG cy]] w fun e w' => e = .returned (.bool true) ∧ Below w.heap.size w w' := by
  have HAW := hid (fun W => awake_any W)
  cases bF with
  | false =>
    clear hb
    cases bG with
    | false =>
      go_enter Try.func4, Try.ntmps4
      go_upto_region 1 with fail
      refine wp_world ?_
      intro wa HW
      have HXA : Hid (Below w.heap.size w wa) := by show Below _ _ _; rw [HW.out]; exact ((Below.refl _ _).alloc (Nat.le_refl _) _).alloc (by simp) _
      have HRF : Hid (Row wa w.heap.size (pcells (F, .slice ax mF cx)) 41) := by show Row _ _ _ _; rw [HW.out]; exact (Row.new _ _ _).kept (below_new _ _) (by simp)
      have HRG : Hid (Row wa (w.heap.size + 1) (pcells (G, .slice ay mG cy)) 41) := by
        show Row _ _ _ _
        rw [HW.out]
        have := Row.new (w.alloc (.cells #[.int .i64 F.k, .int .u64 F.s, .int .u64 F.n, .int .i64 F.c, .int .i64 F.h, .slice ax mF cx] 41)) (pcells (G, .slice ay mG cy)) 41
        rw [show (w.alloc (.cells #[.int .i64 F.k, .int .u64 F.s, .int .u64 F.n, .int .i64 F.c, .int .i64 F.h, .slice ax mF cx] 41)).heap.size = w.heap.size + 1 by simp] at this
        exact this
      clear HW
      go_upto_region 3 with (go_at_call 18; refine (HAW.out _).mono ?_; rintro e w1 ⟨rfl, hb1⟩; have HX1 := hid (HXA.out.trans (hb1.mono HXA.out.size)); have HF1 := hid (HRF.out.kept hb1 HRF.out.lt); have HG1 := hid (HRG.out.kept hb1 HRG.out.lt); clear hb1)
      clear HXA HRF HRG HAW
      have HL1 := hid (HLF.out w1 HX1.out)
      obtain ⟨p0, p1, p2, p3, p4, p5⟩ := sixr HF1.out
      obtain ⟨q0, q1, q2, q3, q4, q5⟩ := sixr HG1.out
      go_upto_region 4 with (go_at_call 19; refine HL1.out.mono ?_; clear HL1; rintro e w3 ⟨rfl, hb2⟩; have HX3 := hid (HX1.out.trans (hb2.mono HX1.out.size)); have HF3 := hid (HF1.out.kept hb2 HF1.out.lt); have HG3 := hid (HG1.out.kept hb2 HG1.out.lt); clear hb2)
      clear p0 p1 p2 p3 p4 p5 q0 q1 q2 q3 q4 q5 HX1 HF1 HG1
      have HT1 := hid (toKr fun W hb => HIF.out W (HX3.out.trans (hb.mono HX3.out.size)))
      have HT2 := hid (toKr fun W hb => HLF.out W (HX3.out.trans (hb.mono HX3.out.size)))
      have HT3 := hid (toKr fun W hb => HIG.out W (HX3.out.trans (hb.mono HX3.out.size)))
      have HT4 := hid (toKr fun W hb => HLG.out W (HX3.out.trans (hb.mono HX3.out.size)))
      have p0 : ∀ d os, (grow (redrawn w3 d) os).cell? _ = _ := fun d os => cell_kept (below_regrown w3 d os) (sixr HF3.out).1
      have p1 : ∀ d os, (grow (redrawn w3 d) os).cell? _ = _ := fun d os => cell_kept (below_regrown w3 d os) (sixr HF3.out).2.1
      have p2 : ∀ d os, (grow (redrawn w3 d) os).cell? _ = _ := fun d os => cell_kept (below_regrown w3 d os) (sixr HF3.out).2.2.1
      have p3 : ∀ d os, (grow (redrawn w3 d) os).cell? _ = _ := fun d os => cell_kept (below_regrown w3 d os) (sixr HF3.out).2.2.2.1
      have p4 : ∀ d os, (grow (redrawn w3 d) os).cell? _ = _ := fun d os => cell_kept (below_regrown w3 d os) (sixr HF3.out).2.2.2.2.1
      have p5 : ∀ d os, (grow (redrawn w3 d) os).cell? _ = _ := fun d os => cell_kept (below_regrown w3 d os) (sixr HF3.out).2.2.2.2.2
      have q0 : ∀ d os, (grow (redrawn w3 d) os).cell? _ = _ := fun d os => cell_kept (below_regrown w3 d os) (sixr HG3.out).1
      have q1 : ∀ d os, (grow (redrawn w3 d) os).cell? _ = _ := fun d os => cell_kept (below_regrown w3 d os) (sixr HG3.out).2.1
      have q2 : ∀ d os, (grow (redrawn w3 d) os).cell? _ = _ := fun d os => cell_kept (below_regrown w3 d os) (sixr HG3.out).2.2.1
      have q3 : ∀ d os, (grow (redrawn w3 d) os).cell? _ = _ := fun d os => cell_kept (below_regrown w3 d os) (sixr HG3.out).2.2.2.1
      have q4 : ∀ d os, (grow (redrawn w3 d) os).cell? _ = _ := fun d os => cell_kept (below_regrown w3 d os) (sixr HG3.out).2.2.2.2.1
      have q5 : ∀ d os, (grow (redrawn w3 d) os).cell? _ = _ := fun d os => cell_kept (below_regrown w3 d os) (sixr HG3.out).2.2.2.2.2
      clear HF3 HG3 HLF HLG HIF HIG
      refine wp_region_quiet_below (by kernel_rfl) (by decide +kernel) ?_
      iterate 2 (quiet_step ((go_at_call 20; exact HT1.out _ _)))
      clear HT1
      iterate 5 (quiet_step ((go_at_call 19; exact HT2.out _ _)))
      clear HT2
      iterate 2 (quiet_step ((go_at_call 20; exact HT3.out _ _)))
      clear HT3
      iterate 4 (quiet_step ((go_at_call 19; exact HT4.out _ _)))
      refine wpQuiet_nil ?_
      intro _ hw'
      obtain ⟨⟨dq, osq⟩, hw''⟩ := hw'
      subst hw''
      have HBQ := hid (below_regrown w3 dq osq)
      clear p0 p1 p2 p3 p4 p5 q0 q1 q2 q3 q4 q5
      go_wp2_with fail
      go_ret
      exact ⟨rfl, HX3.out.trans (HBQ.out.mono HX3.out.size)⟩
    | true =>
      go_enter Try.func4, Try.ntmps4
      go_upto_region 1 with fail
      refine wp_world ?_
      intro wa HW
      have HXA : Hid (Below w.heap.size w wa) := by show Below _ _ _; rw [HW.out]; exact ((Below.refl _ _).alloc (Nat.le_refl _) _).alloc (by simp) _
      have HRF : Hid (Row wa w.heap.size (pcells (F, .slice ax mF cx)) 41) := by show Row _ _ _ _; rw [HW.out]; exact (Row.new _ _ _).kept (below_new _ _) (by simp)
      have HRG : Hid (Row wa (w.heap.size + 1) (pcells (G, .slice ay mG cy)) 41) := by
        show Row _ _ _ _
        rw [HW.out]
        have := Row.new (w.alloc (.cells #[.int .i64 F.k, .int .u64 F.s, .int .u64 F.n, .int .i64 F.c, .int .i64 F.h, .slice ax mF cx] 41)) (pcells (G, .slice ay mG cy)) 41
        rw [show (w.alloc (.cells #[.int .i64 F.k, .int .u64 F.s, .int .u64 F.n, .int .i64 F.c, .int .i64 F.h, .slice ax mF cx] 41)).heap.size = w.heap.size + 1 by simp] at this
        exact this
      clear HW
      go_upto_region 3 with (go_at_call 18; refine (HAW.out _).mono ?_; rintro e w1 ⟨rfl, hb1⟩; have HX1 := hid (HXA.out.trans (hb1.mono HXA.out.size)); have HF1 := hid (HRF.out.kept hb1 HRF.out.lt); have HG1 := hid (HRG.out.kept hb1 HRG.out.lt); clear hb1)
      clear HXA HRF HRG HAW
      have HL1 := hid (HLF.out w1 HX1.out)
      obtain ⟨p0, p1, p2, p3, p4, p5⟩ := sixr HF1.out
      obtain ⟨q0, q1, q2, q3, q4, q5⟩ := sixr HG1.out
      go_upto_region 4 with (go_at_call 19; refine HL1.out.mono ?_; clear HL1; rintro e w3 ⟨rfl, hb2⟩; have HX3 := hid (HX1.out.trans (hb2.mono HX1.out.size)); have HF3 := hid (HF1.out.kept hb2 HF1.out.lt); have HG3 := hid (HG1.out.kept hb2 HG1.out.lt); clear hb2)
      clear p0 p1 p2 p3 p4 p5 q0 q1 q2 q3 q4 q5 HX1 HF1 HG1
      have HT1 := hid (toKr fun W hb => HIF.out W (HX3.out.trans (hb.mono HX3.out.size)))
      have HT2 := hid (toKr fun W hb => HLF.out W (HX3.out.trans (hb.mono HX3.out.size)))
      have HT3 := hid (toKr fun W hb => HIG.out W (HX3.out.trans (hb.mono HX3.out.size)))
      have HT4 := hid (toKr fun W hb => HLG.out W (HX3.out.trans (hb.mono HX3.out.size)))
      have p0 : ∀ d os, (grow (redrawn w3 d) os).cell? _ = _ := fun d os => cell_kept (below_regrown w3 d os) (sixr HF3.out).1
      have p1 : ∀ d os, (grow (redrawn w3 d) os).cell? _ = _ := fun d os => cell_kept (below_regrown w3 d os) (sixr HF3.out).2.1
      have p2 : ∀ d os, (grow (redrawn w3 d) os).cell? _ = _ := fun d os => cell_kept (below_regrown w3 d os) (sixr HF3.out).2.2.1
      have p3 : ∀ d os, (grow (redrawn w3 d) os).cell? _ = _ := fun d os => cell_kept (below_regrown w3 d os) (sixr HF3.out).2.2.2.1
      have p4 : ∀ d os, (grow (redrawn w3 d) os).cell? _ = _ := fun d os => cell_kept (below_regrown w3 d os) (sixr HF3.out).2.2.2.2.1
      have p5 : ∀ d os, (grow (redrawn w3 d) os).cell? _ = _ := fun d os => cell_kept (below_regrown w3 d os) (sixr HF3.out).2.2.2.2.2
      have q0 : ∀ d os, (grow (redrawn w3 d) os).cell? _ = _ := fun d os => cell_kept (below_regrown w3 d os) (sixr HG3.out).1
      have q1 : ∀ d os, (grow (redrawn w3 d) os).cell? _ = _ := fun d os => cell_kept (below_regrown w3 d os) (sixr HG3.out).2.1
      have q2 : ∀ d os, (grow (redrawn w3 d) os).cell? _ = _ := fun d os => cell_kept (below_regrown w3 d os) (sixr HG3.out).2.2.1
      have q3 : ∀ d os, (grow (redrawn w3 d) os).cell? _ = _ := fun d os => cell_kept (below_regrown w3 d os) (sixr HG3.out).2.2.2.1
      have q4 : ∀ d os, (grow (redrawn w3 d) os).cell? _ = _ := fun d os => cell_kept (below_regrown w3 d os) (sixr HG3.out).2.2.2.2.1
      have q5 : ∀ d os, (grow (redrawn w3 d) os).cell? _ = _ := fun d os => cell_kept (below_regrown w3 d os) (sixr HG3.out).2.2.2.2.2
      clear HF3 HG3 HLF HLG HIF HIG
      refine wp_region_quiet_below (by kernel_rfl) (by decide +kernel) ?_
      iterate 2 (quiet_step ((go_at_call 20; exact HT1.out _ _)))
      clear HT1
      iterate 5 (quiet_step ((go_at_call 19; exact HT2.out _ _)))
      clear HT2
      iterate 2 (quiet_step ((go_at_call 20; exact HT3.out _ _)))
      clear HT3
      iterate 4 (quiet_step ((go_at_call 19; exact HT4.out _ _)))
      refine wpQuiet_nil ?_
      intro _ hw'
      obtain ⟨⟨dq, osq⟩, hw''⟩ := hw'
      subst hw''
      have HBQ := hid (below_regrown w3 dq osq)
      clear p0 p1 p2 p3 p4 p5 q0 q1 q2 q3 q4 q5
      go_wp2_with fail
      go_ret
      exact ⟨rfl, HX3.out.trans (HBQ.out.mono HX3.out.size)⟩
  | true =>
    cases bG with
    | false =>
      clear hb
      go_enter Try.func4, Try.ntmps4
      go_upto_region 1 with fail
      refine wp_world ?_
      intro wa HW
      have HXA : Hid (Below w.heap.size w wa) := by show Below _ _ _; rw [HW.out]; exact ((Below.refl _ _).alloc (Nat.le_refl _) _).alloc (by simp) _
      have HRF : Hid (Row wa w.heap.size (pcells (F, .slice ax mF cx)) 41) := by show Row _ _ _ _; rw [HW.out]; exact (Row.new _ _ _).kept (below_new _ _) (by simp)
      have HRG : Hid (Row wa (w.heap.size + 1) (pcells (G, .slice ay mG cy)) 41) := by
        show Row _ _ _ _
        rw [HW.out]
        have := Row.new (w.alloc (.cells #[.int .i64 F.k, .int .u64 F.s, .int .u64 F.n, .int .i64 F.c, .int .i64 F.h, .slice ax mF cx] 41)) (pcells (G, .slice ay mG cy)) 41
        rw [show (w.alloc (.cells #[.int .i64 F.k, .int .u64 F.s, .int .u64 F.n, .int .i64 F.c, .int .i64 F.h, .slice ax mF cx] 41)).heap.size = w.heap.size + 1 by simp] at this
        exact this
      clear HW
      go_upto_region 3 with (go_at_call 18; refine (HAW.out _).mono ?_; rintro e w1 ⟨rfl, hb1⟩; have HX1 := hid (HXA.out.trans (hb1.mono HXA.out.size)); have HF1 := hid (HRF.out.kept hb1 HRF.out.lt); have HG1 := hid (HRG.out.kept hb1 HRG.out.lt); clear hb1)
      clear HXA HRF HRG HAW
      have HL1 := hid (HLF.out w1 HX1.out)
      obtain ⟨p0, p1, p2, p3, p4, p5⟩ := sixr HF1.out
      obtain ⟨q0, q1, q2, q3, q4, q5⟩ := sixr HG1.out
      go_upto_region 4 with (first
        | (go_at_call 19; refine HL1.out.mono ?_; clear HL1; rintro e w2 ⟨rfl, hb2⟩; have HX2 := hid (HX1.out.trans (hb2.mono HX1.out.size)); have HF2 := hid (HF1.out.kept hb2 HF1.out.lt); have HG2 := hid (HG1.out.kept hb2 HG1.out.lt); clear q0 q1 q2 q3 q4 q5; obtain ⟨q0, q1, q2, q3, q4, q5⟩ := sixr HG2.out; have HL2 := hid (HLG.out w2 HX2.out); clear hb2)
        | (go_at_call 19; refine HL2.out.mono ?_; clear HL2; rintro e w3 ⟨rfl, hb3⟩; have HX3 := hid (HX2.out.trans (hb3.mono HX2.out.size)); have HF3 := hid (HF2.out.kept hb3 HF2.out.lt); have HG3 := hid (HG2.out.kept hb3 HG2.out.lt); clear hb3))
      clear p0 p1 p2 p3 p4 p5 q0 q1 q2 q3 q4 q5 HX1 HX2 HF1 HF2 HG1 HG2
      have HT1 := hid (toKr fun W hb => HIF.out W (HX3.out.trans (hb.mono HX3.out.size)))
      have HT2 := hid (toKr fun W hb => HLF.out W (HX3.out.trans (hb.mono HX3.out.size)))
      have HT3 := hid (toKr fun W hb => HIG.out W (HX3.out.trans (hb.mono HX3.out.size)))
      have HT4 := hid (toKr fun W hb => HLG.out W (HX3.out.trans (hb.mono HX3.out.size)))
      have p0 : ∀ d os, (grow (redrawn w3 d) os).cell? _ = _ := fun d os => cell_kept (below_regrown w3 d os) (sixr HF3.out).1
      have p1 : ∀ d os, (grow (redrawn w3 d) os).cell? _ = _ := fun d os => cell_kept (below_regrown w3 d os) (sixr HF3.out).2.1
      have p2 : ∀ d os, (grow (redrawn w3 d) os).cell? _ = _ := fun d os => cell_kept (below_regrown w3 d os) (sixr HF3.out).2.2.1
      have p3 : ∀ d os, (grow (redrawn w3 d) os).cell? _ = _ := fun d os => cell_kept (below_regrown w3 d os) (sixr HF3.out).2.2.2.1
      have p4 : ∀ d os, (grow (redrawn w3 d) os).cell? _ = _ := fun d os => cell_kept (below_regrown w3 d os) (sixr HF3.out).2.2.2.2.1
      have p5 : ∀ d os, (grow (redrawn w3 d) os).cell? _ = _ := fun d os => cell_kept (below_regrown w3 d os) (sixr HF3.out).2.2.2.2.2
      have q0 : ∀ d os, (grow (redrawn w3 d) os).cell? _ = _ := fun d os => cell_kept (below_regrown w3 d os) (sixr HG3.out).1
      have q1 : ∀ d os, (grow (redrawn w3 d) os).cell? _ = _ := fun d os => cell_kept (below_regrown w3 d os) (sixr HG3.out).2.1
      have q2 : ∀ d os, (grow (redrawn w3 d) os).cell? _ = _ := fun d os => cell_kept (below_regrown w3 d os) (sixr HG3.out).2.2.1
      have q3 : ∀ d os, (grow (redrawn w3 d) os).cell? _ = _ := fun d os => cell_kept (below_regrown w3 d os) (sixr HG3.out).2.2.2.1
      have q4 : ∀ d os, (grow (redrawn w3 d) os).cell? _ = _ := fun d os => cell_kept (below_regrown w3 d os) (sixr HG3.out).2.2.2.2.1
      have q5 : ∀ d os, (grow (redrawn w3 d) os).cell? _ = _ := fun d os => cell_kept (below_regrown w3 d os) (sixr HG3.out).2.2.2.2.2
      clear HF3 HG3 HLF HLG HIF HIG
      refine wp_region_quiet_below (by kernel_rfl) (by decide +kernel) ?_
      iterate 2 (quiet_step ((go_at_call 20; exact HT1.out _ _)))
      clear HT1
      iterate 5 (quiet_step ((go_at_call 19; exact HT2.out _ _)))
      clear HT2
      iterate 2 (quiet_step ((go_at_call 20; exact HT3.out _ _)))
      clear HT3
      iterate 4 (quiet_step ((go_at_call 19; exact HT4.out _ _)))
      refine wpQuiet_nil ?_
      intro _ hw'
      obtain ⟨⟨dq, osq⟩, hw''⟩ := hw'
      subst hw''
      have HBQ := hid (below_regrown w3 dq osq)
      clear p0 p1 p2 p3 p4 p5 q0 q1 q2 q3 q4 q5
      go_wp2_with fail
      go_ret
      exact ⟨rfl, HX3.out.trans (HBQ.out.mono HX3.out.size)⟩
    | true => exact absurd ⟨rfl, rfl⟩ hb
/-- Bytes and Data that are handed out are new memory. -/
theorem own_law (w : World) (F G : PF) (ax ay : Option Addr) (cx cy : Nat) (hBF : BytesAt w ax F.bs) (hzF : ax = none → cx = 0) (hBG : BytesAt w ay G.bs) (hzG : ay = none → cy = 0) (hF : 0 ≤ F.s ∧ 0 ≤ F.n) (hG : 0 ≤ G.s ∧ 0 ≤ G.n) :
    Calls Try.prog 4 #[.agg #[.int .i64 F.k, .int .u64 F.s, .int .u64 F.n, .int .i64 F.c, .int .i64 F.h, .slice ax F.bs.length cx], .agg #[.int .i64 G.k, .int .u64 G.s, .int .u64 G.n, .int .i64 G.c, .int .i64 G.h, .slice ay G.bs.length cy]] w fun e w' => e = .returned (.bool true) ∧ Below w.heap.size w w' := by
  by_cases h : faultI F.k F.s F.n F.c F.h F.bs.length = 0 ∧ faultI G.k G.s G.n G.c G.h G.bs.length = 0
  · exact own_main w F G ax ay cx cy hBF hzF hBG hzG ⟨hF.1, hF.2, h.1⟩ ⟨hG.1, hG.2, h.2⟩
  · exact own_not w F G ax ay cx cy _ _ (decide (faultI F.k F.s F.n F.c F.h F.bs.length = 0)) (decide (faultI G.k G.s G.n G.c G.h G.bs.length = 0)) (fun e => h ⟨of_decide_eq_true e.1, of_decide_eq_true e.2⟩)
      (fun W hb => lfit_any W F.k F.s F.n F.c F.h ax F.bs _ cx (hBF.kept hb) rfl hzF hF.1 hF.2)
      (fun W hb => lfit_any W G.k G.s G.n G.c G.h ay G.bs _ cy (hBG.kept hb) rfl hzG hG.1 hG.2)
      (fun W hb => fit_any W F.k F.s F.n F.c F.h ax F.bs.length cx) (fun W hb => fit_any W G.k G.s G.n G.c G.h ay G.bs.length cy)
end Go.Proofs.Ytkhogbnoincbeab
