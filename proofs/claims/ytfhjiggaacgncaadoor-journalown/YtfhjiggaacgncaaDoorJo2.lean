import Derived.Test.YtfhjiggaacgncaaDoorJo1
namespace Go.Proofs.YtfhjiggaacgncaaDoor
open Go.RowKit Go.Maps Go.Sort
set_option maxRecDepth 100000

/-- The book of texts, new since w, with so many texts at most. -/
def OwT (w wr : World) (N : Nat) : Prop := ∃ X, X.length ≤ N ∧ Tx.TB w.heap.size w.heap.size 65536 wr X ∧ Below w.heap.size w wr
theorem stay_grown {w w' : World} {row : Option Nat} {t t' : TypeId} (hg : w.grownBy w' row) (hr : ∀ g, row = some g → ∃ cs, w.heap[g]? = some (.cells cs t' (0, 0))) (ht : t ≠ t') : Tx.Stay t w w' := fun k cs hk => by
  refine (hg.block k (Array.getElem?_eq_some_iff.1 hk).1 (fun e => ?_)).trans hk
  obtain ⟨c', hc'⟩ := hr k e.symm
  exact ht (cells_type hk hc')
section
variable {w wr w' : World} {N : Nat}
theorem OwT.be (h : OwT w wr N) : Below w.heap.size w wr := by
  obtain ⟨X, h1, h2, h3⟩ := h
  exact h3
theorem OwT.kept (h : OwT w wr N) (hb : Below wr.heap.size wr w') : OwT w w' N := by
  obtain ⟨X, h1, h2, h3⟩ := h
  exact ⟨X, h1, h2.below hb, h3.trans (hb.mono h3.size)⟩
theorem OwT.new (w : World) : OwT w (w.alloc (.cells #[.slice none 0 0, .slice none 0 0] 67)) 0 :=
  ⟨[], Nat.le_refl _, Tx.TB.new w (Nat.le_refl _), below_new w _⟩
/-- A row of records is turned, or grows. -/
theorem OwT.turn (h : OwT w wr N) {row : Option Nat} (hg : wr.grownBy w' row) (hr : ∀ g, row = some g → w.heap.size ≤ g ∧ ∃ cs, wr.heap[g]? = some (.cells cs 41 (0, 0))) : OwT w w' N := by
  obtain ⟨X, h1, h2, h3⟩ := h
  have hs := fun t (ht : t ≠ 41) => stay_grown (t := t) hg (fun g e => (hr g e).2) ht
  exact ⟨X, h1, h2.stay (hs 5 (by decide)) (hs 30 (by decide)) (hs 67 (by decide)) hg.size, h3.grown hg h3.size (fun g e => (hr g e).1)⟩
/-- One text more, that is new memory. -/
theorem OwT.keep (h : OwT w wr N) (hb : Below wr.heap.size wr w') {v : Value} {bs : List (BitVec 8)} (ov : OwnBy w' wr.heap.size v bs) (hm : bs.length ≤ 65536) (hN : N ≤ 1000000) :
    Calls Tryd.prog 46 #[pt w.heap.size 0, v] w' fun e w'' => e = .returned (.tuple #[]) ∧ OwT w w'' (N + 1) := by
  obtain ⟨X, h1, h2, h3⟩ := h
  refine ((h2.below hb).keep (own_less ov h3.size) (fun j hj g e e' => ?_) hm (by decide) (by omega)).mono ?_
  · have k1 := h2.lt hj e
    have k2 := own_ge ov e'
    omega
  · rintro e w'' ⟨rfl, k1, _, k3⟩
    exact ⟨rfl, X ++ [v], by simp; omega, k1, (h3.trans (hb.mono h3.size)).trans k3⟩
/-- All is still what it was. -/
theorem OwT.good (h : OwT w wr N) (hN : N ≤ 1000000) : Calls Tryd.prog 32 #[pt w.heap.size 0] wr fun e w' => e = .returned (.bool true) ∧ Below w.heap.size w w' := by
  obtain ⟨X, h1, h2, h3⟩ := h
  refine (h2.good (by decide) (by omega)).mono ?_
  rintro e w' ⟨rfl, _, k⟩
  exact ⟨rfl, h3.trans k⟩
/-- The book, while the bodies of a list of records are kept. -/
structure InT (w wr : World) (N : Nat) (v : Value) (R : List Rc) (k : Nat) : Prop where
  ex : ∃ X, X.length ≤ N + k ∧ Tx.TB w.heap.size w.heap.size 65536 wr X ∧ ∀ i (_ : i < R.length), k ≤ i → ∀ x ∈ X, ∀ g, x.ownBlock = some g → R[i].v.ownBlock ≠ some g
  bel : Below w.heap.size w wr
  rec_ : wr.ownsRow w.heap.size 41 3 v R.length (flatR 0 R)
  by_ : ∀ i (_ : i < R.length), OwnBy wr w.heap.size R[i].v R[i].b
  ap : ∀ i j (_ : i < R.length) (_ : j < R.length), i ≠ j → ∀ g, R[i].v.ownBlock = some g → R[j].v.ownBlock ≠ some g
  few : ∀ i (_ : i < R.length), R[i].b.length ≤ 65536
theorem OwT.start (h : OwT w wr N) (hb : Below wr.heap.size wr w') {v : Value} {P : Rcs} (hR : RecW w' wr.heap.size v P) (hP : ∀ x ∈ P, x.2.length ≤ 65536) : ∃ R : List Rc, R.length = P.length ∧ InT w w' N v R 0 := by
  obtain ⟨X, h1, h2, h3⟩ := h
  obtain ⟨R, e1, e2, e3, e4⟩ := hR.ex
  refine ⟨R, by rw [← e1]; simp, ⟨X, h1, h2.below hb, fun i hi _ x hx g e e' => ?_⟩, h3.trans (hb.mono h3.size), own_less e2 h3.size, fun i hi => own_less (e3 i hi) h3.size, e4, fun i hi => ?_⟩
  · obtain ⟨j, hj, rfl⟩ := List.getElem_of_mem hx
    have k1 := h2.lt hj e
    have k2 := own_ge (e3 i hi) e'
    omega
  · refine hP (R[i].k, R[i].b) ?_
    rw [← e1]
    exact List.mem_map.2 ⟨_, List.getElem_mem hi, rfl⟩
variable {v : Value} {R : List Rc} {k : Nat}
theorem InT.kept (h : InT w wr N v R k) (hb : Below wr.heap.size wr w') : InT w w' N v R k := by
  obtain ⟨X, h1, h2, h3⟩ := h.ex
  exact ⟨⟨X, h1, h2.below hb, h3⟩, h.bel.trans (hb.mono h.bel.size), own_below h.rec_ hb, fun i hi => own_below (h.by_ i hi) hb, h.ap, h.few⟩
theorem InT.keep (h : InT w wr N v R k) (hk : k < R.length) (hN : N + R.length ≤ 1000000) : Calls Tryd.prog 46 #[pt w.heap.size 0, R[k].v] wr fun e w' => e = .returned (.tuple #[]) ∧ InT w w' N v R (k + 1) := by
  obtain ⟨X, h1, h2, h3⟩ := h.ex
  refine (h2.keep (h.by_ k hk) (fun j hj g e => h3 k hk (Nat.le_refl _) _ (List.getElem_mem hj) g e) (h.few k hk) (by decide) (by omega)).mono ?_
  rintro e w' ⟨rfl, k1, k2, k3⟩
  refine ⟨rfl, ⟨X ++ [R[k].v], by simp; omega, k1, fun i hi hik x hx g e => ?_⟩, h.bel.trans k3, Tx.own_stay h.rec_ (k2 41 (by decide) (by decide)), fun i hi => Tx.own_stay (h.by_ i hi) (k2 5 (by decide) (by decide)), h.ap, h.few⟩
  rcases List.mem_append.1 hx with hx | hx
  · exact h3 i hi (by omega) x hx g e
  · rw [List.mem_singleton] at hx
    subst hx
    exact h.ap k i hk hi (by omega) g e
theorem InT.done (h : InT w wr N v R k) : OwT w wr (N + k) := by
  obtain ⟨X, h1, h2, _⟩ := h.ex
  exact ⟨X, h1, h2, h.bel⟩
theorem InT.cells (h : InT w wr N v R k) (hk : k < R.length) : ∃ g c xa xn xc, v = .slice (some ⟨g, 0, none⟩) R.length c ∧ R[k].v = .slice xa xn xc ∧ wr.cell? ⟨g, k * 3, none⟩ = some (.int .u64 (k : Nat)) ∧ wr.cell? ⟨g, k * 3 + 1, none⟩ = some (.int .u8 (ub R[k].k)) ∧ wr.cell? ⟨g, k * 3 + 2, none⟩ = some (.slice xa xn xc) := by
  obtain ⟨xa, xc, ex, -⟩ := own_len (h.by_ k hk)
  rcases h.rec_.2 with ⟨_, hn⟩ | ⟨g, cap, cur, e, hb, hg, hnc, hcm, hcs, htk⟩
  · omega
  · have c : ∀ j, j < 3 → wr.cell? ⟨g, k * 3 + j, none⟩ = (rcells k R[k])[j]? := fun j hj => by
      have := flatR_at R 0 k j hk hj
      rw [Nat.zero_add, ← htk, List.getElem?_take, if_pos (by omega), Array.getElem?_toList] at this
      rw [cell_of_row wr g _ _ _ _ hg]
      exact this
    refine ⟨g, cap, xa, _, xc, e, ex, c 0 (by decide), c 1 (by decide), ?_⟩
    rw [c 2 (by decide), ← ex]
    rfl
/-- Two lists of records beside the book: a is turned, b is not. -/
structure AbT (w wr : World) (N : Nat) (P : Rcs) (va vb : Value) (na : Nat) : Prop where
  t : OwT w wr N
  a : ∃ xs, wr.ownsRow w.heap.size 41 3 va na xs
  b : ∃ C, RecV wr C vb P ∧ (∀ g, va.ownBlock = some g → g < C) ∧ C ≤ wr.heap.size
theorem RecV.kept {P : Rcs} {C : Nat} {vb : Value} (h : RecV wr C vb P) (hb : Below wr.heap.size wr w') : RecV w' C vb P := by
  obtain ⟨R, h1, h2, h3⟩ := h
  exact ⟨R, h1, own_below h2 hb, fun x hx => own_below (h3 x hx) hb⟩
theorem RecV.grown {P : Rcs} {C : Nat} {vb : Value} {row : Option Nat} (h : RecV wr C vb P) (hg : wr.grownBy w' row) (hr : ∀ g, row = some g → g < C ∧ ∃ cs, wr.heap[g]? = some (.cells cs 41 (0, 0))) : RecV w' C vb P := by
  obtain ⟨R, h1, h2, h3⟩ := h
  refine ⟨R, h1, Tx.own_kept h2 hg (fun g e e' => ?_), fun x hx => Tx.own_stay (h3 x hx) (stay_grown hg (fun g e => (hr g e).2) (by decide))⟩
  have k1 := own_ge h2 e
  have k2 := (hr g e').1
  omega
theorem AbT.start {P : Rcs} (h : OwT w wr N) {w1 w2 : World} {va vb : Value} (hb1 : Below wr.heap.size wr w1) (ha : RecV w1 wr.heap.size va P) (hb2 : Below w1.heap.size w1 w2) (hb : RecV w2 w1.heap.size vb P) : AbT w w2 N P va vb P.length := by
  obtain ⟨R, h1, h2, h3⟩ := ha
  have hl : R.length = P.length := by rw [← h1]; simp
  rw [hl] at h2
  exact ⟨(h.kept hb1).kept hb2, ⟨_, own_below (own_less h2 h.be.size) hb2⟩, w1.heap.size, hb, fun g e => own_lt h2 e, hb2.size⟩
variable {P : Rcs} {va vb : Value} {na : Nat}
theorem AbT.some_ (h : AbT w wr N P va vb na) (hn : 0 < na) : ∃ g c, va = .slice (some ⟨g, 0, none⟩) na c := by
  obtain ⟨xs, h1⟩ := h.a
  rcases h1.2 with ⟨_, h0⟩ | ⟨g, c, _, e, _⟩
  · omega
  · exact ⟨g, c, e⟩
theorem AbT.grown (h : AbT w wr N P va vb na) (hg : wr.grownBy w' va.ownBlock) : OwT w w' N ∧ ∃ C, RecV w' C vb P ∧ (∀ g, va.ownBlock = some g → g < C) ∧ C ≤ w'.heap.size := by
  obtain ⟨xs, h1⟩ := h.a
  obtain ⟨C, h2, h3, h4⟩ := h.b
  exact ⟨h.t.turn hg (fun g e => ⟨own_ge h1 e, own_blk h1 e⟩), C, h2.grown hg (fun g e => ⟨h3 g e, own_blk h1 e⟩), h3, Nat.le_trans h4 hg.size⟩
/-- Three cells of the first list are written. -/
theorem AbT.put {g c : Nat} (h : AbT w wr N P (.slice (some ⟨g, 0, none⟩) na c) vb na) (i : Nat) (hi : i < na) (v0 v1 v2 : Value) :
    (∃ y, wr.cell? ⟨g, i * 3, none⟩ = some y) ∧ wr.frozen? ⟨g, i * 3, none⟩ = false ∧
    (∃ y, (wr.setCell ⟨g, i * 3, none⟩ v0).cell? ⟨g, i * 3 + 1, none⟩ = some y) ∧ (wr.setCell ⟨g, i * 3, none⟩ v0).frozen? ⟨g, i * 3 + 1, none⟩ = false ∧
    (∃ y, ((wr.setCell ⟨g, i * 3, none⟩ v0).setCell ⟨g, i * 3 + 1, none⟩ v1).cell? ⟨g, i * 3 + 2, none⟩ = some y) ∧ ((wr.setCell ⟨g, i * 3, none⟩ v0).setCell ⟨g, i * 3 + 1, none⟩ v1).frozen? ⟨g, i * 3 + 2, none⟩ = false ∧
    AbT w (((wr.setCell ⟨g, i * 3, none⟩ v0).setCell ⟨g, i * 3 + 1, none⟩ v1).setCell ⟨g, i * 3 + 2, none⟩ v2) N P (.slice (some ⟨g, 0, none⟩) na c) vb na := by
  obtain ⟨xs, ho⟩ := h.a
  have hl := ho.1
  obtain ⟨h1, g1⟩ := ho.stored (i * 3) v0
  obtain ⟨h2, g2⟩ := h1.stored (i * 3 + 1) v1
  obtain ⟨h3, g3⟩ := h2.stored (i * 3 + 2) v2
  have hgr := h.grown ((g1.trans g2).trans g3)
  exact ⟨⟨_, (ho.cellAt _ (by omega)).trans (List.getElem?_eq_getElem (by omega))⟩, ho.frozenAt _, ⟨_, (h1.cellAt _ (by omega)).trans (List.getElem?_eq_getElem (by simp; omega))⟩, h1.frozenAt _, ⟨_, (h2.cellAt _ (by omega)).trans (List.getElem?_eq_getElem (by simp; omega))⟩, h2.frozenAt _, hgr.1, ⟨_, h3⟩, hgr.2⟩
end
end Go.Proofs.YtfhjiggaacgncaaDoor
