import Derived.Test.YtnohammflhadpaaSb30
namespace Go.Proofs.Ytnohammflhadpaa
open Go.RowKit Go.Maps Go.Sort
set_option maxRecDepth 100000

theorem Fr.own {S : Nat → Prop} {w w' : World} (hf : Fr S w w') {base : Nat} {e : TypeId} {size : Nat} {v : Value} {n : Nat} {xs : List Value} (h : w.ownsRow base e size v n xs) (hv : ∀ x, v.ownBlock = some x → ¬ S x) : w'.ownsRow base e size v n xs := by
  refine ⟨h.1, h.2.imp id ?_⟩
  rintro ⟨g, cap, cur, h1, h2, h3, h4⟩
  exact ⟨g, cap, cur, h1, h2, (hf.block g (Array.getElem?_eq_some_iff.1 h3).1 (hv g (by rw [h1]; rfl))).trans h3, h4⟩
theorem own_lt {w : World} {base : Nat} {e : TypeId} {size : Nat} {v : Value} {n : Nat} {xs : List Value} (h : w.ownsRow base e size v n xs) {g : Nat} (hg : v.ownBlock = some g) : g < w.heap.size := by
  rcases h.2 with ⟨rfl, _⟩ | ⟨g', cap, cur, rfl, h1, h2, _⟩
  · simp [Value.ownBlock] at hg
  · simp [Value.ownBlock] at hg
    subst hg
    exact (Array.getElem?_eq_some_iff.1 h2).1
/-- Two streams, the box of the setup, and two rows of numbers, all apart. -/
structure CutS (w0 wr : World) (st : List Value) (pb pc : Nat) (Fb Fc : Sb) (B C : Nat → Prop) (v9 v10 : Value) (A9 A10 : List Int) : Prop where
  b : Bf wr pb Fb B
  c : Bf wr pc Fc C
  dj : ∀ x, B x → ¬ C x
  lb : ∀ x, B x → w0.heap.size < x
  lc : ∀ x, C x → w0.heap.size < x
  bel : Below w0.heap.size w0 wr
  box : Row wr w0.heap.size st 24
  o9 : wr.ownsRow (w0.heap.size + 1) 22 1 v9 A9.length (A9.map fun x => .int .u64 x)
  o10 : wr.ownsRow (w0.heap.size + 1) 3 1 v10 A10.length (A10.map fun x => .int .i64 x)
  s9 : ∀ x, v9.ownBlock = some x → ¬ B x ∧ ¬ C x
  s10 : ∀ x, v10.ownBlock = some x → ¬ B x ∧ ¬ C x
section
variable {w0 wr w1 : World} {st : List Value} {pb pc : Nat} {Fb Fc : Sb} {B C : Nat → Prop} {v9 v10 : Value} {A9 A10 : List Int}
theorem CutS.kept (h : CutS w0 wr st pb pc Fb Fc B C v9 v10 A9 A10) (hb : Below wr.heap.size wr w1) : CutS w0 w1 st pb pc Fb Fc B C v9 v10 A9 A10 :=
  ⟨h.b.kept hb, h.c.kept hb, h.dj, h.lb, h.lc, h.bel.trans (hb.mono h.bel.size), h.box.kept hb h.box.lt, own_below h.o9 hb, own_below h.o10 hb, h.s9, h.s10⟩
theorem CutS.turnC (h : CutS w0 wr st pb pc Fb Fc B C v9 v10 A9 A10) {Fc' : Sb} (hc : Bf w1 pc Fc' (grew C wr w1)) (hf : Fr C wr w1) : CutS w0 w1 st pb pc Fb Fc' B (grew C wr w1) v9 v10 A9 A10 := by
  have hl := h.box.lt
  refine ⟨h.b.far hf h.dj, hc, fun x hx hy => ?_, h.lb, fun x hx => ?_, h.bel.trans (hf.below (fun x hx => Nat.le_of_lt (h.lc x hx)) h.bel.size), hf.row h.box (fun hx => by have := h.lc _ hx; omega), hf.own h.o9 (fun x hx => (h.s9 x hx).2), hf.own h.o10 (fun x hx => (h.s10 x hx).2), fun x hx => ⟨(h.s9 x hx).1, fun hy => ?_⟩, fun x hx => ⟨(h.s10 x hx).1, fun hy => ?_⟩⟩
  · rcases hy with hy | hy
    · exact h.dj x hx hy
    · have := h.b.lt x hx; omega
  · rcases hx with hx | hx
    · exact h.lc x hx
    · omega
  · rcases hy with hy | hy
    · exact (h.s9 x hx).2 hy
    · have := own_lt h.o9 hx; omega
  · rcases hy with hy | hy
    · exact (h.s10 x hx).2 hy
    · have := own_lt h.o10 hx; omega
theorem CutS.symm (h : CutS w0 wr st pb pc Fb Fc B C v9 v10 A9 A10) : CutS w0 wr st pc pb Fc Fb C B v9 v10 A9 A10 :=
  ⟨h.c, h.b, fun x hx hy => h.dj x hy hx, h.lc, h.lb, h.bel, h.box, h.o9, h.o10, fun x hx => ⟨(h.s9 x hx).2, (h.s9 x hx).1⟩, fun x hx => ⟨(h.s10 x hx).2, (h.s10 x hx).1⟩⟩
theorem CutS.turnB (h : CutS w0 wr st pb pc Fb Fc B C v9 v10 A9 A10) {Fb' : Sb} (hb : Bf w1 pb Fb' (grew B wr w1)) (hf : Fr B wr w1) : CutS w0 w1 st pb pc Fb' Fc (grew B wr w1) C v9 v10 A9 A10 := (h.symm.turnC hb hf).symm
/-- One row of numbers has grown. -/
theorem CutS.push9 (h : CutS w0 wr st pb pc Fb Fc B C v9 v10 A9 A10) {ob : Obj} {v : Value} {z : Int} (ho : w1.ownsRow (w0.heap.size + 1) 22 1 v (A9.length + 1) ((A9.map fun x => .int .u64 x) ++ [.int .u64 z])) (hg : (wr.alloc ob).grownBy w1 v9.ownBlock) (ha : v.ownBlock = v9.ownBlock ∨ v.ownBlock = some (wr.alloc ob).heap.size) :
    CutS w0 w1 st pb pc Fb Fc B C v v10 (A9 ++ [z]) A10 := by
  have k := h.kept ((Below.refl wr.heap.size wr).alloc (Nat.le_refl _) ob)
  have hf : Fr (fun x => v9.ownBlock = some x) (wr.alloc ob) w1 := Fr.of_grown hg (fun x hx => .inl hx)
  have hl := k.box.lt
  refine ⟨k.b.far hf (fun x hx e => (k.s9 x e).1 hx), k.c.far hf (fun x hx e => (k.s9 x e).2 hx), k.dj, k.lb, k.lc, k.bel.trans (hf.below (fun x hx => by have := own_ge k.o9 hx; omega) k.bel.size), hf.row k.box (fun hx => by have := own_ge k.o9 hx; omega), by simpa using ho, hf.own k.o10 (fun x hx e => ?_), fun x hx => ?_, k.s10⟩
  · rcases k.o9.2 with ⟨e1, _⟩ | ⟨g1, c1, r1, e1, _, h1, _⟩
    · rw [e1] at e; simp [Value.ownBlock] at e
    · rcases k.o10.2 with ⟨e2, _⟩ | ⟨g2, c2, r2, e2, _, h2, _⟩
      · rw [e2] at hx; simp [Value.ownBlock] at hx
      · rw [e1] at e
        rw [e2] at hx
        simp only [Value.ownBlock, Option.some.injEq] at e hx
        subst e
        subst hx
        rw [h1] at h2
        simp at h2
  · rcases ha with e | e
    · exact k.s9 x (e ▸ hx)
    · rw [e] at hx
      simp only [Option.some.injEq] at hx
      subst hx
      exact ⟨fun hy => by have := k.b.lt _ hy; omega, fun hy => by have := k.c.lt _ hy; omega⟩
theorem CutS.push10 (h : CutS w0 wr st pb pc Fb Fc B C v9 v10 A9 A10) {ob : Obj} {v : Value} {z : Int} (ho : w1.ownsRow (w0.heap.size + 1) 3 1 v (A10.length + 1) ((A10.map fun x => .int .i64 x) ++ [.int .i64 z])) (hg : (wr.alloc ob).grownBy w1 v10.ownBlock) (ha : v.ownBlock = v10.ownBlock ∨ v.ownBlock = some (wr.alloc ob).heap.size) :
    CutS w0 w1 st pb pc Fb Fc B C v9 v A9 (A10 ++ [z]) := by
  have k := h.kept ((Below.refl wr.heap.size wr).alloc (Nat.le_refl _) ob)
  have hf : Fr (fun x => v10.ownBlock = some x) (wr.alloc ob) w1 := Fr.of_grown hg (fun x hx => .inl hx)
  have hl := k.box.lt
  refine ⟨k.b.far hf (fun x hx e => (k.s10 x e).1 hx), k.c.far hf (fun x hx e => (k.s10 x e).2 hx), k.dj, k.lb, k.lc, k.bel.trans (hf.below (fun x hx => by have := own_ge k.o10 hx; omega) k.bel.size), hf.row k.box (fun hx => by have := own_ge k.o10 hx; omega), hf.own k.o9 (fun x hx e => ?_), by simpa using ho, k.s9, fun x hx => ?_⟩
  · rcases k.o10.2 with ⟨e1, _⟩ | ⟨g1, c1, r1, e1, _, h1, _⟩
    · rw [e1] at e; simp [Value.ownBlock] at e
    · rcases k.o9.2 with ⟨e2, _⟩ | ⟨g2, c2, r2, e2, _, h2, _⟩
      · rw [e2] at hx; simp [Value.ownBlock] at hx
      · rw [e1] at e
        rw [e2] at hx
        simp only [Value.ownBlock, Option.some.injEq] at e hx
        subst e
        subst hx
        rw [h1] at h2
        simp at h2
  · rcases ha with e | e
    · exact k.s10 x (e ▸ hx)
    · rw [e] at hx
      simp only [Option.some.injEq] at hx
      subst hx
      exact ⟨fun hy => by have := k.b.lt _ hy; omega, fun hy => by have := k.c.lt _ hy; omega⟩
end
/-- What holds of the two streams between two writes. -/
structure CutPu (Fb Fc : Sb) (m : Nat) (Q : List (Int × Nat)) : Prop where
  cb : Fb.closed = false
  ab : Fb.acked ≤ Fb.end_
  cc : Fc.closed = false
  ac : Fc.acked ≤ Fc.end_
  room : Fc.room = Fb.room
  mb : Fb.mss = m
  mc : Fc.mss = m
  end_ : Fc.end_ = Fb.end_
  up : Fb.acked ≤ Fc.acked
  qb : Fb.prs = Q
  qc : ∃ n, Fc.prs = Q.drop n
theorem CutPu.play {Fb Fc Fc' : Sb} {m : Nat} {Q : List (Int × Nat)} (h : CutPu Fb Fc m Q) (k : Pl Fc Fc') : CutPu Fb Fc' m Q := by
  obtain ⟨n, hn⟩ := h.qc
  obtain ⟨n', hn'⟩ := k.prs
  exact ⟨h.cb, h.ab, k.closed.trans h.cc, k.le, k.room.trans h.room, h.mb, k.mss.trans h.mc, k.end_.trans h.end_, Int.le_trans h.up k.up, h.qb, n + n', by rw [hn', hn, List.drop_drop]⟩
/-- The second stream takes as much as the first did. -/
theorem CutPu.takes {Fb Fc : Sb} {m : Nat} {Q : List (Int × Nat)} (h : CutPu Fb Fc m Q) {N n : Nat} (hn : Fb.takes N = n) : Fc.takes n = n := by
  have := h.room
  have := h.end_
  have := h.up
  have := h.ab
  have := h.ac
  unfold Sb.takes Sb.free at *
  omega
theorem CutPu.write {Fb Fc Fb' Fc' : Sb} {m n : Nat} {Q : List (Int × Nat)} (h : CutPu Fb Fc m Q) (kb : WrL Fb Fb' n) (kc : WrL Fc Fc' n) : CutPu Fb' Fc' m (Q ++ cutA m Fb.end_ n) := by
  obtain ⟨j, hj⟩ := h.qc
  have e1 : Fb.mss.toNat = m := by rw [h.mb]; omega
  have e2 : Fc.mss.toNat = m := by rw [h.mc]; omega
  refine ⟨kb.closed.trans h.cb, ?_, kc.closed.trans h.cc, ?_, by rw [kb.room, kc.room, h.room], kb.mss.trans h.mb, kc.mss.trans h.mc, by rw [kb.end_, kc.end_, h.end_], by rw [kb.acked, kc.acked]; exact h.up, by rw [kb.prs, h.qb, e1], ?_⟩
  · rw [kb.acked, kb.end_]; have := h.ab; omega
  · rw [kc.acked, kc.end_]; have := h.ac; omega
  · rw [kc.prs, hj, e2, h.end_]
    by_cases hl : j ≤ Q.length
    · exact ⟨j, by rw [List.drop_append_of_le_length hl]⟩
    · refine ⟨Q.length, ?_⟩
      rw [List.drop_eq_nil_of_le (by omega), List.drop_left]
      rfl
end Go.Proofs.Ytnohammflhadpaa
