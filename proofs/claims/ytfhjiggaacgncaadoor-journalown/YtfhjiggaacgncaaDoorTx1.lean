import Derived.Test.YtfhjiggaacgncaaDoorTx0
namespace Go.Proofs.YtfhjiggaacgncaaDoor.Tx
open Go.RowKit Go.Maps Go.Sort
set_option maxRecDepth 100000

theorem below_box (w : World) (o : Obj) : Below w.heap.size w (w.alloc o) := (Below.refl _ _).alloc (Nat.le_refl _) _
theorem own_more {w : World} {B : Nat} {v : Value} {A : List (BitVec 8)} {z : BitVec 8} (h : w.ownsRow B 5 1 v (A.length + 1) (bcells A ++ [.int .u8 (ub z)])) : w.ownsRow B 5 1 v (A ++ [z]).length (bcells (A ++ [z])) := by
  rw [List.length_append, show bcells (A ++ [z]) = bcells A ++ [.int .u8 (ub z)] by simp [bcells, bv]]
  exact h
theorem own_cells {w : World} {B : Nat} {v : Value} {L : List (BitVec 8)} (h : w.ownsRow B 5 1 v L.length (bcells L)) : ∃ a cap, v = .slice a L.length cap ∧ BytesAt w a L := by
  obtain ⟨a, cap, e, hB, _⟩ := ownBy_shape h
  exact ⟨a, cap, e, hB⟩
theorem below_drew_box (w : World) (o : Obj) : Below w.heap.size w (w.drew.alloc o) := (below_drewN (Below.refl w.heap.size w) 1).alloc (Nat.le_refl _) o
/-- 'append' of one stretch: in place, or to a row that is new; then the old one is as it was. -/
theorem run_more {w : World} {ty : TypeId} {base : Nat} {v : Value} {A : List (BitVec 8)} (hown : w.ownsRow base 5 1 v A.length (bcells A)) {ax : Addr} {cx : Nat} (r : BitVec 8) (hx : ∀ j u, [Value.int .u8 (ub r)][j]? = some u → w.cell? (ax.add j) = some u) (hl : A.length + 1 ≤ 140737488355328) (hb : base ≤ w.heap.size) :
    ∃ v' w', (Builtin.append_ #[30, 30] ty #[v, .slice (some ax) 1 cx]).run Tryd.prog w = .ok v' w' ∧ (w'.ownsRow base 5 1 v' (A ++ [r]).length (bcells (A ++ [r])) ∧ ((v'.ownBlock = v.ownBlock ∧ v.ownBlock ≠ none ∧ w.grownBy w' v.ownBlock) ∨ (v'.ownBlock = some w.heap.size ∧ Below w.heap.size w w'))) := by
  obtain ⟨i0, hi, hz0, hz1, hz2⟩ := info5
  obtain ⟨v', w', hr, k1, k2, _, k3⟩ := run_append_own_at (P := Tryd.prog) w base 30 ty 5 i0 (.int .u8 0) 1 1 Tryd.underlying30 hi hz0 hz1 hz2 rfl (by decide) v A.length (bcells A) hown ax 1 cx [.int .u8 (ub r)] rfl hx (by simp [Value.oneCell']) (by unfold maxLen; omega) (by omega) hb
  refine ⟨v', w', hr, own_more k1, ?_⟩
  rcases hown.2 with ⟨rfl, hn⟩ | ⟨g, cap, cur, rfl, hbg, hg, hnc, hcm, hcs, htake⟩
  · have hr2 := run_append_nil (P := Tryd.prog) w 30 ty 5 i0 (.int .u8 0) Tryd.underlying30 hi hz0 ax 1 cx [.int .u8 (ub r)] (by rw [hz1]; rfl) hx (by omega) (by omega) (by rw [hz2]; omega)
    rw [hr] at hr2
    simp only [Result.ok.injEq] at hr2
    obtain ⟨rfl, rfl⟩ := hr2
    exact .inr ⟨rfl, below_drew_box _ _⟩
  · by_cases hroom : A.length + 1 ≤ cap
    · have hfit : A.length * i0.size + [Value.int .u8 (ub r)].length ≤ cur.size := by rw [hz1, hcs]; simp; omega
      have hr2 := run_append_room (P := Tryd.prog) w 30 ty 5 i0 Tryd.underlying30 hi g A.length cap cur hg ax 1 cx [.int .u8 (ub r)] (by rw [hz1]; rfl) hx (by simp [Value.oneCell']) hroom hfit
      rw [hr] at hr2
      simp only [Result.ok.injEq] at hr2
      obtain ⟨rfl, rfl⟩ := hr2
      exact .inl ⟨rfl, by simp [Value.ownBlock], k2⟩
    · have hr2 := run_append_grow (P := Tryd.prog) w 30 ty 5 i0 (.int .u8 0) Tryd.underlying30 hi hz0 ⟨g, 0, none⟩ A.length cap (bcells A) (by rw [bcells_len, hz1, Nat.mul_one]) (hown.cells (g := g) rfl) ax 1 cx [.int .u8 (ub r)] (by rw [hz1]; rfl) hx (by omega) (by omega) (growslice_fits (by omega) (by rw [hz2]; omega))
      rw [hr] at hr2
      simp only [Result.ok.injEq] at hr2
      obtain ⟨rfl, rfl⟩ := hr2
      exact .inr ⟨rfl, below_drew_box _ _⟩
/-- The same at the operation. -/
theorem wpGrow {W : World} {ops : Array Oper} {rest : List Oper} {o : Oper} {act : Act} {Q : Exit → Act → World → Prop} (hgd : o.guard = none) (s x : Operand) (ho : o.op = .call { callee := .builtin .append, args := #[s, x], argTypes := #[30, 30] })
    {base : Nat} {v : Value} {A : List (BitVec 8)} (z : BitVec 8) (hs : act.eval s = v) (hown : W.ownsRow base 5 1 v A.length (bcells A)) (hx : act.eval x = .slice (some ⟨W.heap.size, 0, none⟩) 1 1) (hl : A.length + 1 ≤ 140737488355328) (hb : base ≤ W.heap.size)
    (h : ∀ v' w', w'.ownsRow base 5 1 v' (A ++ [z]).length (bcells (A ++ [z])) → ((v'.ownBlock = v.ownBlock ∧ v.ownBlock ≠ none ∧ W.grownBy w' v.ownBlock) ∨ (∃ g, v'.ownBlock = some g ∧ W.heap.size ≤ g ∧ Below W.heap.size W w')) → wpList Tryd.prog ops Q rest (act.put o.dst v') w') :
    wpList Tryd.prog ops Q (o :: rest) act (W.alloc (.cells #[.int .u8 (ub z)] 5)) := by
  obtain ⟨v', w', hr, h1, h2⟩ := run_more (ty := o.type) (World.ownsRow.alloc hown (.cells #[.int .u8 (ub z)] 5)) (ax := ⟨W.heap.size, 0, none⟩) (cx := 1) z (fun j u hj => box_range W 5 _ j u hj) hl (by simp; omega)
  refine wpList_plain hgd fun K hK => ?_
  unfold Oper.wp execOp
  simp only [ho, resolve, invoke, builtin, Sem.run_bind, Sem.run_pure, Result.andThen_ok, List.map_toArray, List.map_cons, List.map_nil, hs, hx, hr]
  refine hK _ _ (h v' w' h1 ?_)
  rcases h2 with ⟨e1, e2, e3⟩ | ⟨e1, e2⟩
  · exact .inl ⟨e1, e2, (World.grownBy_alloc W _ _).trans e3⟩
  · exact .inr ⟨_, e1, by simp, (below_box W _).trans (e2.mono (by simp))⟩
theorem own_gone {w w' : World} {B : Nat} {e : TypeId} {size n : Nat} {u v : Value} {xs : List Value} (h : w.ownsRow B e size u n xs) (hg : Gone w w' [v]) (hne : ∀ x, u.ownBlock = some x → v.ownBlock ≠ some x) : w'.ownsRow B e size u n xs := by
  refine ⟨h.1, ?_⟩
  rcases h.2 with h0 | ⟨g, cap, cur, hv, h1, h2, h3⟩
  · exact .inl h0
  · refine .inr ⟨g, cap, cur, hv, h1, ?_, h3⟩
    exact (hg.block g (Array.getElem?_eq_some_iff.1 h2).1 (fun v' hv' => by rw [List.mem_singleton.1 hv']; exact hne g (by rw [hv]; rfl))).trans h2
theorem cells_gone {w w' : World} {g : Nat} {L : List (BitVec 8)} {v : Value} (C : BytesAt w (some ⟨g, 0, none⟩) L) (hg : Gone w w' [v]) (hlt : g < w.heap.size) (hne : v.ownBlock ≠ some g) : BytesAt w' (some ⟨g, 0, none⟩) L := fun j hj => by
  obtain ⟨g', o', e, hc⟩ := C j hj
  cases e
  have hb := hg.block g hlt (fun v' hv' => by rw [List.mem_singleton.1 hv']; exact hne)
  exact ⟨g, 0, rfl, (World.cell?_of_block (a := ⟨g, 0 + j, none⟩) hb).trans hc⟩
/-- A list, while it grows: g is what it has become. -/
structure IN (B : Nat) (w5 wr : World) (vk : Value) (k len kk : Nat) (gv : Value) : Prop where
  own : wr.ownsRow B 5 1 gv (moreL k len kk).length (bcells (moreL k len kk))
  blk : ∀ x, gv.ownBlock = some x → vk.ownBlock = some x ∨ w5.heap.size ≤ x
  gone : Gone w5 wr [vk]
  see : ∀ g n c, vk = .slice (some ⟨g, 0, none⟩) n c → BytesAt wr (some ⟨g, 0, none⟩) (moreL k len 0)
theorem moreL_zero_prefix (k len kk : Nat) : moreL k len kk = moreL k len 0 ++ (List.range kk).map fun j => markOf (k + 7) (j + 3) := by simp [moreL]
theorem cells_front {w : World} {a : Option Addr} {A B : List (BitVec 8)} (C : BytesAt w a (A ++ B)) : BytesAt w a A := fun k hk => by
  obtain ⟨g, o, e, hc⟩ := C k (by rw [List.length_append]; omega)
  rw [List.getElem_append_left hk] at hc
  exact ⟨g, o, e, hc⟩
theorem IN.next {B : Nat} {w5 wr W w' : World} {vk gv v' : Value} {k len kk : Nat} (h : IN B w5 wr vk k len kk gv) (hb : Below wr.heap.size wr W)
    (ho : w'.ownsRow B 5 1 v' (moreL k len kk ++ [markOf (k + 7) (kk + 3)]).length (bcells (moreL k len kk ++ [markOf (k + 7) (kk + 3)])))
    (hc : (v'.ownBlock = gv.ownBlock ∧ gv.ownBlock ≠ none ∧ W.grownBy w' gv.ownBlock) ∨ (∃ g, v'.ownBlock = some g ∧ W.heap.size ≤ g ∧ Below W.heap.size W w')) : IN B w5 w' vk k len (kk + 1) v' := by
  rw [moreL_snoc] at ho
  have hsW := Nat.le_trans h.gone.size hb.size
  rcases hc with ⟨e1, _, e3⟩ | ⟨g, e1, e2, e3⟩
  · refine ⟨ho, fun x hx => h.blk x (e1 ▸ hx), (h.gone.below hb).grown e3 (fun x hx => ?_), fun g n c hv => ?_⟩
    · rcases h.blk x hx with e | e
      · exact .inr ⟨vk, List.mem_singleton.2 rfl, e⟩
      · exact .inl e
    · have hvo : vk.ownBlock = some g := by rw [hv]; rfl
      by_cases hg : gv.ownBlock = some g
      · obtain ⟨a, c', ev, hC⟩ := own_cells ho
        have : v'.ownBlock = some g := e1.trans hg
        rcases ho.2 with ⟨hn, _⟩ | ⟨g', cap, cur, hn, _⟩
        · rw [hn] at this; simp [Value.ownBlock] at this
        · rw [hn] at ev this
          simp only [Value.ownBlock, Option.some.injEq] at this
          simp only [Value.slice.injEq] at ev
          rw [← ev.1, this, moreL_zero_prefix] at hC
          exact cells_front hC
      · intro j hj
        obtain ⟨g', o', e, hcc⟩ := h.see g n c hv j hj
        cases e
        exact ⟨g, 0, rfl, e3.cell (cell_kept hb hcc) (fun e => hg e.symm)⟩
  · refine ⟨ho, fun x hx => ?_, (h.gone.below hb).below e3, fun g' n c hv => ((h.see g' n c hv).kept hb).kept e3⟩
    rw [e1] at hx
    simp only [Option.some.injEq] at hx
    exact .inr (by omega)
/-- All lists, while they grow one behind the other. -/
structure MA (B s4 : Nat) (wr : World) (vs ms : List Value) (C : Nat → List (BitVec 8)) : Prop where
  own : ∀ j (h : j < vs.length), ms.length ≤ j → wr.ownsRow B 5 1 vs[j] (moreL j (C j).length 0).length (bcells (moreL j (C j).length 0))
  got : ∀ j (h : j < ms.length), wr.ownsRow B 5 1 ms[j] (moreL j (C j).length 70).length (bcells (moreL j (C j).length 70))
  see : ∀ j (h : j < vs.length) g n c, vs[j] = .slice (some ⟨g, 0, none⟩) n c → BytesAt wr (some ⟨g, 0, none⟩) (moreL j (C j).length 0)
  blk : ∀ j (h : j < ms.length) (h' : j < vs.length) x, ms[j].ownBlock = some x → vs[j].ownBlock = some x ∨ s4 ≤ x
  low : ∀ j (h : j < vs.length) x, vs[j].ownBlock = some x → x < s4
  le : ms.length ≤ vs.length
  sz : s4 ≤ wr.heap.size
theorem MA.kept {B s4 : Nat} {w w' : World} {vs ms : List Value} {C : Nat → List (BitVec 8)} (h : MA B s4 w vs ms C) (hb : Below w.heap.size w w') : MA B s4 w' vs ms C :=
  ⟨fun j hj hm => own_below (h.own j hj hm) hb, fun j hj => own_below (h.got j hj) hb, fun j hj g n c hv => (h.see j hj g n c hv).kept hb, h.blk, h.low, h.le, Nat.le_trans h.sz hb.size⟩
theorem MA.start {B : Nat} {w : World} {vs : List Value} {C : Nat → List (BitVec 8)} (h : LA B w vs (fun j => moreL j (C j).length 0)) : MA B w.heap.size w vs [] C := by
  refine ⟨fun j hj _ => h.row j hj, fun j hj => by simp at hj, fun j hj g n c hv => ?_, fun j hj => by simp at hj, fun j hj x hx => ((h.row j hj).lt x hx).2, Nat.zero_le _, Nat.le_refl _⟩
  obtain ⟨a, c', e, hC⟩ := own_cells (h.row j hj)
  rw [hv] at e
  simp only [Value.slice.injEq] at e
  rw [e.1]
  exact hC
theorem MA.grow {B s4 : Nat} {w5 : World} {vs ms : List Value} {C : Nat → List (BitVec 8)} (h : MA B s4 w5 vs ms C) {k : Nat} (hk : k = ms.length) (hlt : k < vs.length) : IN B w5 w5 vs[k] k (C k).length 0 vs[k] := by
  subst hk
  exact ⟨h.own _ hlt (Nat.le_refl _), fun x hx => .inl hx, Gone.refl _ _, fun g n c hv => h.see _ hlt g n c hv⟩
theorem MA.next {B s4 : Nat} {w5 wr : World} {vs ms : List Value} {C : Nat → List (BitVec 8)} {gv : Value} (h : MA B s4 w5 vs ms C) (ap : ∀ i j (hi : i < vs.length) (hj : j < vs.length), i ≠ j → ∀ x, vs[i].ownBlock = some x → vs[j].ownBlock ≠ some x) {k : Nat} (hk : k = ms.length) (hlt : k < vs.length)
    (n : IN B w5 wr vs[k] k (C k).length 70 gv) : MA B s4 wr vs (ms ++ [gv]) C := by
  have hgn := n.gone
  have hs := h.sz
  refine ⟨fun j hj hm => ?_, fun j hj => ?_, fun j hj g m c hv => ?_, fun j hj h' x hx => ?_, h.low, by simp; omega, Nat.le_trans hs hgn.size⟩
  · rw [List.length_append, List.length_singleton] at hm
    exact own_gone (h.own j hj (by omega)) hgn (fun x hx => ap j k hj hlt (by omega) x hx)
  · by_cases e : j < ms.length
    · rw [List.getElem_append_left e]
      refine own_gone (h.got j e) hgn (fun x hx => ?_)
      rcases h.blk j e (by omega) x hx with h1 | h1
      · exact ap j k (by omega) hlt (by omega) x h1
      · intro e'; have := h.low k hlt x e'; omega
    · have hj' : j = k := by rw [List.length_append, List.length_singleton] at hj; omega
      subst hj'
      rw [List.getElem_append_right (by omega)]
      simp only [← hk, Nat.sub_self, List.getElem_cons_zero]
      exact n.own
  · by_cases e : j = k
    · subst e
      exact n.see g m c hv
    · have hvo : (vs[j]).ownBlock = some g := by rw [hv]; rfl
      exact cells_gone (h.see j hj g m c hv) hgn (Nat.lt_of_lt_of_le (h.low j hj g hvo) hs) (fun e' => ap j k hj hlt e g hvo e')
  · by_cases e : j < ms.length
    · rw [List.getElem_append_left e] at hx
      exact h.blk j e h' x hx
    · have hj' : j = k := by rw [List.length_append, List.length_singleton] at hj; omega
      subst hj'
      rw [List.getElem_append_right (by omega)] at hx
      simp only [← hk, Nat.sub_self, List.getElem_cons_zero] at hx
      rcases n.blk x hx with h1 | h1
      · exact .inl h1
      · exact .inr (by omega)
theorem LA.ext2 {B : Nat} {w : World} {vs : List Value} {C D : Nat → List (BitVec 8)} (h : LA B w vs C) (e : ∀ j, j < vs.length → C j = D j) : LA B w vs D := ⟨fun j hj => by rw [← e j hj]; exact h.row j hj, h.apart⟩
/-- The row of the grown lists is turned: no list is touched. -/
theorem MA.far {B s4 : Nat} {w w' : World} {vs ms : List Value} {C : Nat → List (BitVec 8)} (h : MA B s4 w vs ms C) {row : Option Nat} (hg : w.grownBy w' row) (hr : ∀ g, row = some g → s4 ≤ g ∧ (g < w.heap.size → ∃ cs, w.heap[g]? = some (.cells cs 30 (0, 0)))) : MA B s4 w' vs ms C := by
  have key : ∀ {n : Nat} {v : Value} {xs : List Value}, w.ownsRow B 5 1 v n xs → w'.ownsRow B 5 1 v n xs := by
    intro n v xs ho
    refine own_kept ho hg (fun g hv e => ?_)
    obtain ⟨cs, hc⟩ := (hr g e).2 ((ho.lt g hv).2)
    exact row_far ho hv hc (by decide) rfl
  refine ⟨fun j hj hm => key (h.own j hj hm), fun j hj => key (h.got j hj), fun j hj g n c hv i hi => ?_, h.blk, h.low, h.le, Nat.le_trans h.sz hg.size⟩
  obtain ⟨g', o', e, hcc⟩ := h.see j hj g n c hv i hi
  cases e
  have hlow := h.low j hj g (by rw [hv]; rfl)
  exact ⟨g, 0, rfl, hg.cell hcc (fun e => by have := (hr g e.symm).1; omega)⟩
theorem Gone.one {w w5 wr : World} {vs : List Value} {v : Value} (h1 : Gone w w5 vs) (h2 : Gone w5 wr [v]) (hv : v ∈ vs) : Gone w wr vs :=
  ⟨h2.os.trans h1.os, h2.tape.trans h1.tape, h2.output.trans h1.output, Nat.le_trans h1.size h2.size, fun k hk h => (h2.block k (Nat.lt_of_lt_of_le hk h1.size) (fun v' hv' => by rw [List.mem_singleton.1 hv']; exact h v hv)).trans (h1.block k hk h)⟩
end Go.Proofs.YtfhjiggaacgncaaDoor.Tx
