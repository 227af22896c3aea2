import Derived.Test.YtkhogbnoincbeabTxA
import Derived.Laws.OwnMore
import Derived.Deep.RegionHeld3
import Derived.Lib.QuietBelow
import Derived.BigQuiet
import Derived.Deep.CutRange
import Derived.Test.YtkhogbnoincbeabReg0
import Derived.Laws.AppendOwnNone
namespace Go.Proofs.Ytkhogbnoincbeab.Tx
open Go.RowKit Go.Maps Go.Sort
set_option maxRecDepth 100000

theorem below_grown {w w' : World} (h : Below w.heap.size w w') : w.grownBy w' none := ⟨h.os, h.tape, h.output, h.size, fun k hk _ => h.block k hk⟩
theorem grown_below {w w' : World} (h : w.grownBy w' none) : Below w.heap.size w w' := ⟨h.os, h.tape, h.output, h.size, fun k hk => h.block k hk (by simp)⟩
theorem own_kept {w w' : World} {base : Nat} {e : TypeId} {size : Nat} {v : Value} {n : Nat} {xs : List Value} (h : w.ownsRow base e size v n xs) {row : Option Nat} (hg : w.grownBy w' row) (hne : ∀ g, v.ownBlock = some g → row ≠ some g) : w'.ownsRow base e size v n xs := by
  refine ⟨h.1, ?_⟩
  rcases h.2 with ⟨rfl, h0⟩ | ⟨g, cap, cur, rfl, h1, h2, h3⟩
  · exact .inl ⟨rfl, h0⟩
  · refine .inr ⟨g, cap, cur, rfl, h1, ?_, h3⟩
    exact (hg.block g (Array.getElem?_eq_some_iff.1 h2).1 (fun e => hne g rfl e.symm)).trans h2
/-- The book of lists: those handed out, and what they were. -/
structure Book (B : Nat) (w : World) (b : Nat) (lv wv : Value) (X Y : List Value) : Prop where
  head : w.heap[b]? = some (.cells #[lv, wv] 33 (0, 0))
  l : w.ownsRow B 27 1 lv X.length X
  s : w.ownsRow B 27 1 wv Y.length Y
  ne : ∀ g, lv.ownBlock = some g → wv.ownBlock ≠ some g
theorem row_type {w : World} {B : Nat} {e : TypeId} {size n g : Nat} {v : Value} {xs : List Value} (h : w.ownsRow B e size v n xs) (hv : v.ownBlock = some g) : ∃ cs, w.heap[g]? = some (.cells cs e (0, 0)) := by
  rcases h.2 with ⟨rfl, _⟩ | ⟨g', cap, cur, rfl, _, hg, _⟩
  · simp [Value.ownBlock] at hv
  · simp [Value.ownBlock] at hv
    subst hv
    exact ⟨_, hg⟩
theorem row_slice {w : World} {B : Nat} {e : TypeId} {size n : Nat} {v : Value} {xs : List Value} (h : w.ownsRow B e size v n xs) : ∃ av c, v = .slice av n c := by
  rcases h.2 with ⟨rfl, h0⟩ | ⟨g', cap, cur, rfl, _⟩
  · exact ⟨none, 0, by rw [h0]⟩
  · exact ⟨_, _, rfl⟩
theorem Book.apart {B : Nat} {w : World} {b : Nat} {lv wv : Value} {X Y : List Value} (h : Book B w b lv wv X Y) : lv.ownBlock ≠ some b ∧ wv.ownBlock ≠ some b := by
  constructor
  · intro e
    obtain ⟨cs, hc⟩ := row_type h.l e
    rw [h.head] at hc
    simp at hc
  · intro e
    obtain ⟨cs, hc⟩ := row_type h.s e
    rw [h.head] at hc
    simp at hc
/-- The mark of the k-th place of the i-th text. -/
def markOf (i k : Nat) : BitVec 8 := BitVec.ofInt 8 (37 * (i : Int) + 11 * (k : Int) + 1)
set_option maxHeartbeats 1000000 in
theorem mark_any (w : World) (i k : Nat) (hi : i ≤ 140737488355328) (hk : k ≤ 140737488355428) (x y : Int) (hx : x = i) (hy : y = k) :
    Calls Try.prog 28 #[.int .i64 x, .int .i64 y] w fun e w' => e = .returned (.int .u8 (ub (markOf i k))) ∧ Below w.heap.size w w' := by
  subst hx hy
  have h1 : IntKind.i64.wrap (37 * (i : Int)) = 37 * i := by rw [IntKind.wrap_i64]; omega
  have h2 : IntKind.i64.wrap (11 * (k : Int)) = 11 * k := by rw [IntKind.wrap_i64]; omega
  have h3 : IntKind.i64.wrap (37 * (i : Int) + 11 * k) = 37 * i + 11 * k := by rw [IntKind.wrap_i64]; omega
  have h4 : IntKind.i64.wrap (37 * (i : Int) + 11 * k + 1) = 37 * i + 11 * k + 1 := by rw [IntKind.wrap_i64]; omega
  have h5 : IntKind.u8.wrap (37 * (i : Int) + 11 * k + 1) = ub (markOf i k) := by rw [ub_wrap]; rfl
  generalize ub (markOf i k) = m at *
  go_enter Try.func28, Try.ntmps28
  go_wp2_with fail
  go_ret
  exact ⟨rfl, Below.refl _ _⟩
/-- A list whose first k places are marked. -/
def fillL (i : Nat) (L : List (BitVec 8)) (k : Nat) : List (BitVec 8) := (List.range k).map (markOf i) ++ L.drop k
theorem fillL_zero (i : Nat) (L : List (BitVec 8)) : fillL i L 0 = L := by simp [fillL]
theorem fillL_len (i : Nat) (L : List (BitVec 8)) (k : Nat) (hk : k ≤ L.length) : (fillL i L k).length = L.length := by
  unfold fillL
  simp
  omega
theorem fillL_set (i : Nat) (L : List (BitVec 8)) (k : Nat) (hk : k < L.length) : (fillL i L k).set k (markOf i k) = fillL i L (k + 1) := by
  unfold fillL
  rw [List.set_append_right _ _ (by simp), List.length_map, List.length_range, Nat.sub_self, List.drop_eq_getElem_cons hk, List.set_cons_zero, List.range_succ, List.map_append, List.append_assoc]
  rfl
/-- A marked list with n more behind it. -/
def moreL (i m n : Nat) : List (BitVec 8) := (List.range m).map (markOf i) ++ (List.range n).map fun k => markOf (i + 7) (k + 3)
theorem fillL_all (i : Nat) (L : List (BitVec 8)) : fillL i L L.length = moreL i L.length 0 := by simp [fillL, moreL]
theorem moreL_snoc (i m n : Nat) : moreL i m n ++ [markOf (i + 7) (n + 3)] = moreL i m (n + 1) := by
  unfold moreL
  rw [List.append_assoc, List.range_succ, List.map_append]
  rfl
theorem moreL_len (i m n : Nat) : (moreL i m n).length = m + n := by simp [moreL]
theorem moreL_low (i m n k : Nat) (hk : k < m) : (moreL i m n)[k]? = some (markOf i k) := by
  unfold moreL
  rw [List.getElem?_append_left (by simpa using hk)]
  simp [hk]
theorem moreL_high (i m n k : Nat) (hk : m ≤ k) (hn : k < m + n) : (moreL i m n)[k]? = some (markOf (i + 7) (k - m + 3)) := by
  unfold moreL
  have hd : k - m < n := by omega
  rw [List.getElem?_append_right (by simpa using hk)]
  simp [hd]

/-- Lists in rows of their own, each in another one. -/
structure LA (B : Nat) (w : World) (vs : List Value) (C : Nat → List (BitVec 8)) : Prop where
  row : ∀ j (h : j < vs.length), w.ownsRow B 5 1 vs[j] (C j).length (bcells (C j))
  apart : ∀ i j (hi : i < vs.length) (hj : j < vs.length), i ≠ j → ∀ x, vs[i].ownBlock = some x → vs[j].ownBlock ≠ some x
theorem LA.kept {B : Nat} {w w' : World} {vs : List Value} {C : Nat → List (BitVec 8)} (h : LA B w vs C) (hb : Below w.heap.size w w') : LA B w' vs C := ⟨fun j hj => own_below (h.row j hj) hb, h.apart⟩
/-- A row that is no list of ranges stays where one of them is turned. -/
theorem row_far {B : Nat} {w : World} {n g : Nat} {v : Value} {xs : List Value} (h : w.ownsRow B 5 1 v n xs) (hg : v.ownBlock = some g) {k : Nat} {cs : Array Value} {t : TypeId} (hk : w.heap[k]? = some (.cells cs t (0, 0))) (ht : t ≠ 5) : k ≠ g := by
  rintro rfl
  obtain ⟨c', hc⟩ := row_type h hg
  rw [hk] at hc
  simp at hc
  exact ht hc.2
/-- One member of one list is written. -/
theorem LA.put {B : Nat} {w : World} {vs : List Value} {C : Nat → List (BitVec 8)} (h : LA B w vs C) {k : Nat} (hk : k < vs.length) {g cap : Nat} (hv : vs[k] = .slice (some ⟨g, 0, none⟩) (C k).length cap) {kk : Nat} (hkk : kk < (C k).length) (z : BitVec 8) :
    LA B (w.setCell ⟨g, kk, none⟩ (.int .u8 (ub z))) vs (fun j => if j = k then (C k).set kk z else C j) ∧ w.grownBy (w.setCell ⟨g, kk, none⟩ (.int .u8 (ub z))) (some g) := by
  have hr := h.row k hk
  rw [hv] at hr
  obtain ⟨h2, hg⟩ := hr.stored kk (.int .u8 (ub z))
  rw [bcells_set] at h2
  refine ⟨⟨fun j hj => ?_, h.apart⟩, hg⟩
  by_cases e : j = k
  · subst e
    rw [if_pos rfl, List.length_set, hv]
    exact h2
  · rw [if_neg e]
    refine own_kept (h.row j hj) hg (fun x hx e' => ?_)
    simp only [Option.some.injEq] at e'
    exact h.apart k j hk hj (Ne.symm e) x (by rw [hv, ← e']; rfl) hx
/-- What the book's Good leaves: only the lists' own rows are turned. -/
structure Gone (w w' : World) (vs : List Value) : Prop where
  os : w'.os = w.os
  tape : w'.tape = w.tape
  output : w'.output = w.output
  size : w.heap.size ≤ w'.heap.size
  block : ∀ k, k < w.heap.size → (∀ v ∈ vs, v.ownBlock ≠ some k) → w'.heap[k]? = w.heap[k]?
theorem Gone.refl (w : World) (vs : List Value) : Gone w w vs := ⟨rfl, rfl, rfl, Nat.le_refl _, fun _ _ _ => rfl⟩
theorem Gone.below {w w' w'' : World} {vs : List Value} (h : Gone w w' vs) (hb : Below w'.heap.size w' w'') : Gone w w'' vs :=
  ⟨hb.os.trans h.os, hb.tape.trans h.tape, hb.output.trans h.output, Nat.le_trans h.size hb.size, fun k hk hv => (hb.block k (Nat.lt_of_lt_of_le hk h.size)).trans (h.block k hk hv)⟩
theorem Gone.grown {w w' w'' : World} {vs : List Value} {row : Option Nat} (h : Gone w w' vs) (hg : w'.grownBy w'' row) (hr : ∀ g, row = some g → w.heap.size ≤ g ∨ ∃ v ∈ vs, v.ownBlock = some g) : Gone w w'' vs :=
  ⟨hg.os.trans h.os, hg.tape.trans h.tape, hg.output.trans h.output, Nat.le_trans h.size hg.size, fun k hk hv => by
    rw [hg.block k (Nat.lt_of_lt_of_le hk h.size) (fun e => by
      rcases hr k e.symm with h1 | ⟨v, hm, hv'⟩
      · omega
      · exact hv v hm hv'), h.block k hk hv]⟩
/-- What is of another type than ranges stays. -/
theorem Gone.far {B : Nat} {w w' : World} {vs : List Value} {C : Nat → List (BitVec 8)} (H : LA B w vs C) (h : Gone w w' vs) {k : Nat} {cs : Array Value} {t : TypeId} (hk : w.heap[k]? = some (.cells cs t (0, 0))) (ht : t ≠ 5) : w'.heap[k]? = some (.cells cs t (0, 0)) := by
  refine (h.block k (Array.getElem?_eq_some_iff.1 hk).1 (fun v hv e => ?_)).trans hk
  obtain ⟨i, hi, rfl⟩ := List.getElem_of_mem hv
  exact row_far (H.row i hi) e hk ht rfl
theorem Gone.book {B B' : Nat} {w w' : World} {vs vs' Y : List Value} {C : Nat → List (BitVec 8)} {b : Nat} {lv wv : Value} (H : LA B w vs C) (h : Gone w w' vs) (K : Book B' w b lv wv vs' Y) : Book B' w' b lv wv vs' Y := by
  have hrow : ∀ {v : Value} {n : Nat} {xs : List Value}, w.ownsRow B' 27 1 v n xs → w'.ownsRow B' 27 1 v n xs := by
    intro v n xs ho
    refine ⟨ho.1, ho.2.imp id ?_⟩
    rintro ⟨g, cap, cur, h1, h2, h3, h4⟩
    exact ⟨g, cap, cur, h1, h2, h.far H h3 (by decide), h4⟩
  exact ⟨h.far H K.head (by decide), hrow K.l, hrow K.s, K.ne⟩
end Go.Proofs.Ytkhogbnoincbeab.Tx
namespace Go.Proofs.Ytkhogbnoincbeab.Tx
open Go.RowKit Go.Maps Go.Sort
set_option maxRecDepth 100000

theorem below_box (w : World) (o : Obj) : Below w.heap.size w (w.alloc o) := (Below.refl _ _).alloc (Nat.le_refl _) _
theorem own_more {w : World} {B : Nat} {v : Value} {A : List (BitVec 8)} {z : BitVec 8} (h : w.ownsRow B 5 1 v (A.length + 1) (bcells A ++ [.int .u8 (ub z)])) : w.ownsRow B 5 1 v (A ++ [z]).length (bcells (A ++ [z])) := by
  rw [List.length_append, show bcells (A ++ [z]) = bcells A ++ [.int .u8 (ub z)] by simp [bcells, bv]]
  exact h
theorem own_cells {w : World} {B : Nat} {v : Value} {L : List (BitVec 8)} (h : w.ownsRow B 5 1 v L.length (bcells L)) : ∃ a cap, v = .slice a L.length cap ∧ BytesAt w a L := by
  obtain ⟨a, cap, e, hB, _⟩ := ownBy_shape h
  exact ⟨a, cap, e, hB⟩
theorem below_drew_box (w : World) (o : Obj) : Below w.heap.size w (w.drew.alloc o) := (below_drewN (Below.refl w.heap.size w) 1).alloc (Nat.le_refl _) o
/-- 'append' of one stretch: in place, or to a row that is new; then the old one is as it was. -/
theorem run_more {w : World} {ty : TypeId} {base : Nat} {v : Value} {A : List (BitVec 8)} (hown : w.ownsRow base 5 1 v A.length (bcells A)) {ax : Addr} {cx : Nat} (r : BitVec 8) (hx : ∀ j u, [Value.int .u8 (ub r)][j]? = some u → w.cell? (ax.add j) = some u) (hl : A.length + 1 ≤ 140737488355328) (hb : base ≤ w.heap.size) :
    ∃ v' w', (Builtin.append_ #[27, 27] ty #[v, .slice (some ax) 1 cx]).run Try.prog w = .ok v' w' ∧ (w'.ownsRow base 5 1 v' (A ++ [r]).length (bcells (A ++ [r])) ∧ ((v'.ownBlock = v.ownBlock ∧ v.ownBlock ≠ none ∧ w.grownBy w' v.ownBlock) ∨ (v'.ownBlock = some w.heap.size ∧ Below w.heap.size w w'))) := by
  obtain ⟨i0, hi, hz0, hz1, hz2⟩ := info5
  obtain ⟨v', w', hr, k1, k2, _, k3⟩ := run_append_own_at (P := Try.prog) w base 27 ty 5 i0 (.int .u8 0) 1 1 Try.underlying27 hi hz0 hz1 hz2 rfl (by decide) v A.length (bcells A) hown ax 1 cx [.int .u8 (ub r)] rfl hx (by simp [Value.oneCell']) (by unfold maxLen; omega) (by omega) hb
  refine ⟨v', w', hr, own_more k1, ?_⟩
  rcases hown.2 with ⟨rfl, hn⟩ | ⟨g, cap, cur, rfl, hbg, hg, hnc, hcm, hcs, htake⟩
  · have hr2 := run_append_nil (P := Try.prog) w 27 ty 5 i0 (.int .u8 0) Try.underlying27 hi hz0 ax 1 cx [.int .u8 (ub r)] (by rw [hz1]; rfl) hx (by omega) (by omega) (by rw [hz2]; omega)
    rw [hr] at hr2
    simp only [Result.ok.injEq] at hr2
    obtain ⟨rfl, rfl⟩ := hr2
    exact .inr ⟨rfl, below_drew_box _ _⟩
  · by_cases hroom : A.length + 1 ≤ cap
    · have hfit : A.length * i0.size + [Value.int .u8 (ub r)].length ≤ cur.size := by rw [hz1, hcs]; simp; omega
      have hr2 := run_append_room (P := Try.prog) w 27 ty 5 i0 Try.underlying27 hi g A.length cap cur hg ax 1 cx [.int .u8 (ub r)] (by rw [hz1]; rfl) hx (by simp [Value.oneCell']) hroom hfit
      rw [hr] at hr2
      simp only [Result.ok.injEq] at hr2
      obtain ⟨rfl, rfl⟩ := hr2
      exact .inl ⟨rfl, by simp [Value.ownBlock], k2⟩
    · have hr2 := run_append_grow (P := Try.prog) w 27 ty 5 i0 (.int .u8 0) Try.underlying27 hi hz0 ⟨g, 0, none⟩ A.length cap (bcells A) (by rw [bcells_len, hz1, Nat.mul_one]) (hown.cells (g := g) rfl) ax 1 cx [.int .u8 (ub r)] (by rw [hz1]; rfl) hx (by omega) (by omega) (growslice_fits (by omega) (by rw [hz2]; omega))
      rw [hr] at hr2
      simp only [Result.ok.injEq] at hr2
      obtain ⟨rfl, rfl⟩ := hr2
      exact .inr ⟨rfl, below_drew_box _ _⟩
/-- The same at the operation. -/
theorem wpGrow {W : World} {ops : Array Oper} {rest : List Oper} {o : Oper} {act : Act} {Q : Exit → Act → World → Prop} (hgd : o.guard = none) (s x : Operand) (ho : o.op = .call { callee := .builtin .append, args := #[s, x], argTypes := #[27, 27] })
    {base : Nat} {v : Value} {A : List (BitVec 8)} (z : BitVec 8) (hs : act.eval s = v) (hown : W.ownsRow base 5 1 v A.length (bcells A)) (hx : act.eval x = .slice (some ⟨W.heap.size, 0, none⟩) 1 1) (hl : A.length + 1 ≤ 140737488355328) (hb : base ≤ W.heap.size)
    (h : ∀ v' w', w'.ownsRow base 5 1 v' (A ++ [z]).length (bcells (A ++ [z])) → ((v'.ownBlock = v.ownBlock ∧ v.ownBlock ≠ none ∧ W.grownBy w' v.ownBlock) ∨ (∃ g, v'.ownBlock = some g ∧ W.heap.size ≤ g ∧ Below W.heap.size W w')) → wpList Try.prog ops Q rest (act.put o.dst v') w') :
    wpList Try.prog ops Q (o :: rest) act (W.alloc (.cells #[.int .u8 (ub z)] 5)) := by
  obtain ⟨v', w', hr, h1, h2⟩ := run_more (ty := o.type) (World.ownsRow.alloc hown (.cells #[.int .u8 (ub z)] 5)) (ax := ⟨W.heap.size, 0, none⟩) (cx := 1) z (fun j u hj => box_range W 5 _ j u hj) hl (by simp; omega)
  refine wpList_plain hgd fun K hK => ?_
  unfold Oper.wp execOp
  simp only [ho, resolve, invoke, builtin, Sem.run_bind, Sem.run_pure, Result.andThen_ok, List.map_toArray, List.map_cons, List.map_nil, hs, hx, hr]
  refine hK _ _ (h v' w' h1 ?_)
  rcases h2 with ⟨e1, e2, e3⟩ | ⟨e1, e2⟩
  · exact .inl ⟨e1, e2, (World.grownBy_alloc W _ _).trans e3⟩
  · exact .inr ⟨_, e1, by simp, (below_box W _).trans (e2.mono (by simp))⟩
theorem own_gone {w w' : World} {B : Nat} {e : TypeId} {size n : Nat} {u v : Value} {xs : List Value} (h : w.ownsRow B e size u n xs) (hg : Gone w w' [v]) (hne : ∀ x, u.ownBlock = some x → v.ownBlock ≠ some x) : w'.ownsRow B e size u n xs := by
  refine ⟨h.1, ?_⟩
  rcases h.2 with h0 | ⟨g, cap, cur, hv, h1, h2, h3⟩
  · exact .inl h0
  · refine .inr ⟨g, cap, cur, hv, h1, ?_, h3⟩
    exact (hg.block g (Array.getElem?_eq_some_iff.1 h2).1 (fun v' hv' => by rw [List.mem_singleton.1 hv']; exact hne g (by rw [hv]; rfl))).trans h2
theorem cells_gone {w w' : World} {g : Nat} {L : List (BitVec 8)} {v : Value} (C : BytesAt w (some ⟨g, 0, none⟩) L) (hg : Gone w w' [v]) (hlt : g < w.heap.size) (hne : v.ownBlock ≠ some g) : BytesAt w' (some ⟨g, 0, none⟩) L := fun j hj => by
  obtain ⟨g', o', e, hc⟩ := C j hj
  cases e
  have hb := hg.block g hlt (fun v' hv' => by rw [List.mem_singleton.1 hv']; exact hne)
  exact ⟨g, 0, rfl, (World.cell?_of_block (a := ⟨g, 0 + j, none⟩) hb).trans hc⟩
/-- A list, while it grows: g is what it has become. -/
structure IN (B : Nat) (w5 wr : World) (vk : Value) (k len kk : Nat) (gv : Value) : Prop where
  own : wr.ownsRow B 5 1 gv (moreL k len kk).length (bcells (moreL k len kk))
  blk : ∀ x, gv.ownBlock = some x → vk.ownBlock = some x ∨ w5.heap.size ≤ x
  gone : Gone w5 wr [vk]
  see : ∀ g n c, vk = .slice (some ⟨g, 0, none⟩) n c → BytesAt wr (some ⟨g, 0, none⟩) (moreL k len 0)
theorem moreL_zero_prefix (k len kk : Nat) : moreL k len kk = moreL k len 0 ++ (List.range kk).map fun j => markOf (k + 7) (j + 3) := by simp [moreL]
theorem cells_front {w : World} {a : Option Addr} {A B : List (BitVec 8)} (C : BytesAt w a (A ++ B)) : BytesAt w a A := fun k hk => by
  obtain ⟨g, o, e, hc⟩ := C k (by rw [List.length_append]; omega)
  rw [List.getElem_append_left hk] at hc
  exact ⟨g, o, e, hc⟩
theorem IN.next {B : Nat} {w5 wr W w' : World} {vk gv v' : Value} {k len kk : Nat} (h : IN B w5 wr vk k len kk gv) (hb : Below wr.heap.size wr W)
    (ho : w'.ownsRow B 5 1 v' (moreL k len kk ++ [markOf (k + 7) (kk + 3)]).length (bcells (moreL k len kk ++ [markOf (k + 7) (kk + 3)])))
    (hc : (v'.ownBlock = gv.ownBlock ∧ gv.ownBlock ≠ none ∧ W.grownBy w' gv.ownBlock) ∨ (∃ g, v'.ownBlock = some g ∧ W.heap.size ≤ g ∧ Below W.heap.size W w')) : IN B w5 w' vk k len (kk + 1) v' := by
  rw [moreL_snoc] at ho
  have hsW := Nat.le_trans h.gone.size hb.size
  rcases hc with ⟨e1, _, e3⟩ | ⟨g, e1, e2, e3⟩
  · refine ⟨ho, fun x hx => h.blk x (e1 ▸ hx), (h.gone.below hb).grown e3 (fun x hx => ?_), fun g n c hv => ?_⟩
    · rcases h.blk x hx with e | e
      · exact .inr ⟨vk, List.mem_singleton.2 rfl, e⟩
      · exact .inl e
    · have hvo : vk.ownBlock = some g := by rw [hv]; rfl
      by_cases hg : gv.ownBlock = some g
      · obtain ⟨a, c', ev, hC⟩ := own_cells ho
        have : v'.ownBlock = some g := e1.trans hg
        rcases ho.2 with ⟨hn, _⟩ | ⟨g', cap, cur, hn, _⟩
        · rw [hn] at this; simp [Value.ownBlock] at this
        · rw [hn] at ev this
          simp only [Value.ownBlock, Option.some.injEq] at this
          simp only [Value.slice.injEq] at ev
          rw [← ev.1, this, moreL_zero_prefix] at hC
          exact cells_front hC
      · intro j hj
        obtain ⟨g', o', e, hcc⟩ := h.see g n c hv j hj
        cases e
        exact ⟨g, 0, rfl, e3.cell (cell_kept hb hcc) (fun e => hg e.symm)⟩
  · refine ⟨ho, fun x hx => ?_, (h.gone.below hb).below e3, fun g' n c hv => ((h.see g' n c hv).kept hb).kept e3⟩
    rw [e1] at hx
    simp only [Option.some.injEq] at hx
    exact .inr (by omega)
/-- All lists, while they grow one behind the other. -/
structure MA (B s4 : Nat) (wr : World) (vs ms : List Value) (C : Nat → List (BitVec 8)) : Prop where
  own : ∀ j (h : j < vs.length), ms.length ≤ j → wr.ownsRow B 5 1 vs[j] (moreL j (C j).length 0).length (bcells (moreL j (C j).length 0))
  got : ∀ j (h : j < ms.length), wr.ownsRow B 5 1 ms[j] (moreL j (C j).length 70).length (bcells (moreL j (C j).length 70))
  see : ∀ j (h : j < vs.length) g n c, vs[j] = .slice (some ⟨g, 0, none⟩) n c → BytesAt wr (some ⟨g, 0, none⟩) (moreL j (C j).length 0)
  blk : ∀ j (h : j < ms.length) (h' : j < vs.length) x, ms[j].ownBlock = some x → vs[j].ownBlock = some x ∨ s4 ≤ x
  low : ∀ j (h : j < vs.length) x, vs[j].ownBlock = some x → x < s4
  le : ms.length ≤ vs.length
  sz : s4 ≤ wr.heap.size
theorem MA.kept {B s4 : Nat} {w w' : World} {vs ms : List Value} {C : Nat → List (BitVec 8)} (h : MA B s4 w vs ms C) (hb : Below w.heap.size w w') : MA B s4 w' vs ms C :=
  ⟨fun j hj hm => own_below (h.own j hj hm) hb, fun j hj => own_below (h.got j hj) hb, fun j hj g n c hv => (h.see j hj g n c hv).kept hb, h.blk, h.low, h.le, Nat.le_trans h.sz hb.size⟩
theorem MA.start {B : Nat} {w : World} {vs : List Value} {C : Nat → List (BitVec 8)} (h : LA B w vs (fun j => moreL j (C j).length 0)) : MA B w.heap.size w vs [] C := by
  refine ⟨fun j hj _ => h.row j hj, fun j hj => by simp at hj, fun j hj g n c hv => ?_, fun j hj => by simp at hj, fun j hj x hx => ((h.row j hj).lt x hx).2, Nat.zero_le _, Nat.le_refl _⟩
  obtain ⟨a, c', e, hC⟩ := own_cells (h.row j hj)
  rw [hv] at e
  simp only [Value.slice.injEq] at e
  rw [e.1]
  exact hC
theorem MA.grow {B s4 : Nat} {w5 : World} {vs ms : List Value} {C : Nat → List (BitVec 8)} (h : MA B s4 w5 vs ms C) {k : Nat} (hk : k = ms.length) (hlt : k < vs.length) : IN B w5 w5 vs[k] k (C k).length 0 vs[k] := by
  subst hk
  exact ⟨h.own _ hlt (Nat.le_refl _), fun x hx => .inl hx, Gone.refl _ _, fun g n c hv => h.see _ hlt g n c hv⟩
theorem MA.next {B s4 : Nat} {w5 wr : World} {vs ms : List Value} {C : Nat → List (BitVec 8)} {gv : Value} (h : MA B s4 w5 vs ms C) (ap : ∀ i j (hi : i < vs.length) (hj : j < vs.length), i ≠ j → ∀ x, vs[i].ownBlock = some x → vs[j].ownBlock ≠ some x) {k : Nat} (hk : k = ms.length) (hlt : k < vs.length)
    (n : IN B w5 wr vs[k] k (C k).length 70 gv) : MA B s4 wr vs (ms ++ [gv]) C := by
  have hgn := n.gone
  have hs := h.sz
  refine ⟨fun j hj hm => ?_, fun j hj => ?_, fun j hj g m c hv => ?_, fun j hj h' x hx => ?_, h.low, by simp; omega, Nat.le_trans hs hgn.size⟩
  · rw [List.length_append, List.length_singleton] at hm
    exact own_gone (h.own j hj (by omega)) hgn (fun x hx => ap j k hj hlt (by omega) x hx)
  · by_cases e : j < ms.length
    · rw [List.getElem_append_left e]
      refine own_gone (h.got j e) hgn (fun x hx => ?_)
      rcases h.blk j e (by omega) x hx with h1 | h1
      · exact ap j k (by omega) hlt (by omega) x h1
      · intro e'; have := h.low k hlt x e'; omega
    · have hj' : j = k := by rw [List.length_append, List.length_singleton] at hj; omega
      subst hj'
      rw [List.getElem_append_right (by omega)]
      simp only [← hk, Nat.sub_self, List.getElem_cons_zero]
      exact n.own
  · by_cases e : j = k
    · subst e
      exact n.see g m c hv
    · have hvo : (vs[j]).ownBlock = some g := by rw [hv]; rfl
      exact cells_gone (h.see j hj g m c hv) hgn (Nat.lt_of_lt_of_le (h.low j hj g hvo) hs) (fun e' => ap j k hj hlt e g hvo e')
  · by_cases e : j < ms.length
    · rw [List.getElem_append_left e] at hx
      exact h.blk j e h' x hx
    · have hj' : j = k := by rw [List.length_append, List.length_singleton] at hj; omega
      subst hj'
      rw [List.getElem_append_right (by omega)] at hx
      simp only [← hk, Nat.sub_self, List.getElem_cons_zero] at hx
      rcases n.blk x hx with h1 | h1
      · exact .inl h1
      · exact .inr (by omega)
theorem LA.ext2 {B : Nat} {w : World} {vs : List Value} {C D : Nat → List (BitVec 8)} (h : LA B w vs C) (e : ∀ j, j < vs.length → C j = D j) : LA B w vs D := ⟨fun j hj => by rw [← e j hj]; exact h.row j hj, h.apart⟩
/-- The row of the grown lists is turned: no list is touched. -/
theorem MA.far {B s4 : Nat} {w w' : World} {vs ms : List Value} {C : Nat → List (BitVec 8)} (h : MA B s4 w vs ms C) {row : Option Nat} (hg : w.grownBy w' row) (hr : ∀ g, row = some g → s4 ≤ g ∧ (g < w.heap.size → ∃ cs, w.heap[g]? = some (.cells cs 27 (0, 0)))) : MA B s4 w' vs ms C := by
  have key : ∀ {n : Nat} {v : Value} {xs : List Value}, w.ownsRow B 5 1 v n xs → w'.ownsRow B 5 1 v n xs := by
    intro n v xs ho
    refine own_kept ho hg (fun g hv e => ?_)
    obtain ⟨cs, hc⟩ := (hr g e).2 ((ho.lt g hv).2)
    exact row_far ho hv hc (by decide) rfl
  refine ⟨fun j hj hm => key (h.own j hj hm), fun j hj => key (h.got j hj), fun j hj g n c hv i hi => ?_, h.blk, h.low, h.le, Nat.le_trans h.sz hg.size⟩
  obtain ⟨g', o', e, hcc⟩ := h.see j hj g n c hv i hi
  cases e
  have hlow := h.low j hj g (by rw [hv]; rfl)
  exact ⟨g, 0, rfl, hg.cell hcc (fun e => by have := (hr g e.symm).1; omega)⟩
theorem Gone.one {w w5 wr : World} {vs : List Value} {v : Value} (h1 : Gone w w5 vs) (h2 : Gone w5 wr [v]) (hv : v ∈ vs) : Gone w wr vs :=
  ⟨h2.os.trans h1.os, h2.tape.trans h1.tape, h2.output.trans h1.output, Nat.le_trans h1.size h2.size, fun k hk h => (h2.block k (Nat.lt_of_lt_of_le hk h1.size) (fun v' hv' => by rw [List.mem_singleton.1 hv']; exact h v hv)).trans (h1.block k hk h)⟩
end Go.Proofs.Ytkhogbnoincbeab.Tx
namespace Go.Proofs.Ytkhogbnoincbeab.Tx
open Go.RowKit Go.Maps Go.Sort
set_option maxRecDepth 100000

theorem below_same {w w' : World} (h : w' = w) : Below w.heap.size w w' := by subst h; exact Below.refl _ _
theorem own_byte {w : World} {B g c n : Nat} {Z : List (BitVec 8)} (h : w.ownsRow B 5 1 (.slice (some ⟨g, 0, none⟩) n c) n (bcells Z)) (hn : Z.length = n) (i : Nat) (hi : i < Z.length) : w.cell? ⟨g, i, none⟩ = some (.int .u8 (ub Z[i])) := (h.cellAt _ (by omega)).trans (bcells_get hi)
theorem own_place {w : World} {B g c n : Nat} {Z : List (BitVec 8)} (h : w.ownsRow B 5 1 (.slice (some ⟨g, 0, none⟩) n c) n (bcells Z)) (hn : Z.length = n) (i : Nat) (hi : i < Z.length) :
    ∃ y0, w.cell? ⟨g, i, none⟩ = some y0 ∧ w.frozen? ⟨g, i, none⟩ = false := ⟨_, own_byte h hn i hi, h.frozenAt _⟩
/-- The cells of a row of slices. -/
theorem hdr_cells {B : Nat} {w : World} {v : Value} {X : List Value} (h : w.ownsRow B 27 1 v X.length X) : ∃ al cl, v = .slice al X.length cl ∧ ∀ i (hi : i < X.length), ∃ gl, al = some ⟨gl, 0, none⟩ ∧ w.cell? ⟨gl, i, none⟩ = some X[i] ∧ ∃ cs, w.heap[gl]? = some (.cells cs 27 (0, 0)) := by
  rcases h.2 with ⟨rfl, hn⟩ | ⟨g, cap, cur, rfl, _, hg, hnc, hcm, hcs, htk⟩
  · exact ⟨none, 0, by rw [hn], fun i hi => by omega⟩
  · refine ⟨_, cap, rfl, fun i hi => ⟨g, rfl, ?_, cur, hg⟩⟩
    rw [cell_of_row w g _ _ _ _ hg]
    have h1 := congrArg (·[i]?) htk
    simp only [List.getElem?_take_of_lt (show i < X.length * 1 by omega), List.getElem?_eq_getElem hi] at h1
    simpa using h1
theorem book_heads {B : Nat} {w : World} {b : Nat} {lv wv : Value} {X Y : List Value} (h : Book B w b lv wv X Y) : w.cell? ⟨b, 0, none⟩ = some lv ∧ w.cell? ⟨b, 1, none⟩ = some wv := by
  rw [cell_of_row w b _ _ _ _ h.head, cell_of_row w b _ _ _ _ h.head]
  exact ⟨rfl, rfl⟩
theorem Book.below {B : Nat} {w w' : World} {b : Nat} {lv wv : Value} {X Y : List Value} (h : Book B w b lv wv X Y) (hb : Below w.heap.size w w') : Book B w' b lv wv X Y :=
  ⟨(hb.block b (Array.getElem?_eq_some_iff.1 h.head).1).trans h.head, own_below h.l hb, own_below h.s hb, h.ne⟩
/-- All lists marked up to the kk-th place of the k-th. -/
def mk (C : Nat → List (BitVec 8)) (k kk j : Nat) : List (BitVec 8) := if j < k then fillL j (C j) (C j).length else if j = k then fillL j (C j) kk else C j
theorem mk_len {C : Nat → List (BitVec 8)} {k kk j : Nat} (h : j = k → kk ≤ (C j).length) : (mk C k kk j).length = (C j).length := by
  unfold mk
  split
  · exact fillL_len _ _ _ (Nat.le_refl _)
  · split
    · rename_i e; exact fillL_len _ _ _ (h e)
    · rfl
theorem mk_zero (C : Nat → List (BitVec 8)) (j : Nat) : mk C 0 0 j = C j := by
  unfold mk
  rw [if_neg (by omega), fillL_zero]
  split <;> rfl
theorem mk_next (C : Nat → List (BitVec 8)) (k j : Nat) : mk C k (C k).length j = mk C (k + 1) 0 j := by
  unfold mk
  by_cases h1 : j < k
  · rw [if_pos h1, if_pos (by omega)]
  · rw [if_neg h1]
    by_cases h2 : j = k
    · subst h2
      rw [if_pos rfl, if_pos (by omega)]
    · rw [if_neg h2, if_neg (by omega)]
      split
      · rw [fillL_zero]
      · rfl
theorem mk_put (C : Nat → List (BitVec 8)) (k kk : Nat) (hkk : kk < (C k).length) (j : Nat) : (if j = k then (mk C k kk k).set kk (markOf k kk) else mk C k kk j) = mk C k (kk + 1) j := by
  unfold mk
  by_cases h : j = k
  · subst h
    rw [if_pos rfl, if_neg (Nat.lt_irrefl _), if_pos rfl, if_neg (Nat.lt_irrefl _), if_pos rfl]
    exact fillL_set _ _ _ hkk
  · rw [if_neg h, if_neg h, if_neg h]
theorem LA.ext {B : Nat} {w : World} {vs : List Value} {C D : Nat → List (BitVec 8)} (h : LA B w vs C) (e : ∀ j, C j = D j) : LA B w vs D := ⟨fun j hj => by rw [← e j]; exact h.row j hj, h.apart⟩

/-- A cell of what is of another type than ranges. -/
theorem Gone.cell {B : Nat} {w w' : World} {vs : List Value} {C : Nat → List (BitVec 8)} (H : LA B w vs C) (h : Gone w w' vs) {k j : Nat} {cs : Array Value} {t : TypeId} (hk : w.heap[k]? = some (.cells cs t (0, 0))) (ht : t ≠ 5) {v : Value} (hc : w.cell? ⟨k, j, none⟩ = some v) : w'.cell? ⟨k, j, none⟩ = some v :=
  (World.cell?_of_block (a := ⟨k, j, none⟩) ((h.far H hk ht).trans hk.symm)).trans hc
theorem own_some {w : World} {B n : Nat} {v : Value} {xs : List Value} (h : w.ownsRow B 5 1 v n xs) (hn : 0 < n) : ∃ g c, v = .slice (some ⟨g, 0, none⟩) n c := by
  rcases h.2 with ⟨_, h0⟩ | ⟨g, c, _, rfl, _⟩
  · omega
  · exact ⟨g, c, rfl⟩

theorem info25 : ∃ i : TypeInfo, Try.prog.info? 27 = some i ∧ i.zero = some (.slice none 0 0) ∧ i.size = 1 ∧ i.bytes = 24 := by
  have h : (Try.prog.info? 27).map (fun i => (i.zero, i.size, i.bytes)) = some (some (.slice none 0 0), 1, 24) := by kernel_rfl
  cases hi : Try.prog.info? 27 with
  | none => rw [hi] at h; simp at h
  | some i =>
    rw [hi] at h
    simp only [Option.map_some, Option.some.injEq, Prod.mk.injEq] at h
    exact ⟨i, rfl, h.1, h.2.1, h.2.2⟩
set_option maxHeartbeats 8000000 in
theorem good_any {B : Nat} {w : World} {b : Nat} {lv wv : Value} {vs Y : List Value} {C : Nat → List (BitVec 8)} (H : Book B w b lv wv vs Y) (hl : Y.length = vs.length) (hA : LA B w vs C)
    (hW : ∀ i (_ : i < vs.length), ∃ ay cy, Y[i]? = some (.slice ay (C i).length cy) ∧ BytesAt w ay (C i)) (hn : vs.length ≤ 1000000000000) (hBw : B ≤ w.heap.size) (hC : ∀ j, j < vs.length → (C j).length ≤ 140737488355200) :
    Calls Try.prog 17 #[.pointer (some ⟨b, 0, none⟩)] w fun e w' => e = .returned (.bool true) ∧ Gone w w' vs := by
  obtain ⟨al, cl, rfl, hlc⟩ := hdr_cells H.l
  obtain ⟨aw, cw, rfl, hwc⟩ := hdr_cells H.s
  obtain ⟨hb0, hb1⟩ := book_heads H
  have HH := hid H
  have HA := hid hA
  have HW := hid hW
  have HLC := hid hlc
  have HWC := hid hwc
  have HCL := hid hC
  clear H hA hW hlc hwc hC
  go_enter Try.func17, Try.ntmps17
  go_wp2_with fail
  go_loopw [18] (fun i wr => ∃ k : Nat, k ≤ vs.length ∧ i = .int .i64 k ∧ Below w.heap.size w wr) (fun i _ => vs.length - (intOf i).toNat)
  case atStart => exact ⟨0, Nat.zero_le _, rfl, Below.refl _ _⟩
  case round =>
    obtain ⟨k, hk, rfl, hb⟩ := hrel
    have HB := hid hb
    clear hb
    by_cases hlt : k < vs.length
    · have hki : (k : Int) < (vs.length : Int) := by omega
      have hky : (k : Int) < (Y.length : Int) := by omega
      have hk0 : (0 : Int) ≤ (k : Int) := by omega
      obtain ⟨gl, rfl, hgl, _⟩ := HLC.out k hlt
      obtain ⟨gw, rfl, hgw, _⟩ := HWC.out k (by omega)
      obtain ⟨ay, cy, hy, hCy⟩ := HW.out k hlt
      have hr := HA.out.row k hlt
      rw [List.getElem?_eq_getElem (by omega)] at hy
      simp only [Option.some.injEq] at hy
      rw [hy] at hgw
      obtain ⟨av, c, hv, hCv⟩ := own_cells hr
      rw [hv] at hgl
      have hbd := below_drewN HB.out 1
      have c0 := cell_kept HB.out hb0
      have c1 := cell_kept HB.out hb1
      have c2 := cell_kept HB.out hgl
      have c3 := cell_kept HB.out hgw
      have HSA := hid (psame_yes (c := c) (c' := cy) (hCv.kept hbd) rfl (hCy.kept hbd))
      have HD0 := hid (cell_kept hbd hb0)
      have HD1 := hid (cell_kept hbd hb1)
      have HD2 := hid (cell_kept hbd hgl)
      have HD3 := hid (cell_kept hbd hgw)
      have HBD := hid hbd
      clear hr hv hCv hCy hy hgl hgw hbd
      go_upto_region 4 with fail
      go_region_held3 (fun w' => w'.cell? ⟨b, 0, none⟩ = some (.slice (some ⟨gl, 0, none⟩) vs.length cl) ∧ w'.cell? ⟨b, 1, none⟩ = some (.slice (some ⟨gw, 0, none⟩) Y.length cw) ∧ w'.cell? ⟨gl, k, none⟩ = some (.slice av (C k).length c) ∧ w'.cell? ⟨gw, k, none⟩ = some (.slice ay (C k).length cy)) (go_keep)
        (first
          | (go_at_call 9; refine Calls.mono HSA.out ?_; rintro e w2 ⟨rfl, h2⟩; have hb2 := below_same h2; clear h2; have d0 := cell_kept hb2 HD0.out; have d1 := cell_kept hb2 HD1.out; have d2 := cell_kept hb2 HD2.out; have d3 := cell_kept hb2 HD3.out; have HB2 := hid (HBD.out.trans (hb2.mono HBD.out.size)); clear hb2))
      go_wp2_with fail
      go_roundw
      case rel => exact ⟨k + 1, hlt, by go_num, HB2.out⟩
      case measure => simp [intOf]; omega
    · have hki : ¬ (k : Int) < (vs.length : Int) := by omega
      have HB1 := hid HB.out
      clear HB HWC HW
      have c0 := cell_kept HB1.out hb0
      obtain ⟨w1, hw1⟩ : ∃ w1, w1 = wr := ⟨_, rfl⟩
      rw [← hw1] at HB1 c0 ⊢
      clear hw1
      go_wp2_with fail
      have HAS : Hid (LA B w1 vs (mk C 0 0)) := (HA.out.kept HB1.out).ext (fun j => (mk_zero C j).symm)
      have HGS := hid ((Gone.refl w vs).below HB1.out)
      have HBK := hid HH.out.head
      clear HB1 c0 HH
      go_loopw [43] (fun i wr => ∃ k : Nat, k ≤ vs.length ∧ i = .int .i64 k ∧ LA B wr vs (mk C k 0) ∧ Gone w wr vs) (fun i _ => vs.length - (intOf i).toNat)
      case atStart => exact ⟨0, Nat.zero_le _, rfl, HAS.out, HGS.out⟩
      case round =>
        obtain ⟨k, hk, rfl, hAk, hGk⟩ := hrel
        have HAK := hid hAk
        have HGK := hid hGk
        clear hAk hGk HAS HGS
        by_cases hlt : k < vs.length
        · have hki : (k : Int) < (vs.length : Int) := by omega
          have hk0 : (0 : Int) ≤ (k : Int) := by omega
          obtain ⟨gl, rfl, hgl, csl, hcsl⟩ := HLC.out k hlt
          have hr := HAK.out.row k hlt
          have hlenk : (mk C k 0 k).length = (C k).length := mk_len (fun _ => Nat.zero_le _)
          rw [hlenk] at hr
          obtain ⟨av, cv, hv⟩ := row_slice hr
          rw [hv] at hgl
          have HR := hid hr
          have HVK := hid hv
          have HCS := hid hcsl
          have HGL := hid hgl
          have c0 := HGK.out.cell HA.out HBK.out (by decide) hb0
          have c2 := HGK.out.cell HA.out HCS.out (by decide) hgl
          clear hr hv hlenk hcsl hgl
          go_wp2_with fail
          clear c0 c2
          go_loopw [54] (fun i wr => ∃ kk : Nat, kk ≤ (C k).length ∧ i = .int .i64 kk ∧ LA B wr vs (mk C k kk) ∧ Gone w wr vs) (fun i _ => (C k).length - (intOf i).toNat)
          case atStart => exact ⟨0, Nat.zero_le _, rfl, HAK.out, HGK.out⟩
          case round =>
            obtain ⟨kk, hkk, rfl, hAj, hGj⟩ := hrel
            have HAJ := hid hAj
            have HGJ := hid hGj
            clear hAj hGj HAK HGK
            by_cases hlt2 : kk < (C k).length
            · have hkki : (kk : Int) < ((C k).length : Int) := by omega
              have hkk0 : (0 : Int) ≤ (kk : Int) := by omega
              have hcl := HCL.out k hlt
              have hlj : (mk C k kk k).length = (C k).length := mk_len (fun _ => hkk)
              have hrj := HAJ.out.row k hlt
              rw [hlj] at hrj
              obtain ⟨g, c, hvg⟩ := own_some hrj (by omega)
              rw [HVK.out] at hvg
              simp only [Value.slice.injEq] at hvg
              obtain ⟨hav, _, hcv⟩ := hvg
              subst hav hcv
              have hvk := HVK.out
              have hob : (vs[k]).ownBlock = some g := by rw [hvk]; rfl
              have hbg : ¬ b = g := row_far (HA.out.row k hlt) hob HBK.out (by decide)
              have hlg : ¬ gl = g := row_far (HA.out.row k hlt) hob HCS.out (by decide)
              have c0 := HGJ.out.cell HA.out HBK.out (by decide) hb0
              have c2 := HGJ.out.cell HA.out HCS.out (by decide) HGL.out
              have hbd := below_drewN (Below.refl wr.heap.size wr) 1
              have HD0 := hid (cell_kept hbd c0)
              have HD2 := hid (cell_kept hbd c2)
              have HBD := hid hbd
              have HOB := hid hob
              have HLJ := hid hlj
              clear hbd hrj hvk hob hlj
              go_upto_region 13 with fail
              go_region_held3 (fun w' => w'.cell? ⟨b, 0, none⟩ = some (.slice (some ⟨gl, 0, none⟩) vs.length cl) ∧ w'.cell? ⟨gl, k, none⟩ = some (.slice (some ⟨g, 0, none⟩) (C k).length cv)) (go_keep)
                (first
                  | (go_at_call 28; refine (mark_any _ k kk (by omega) (by omega) k kk rfl rfl).mono ?_; rintro e w2 ⟨rfl, hb2⟩; have d0 := cell_kept hb2 HD0.out; have d2 := cell_kept hb2 HD2.out; have HA2 := hid ((HAJ.out.kept HBD.out).kept hb2); have HG2 := hid ((HGJ.out.below HBD.out).below hb2); have hr2 := HA2.out.row k hlt; rw [HLJ.out, HVK.out] at hr2; obtain ⟨y0, p0, p2⟩ := own_place hr2 HLJ.out kk (by have := HLJ.out; omega); have hpt := HA2.out.put hlt (g := g) (cap := cv) (by rw [HLJ.out]; exact HVK.out) (kk := kk) (by have := HLJ.out; omega) (markOf k kk); have z0 : (w2.setCell ⟨g, kk, none⟩ (.int .u8 (ub (markOf k kk)))).cell? ⟨b, 0, none⟩ = some (.slice (some ⟨gl, 0, none⟩) vs.length cl) := hpt.2.cell d0 (by simpa using hbg); have z2 : (w2.setCell ⟨g, kk, none⟩ (.int .u8 (ub (markOf k kk)))).cell? ⟨gl, k, none⟩ = some (.slice (some ⟨g, 0, none⟩) (C k).length cv) := hpt.2.cell d2 (by simpa using hlg); have HP2 := hid hpt; clear hb2 hr2 hpt))
              have HAF : Hid (LA B (w2.setCell ⟨g, kk, none⟩ (.int .u8 (ub (markOf k kk)))) vs (mk C k (kk + 1))) := HP2.out.1.ext (fun j => mk_put C k kk hlt2 j)
              have HGF : Hid (Gone w (w2.setCell ⟨g, kk, none⟩ (.int .u8 (ub (markOf k kk)))) vs) := HG2.out.grown HP2.out.2 (fun x hx => by simp only [Option.some.injEq] at hx; subst hx; exact .inr ⟨_, List.getElem_mem hlt, HOB.out⟩)
              clear HP2 HA2 HG2 z0 z2 d0 d2 p0 p2 HD0 HD2 HBD HAJ HGJ
              go_wp2_with fail
              go_roundw
              case rel => exact ⟨kk + 1, hlt2, by go_num, HAF.out, HGF.out⟩
              case measure => simp [intOf]; omega
            · have hkki : ¬ (kk : Int) < ((C k).length : Int) := by omega
              obtain rfl : kk = (C k).length := by omega
              have HAN : Hid (LA B wr vs (mk C (k + 1) 0)) := HAJ.out.ext (fun j => mk_next C k j)
              have HGN := hid HGJ.out
              clear HAJ HGJ
              go_wp2_with fail
              go_roundw
              case rel => exact ⟨k + 1, hlt, by go_num, HAN.out, HGN.out⟩
              case measure => simp [intOf]; omega
        · have hki : ¬ (k : Int) < (vs.length : Int) := by omega
          obtain rfl : k = vs.length := by omega
          have HAM := hid HAK.out
          have HGM := hid HGK.out
          clear HAK HGK
          obtain ⟨w4, hw4⟩ : ∃ w4, w4 = wr := ⟨_, rfl⟩
          rw [← hw4] at HAM HGM ⊢
          clear hw4
          have c0 := HGM.out.cell HA.out HBK.out (by decide) hb0
          go_wp2_with fail
          obtain ⟨i0, hi, hz0, hz1, hz2⟩ := info25
          have HMA : Hid (MA B w4.heap.size w4 vs [] C) := MA.start (HAM.out.ext2 (fun j hj => by unfold mk; rw [if_pos hj, fillL_all]))
          have HAP := hid HAM.out.apart
          have hsw := HGM.out.size
          clear HAM c0
          go_loopw [6, 76] (fun s6 i wr => ∃ (k : Nat) (ms : List Value), k ≤ vs.length ∧ i = .int .i64 k ∧ ms.length = k ∧ wr.ownsRow w4.heap.size 27 1 s6 ms.length ms ∧ MA B w4.heap.size wr vs ms C ∧ Gone w wr vs) (fun _ i _ => vs.length - (intOf i).toNat)
          case atStart => exact ⟨0, [], Nat.zero_le _, rfl, rfl, World.ownsRow_nil _ _ _ _, HMA.out, HGM.out⟩
          case round =>
            obtain ⟨k, ms, hk, rfl, hmk, hown, hMA, hGk⟩ := hrel
            have HOM := hid hown
            have HMK := hid hMA
            have HGK := hid hGk
            clear hown hMA hGk HMA HGM
            obtain ⟨mv, hmv⟩ : ∃ mv, mv = u6 := ⟨_, rfl⟩
            subst hmv
            by_cases hlt : k < vs.length
            · have hki : (k : Int) < (vs.length : Int) := by omega
              have hk0 : (0 : Int) ≤ (k : Int) := by omega
              have hcl := HCL.out k hlt
              obtain ⟨gl, rfl, hgl, csl, hcsl⟩ := HLC.out k hlt
              have hr := HMK.out.own k hlt (by omega)
              rw [moreL_len] at hr
              obtain ⟨av, cv, hv⟩ := row_slice hr
              rw [Nat.add_zero] at hv
              have c0 := HGK.out.cell HA.out HBK.out (by decide) hb0
              have c2 := HGK.out.cell HA.out hcsl (by decide) hgl
              rw [hv] at c2
              have HIN := hid (HMK.out.grow hmk.symm hlt)
              have HLOW := hid (fun x hx => Nat.lt_of_lt_of_le (HMK.out.low k hlt x hx) HMK.out.sz)
              rw [hv] at HIN HLOW
              obtain ⟨vk, HVK⟩ : ∃ vk, Hid (vk = Value.slice av (C k).length cv ∧ vs[k] = vk) := ⟨_, rfl, hv⟩
              rw [← HVK.out.1] at HIN HLOW
              have HIS : Hid (IN B wr wr vk k (C k).length 0 (.slice av (C k).length cv)) := by have := HIN.out; show IN _ _ _ _ _ _ _ _; rw [← HVK.out.1]; exact this
              clear hr hv hcsl hgl HIN
              obtain ⟨w5, hw5⟩ : ∃ w5, w5 = wr := ⟨_, rfl⟩
              rw [← hw5] at HOM HMK HGK HLOW HIS c0 c2 ⊢
              clear hw5
              go_wp2_with fail
              clear c0 c2
              go_loopw [8, 9] (fun gv s9 wr => ∃ kk : Nat, kk ≤ 70 ∧ s9 = .int .i64 kk ∧ IN B w5 wr vk k (C k).length kk gv) (fun _ i _ => 70 - (intOf i).toNat)
              case atStart => exact ⟨0, Nat.zero_le _, rfl, HIS.out⟩
              case round =>
                obtain ⟨kk, hkk, rfl, hIN⟩ := hrel
                have HI := hid hIN
                clear hIN HIS
                obtain ⟨a8, c8, e8, _⟩ := own_cells HI.out.own
                rw [moreL_len] at e8
                obtain ⟨gv, hgv⟩ : ∃ gv, gv = u8 := ⟨_, rfl⟩
                subst hgv
                subst e8
                by_cases hlt2 : kk < 70
                · have hkki : (kk : Int) < 70 := by omega
                  have hSp := fun W => mark_any W (k + 7) (kk + 3) (by omega) (by omega) ((k : Int) + 7) ((kk : Int) + 3) (by omega) (by omega)
                  have hw7 : IntKind.i64.wrap ((k : Int) + 7) = (k : Int) + 7 := by rw [IntKind.wrap_i64]; omega
                  have hw8 : IntKind.i64.wrap ((kk : Int) + 3) = (kk : Int) + 3 := by rw [IntKind.wrap_i64]; omega
                  go_wp2_with fail
                  refine (hSp _).mono ?_
                  rintro e w6 ⟨rfl, hb6⟩
                  have HOG : Hid (w6.ownsRow B 5 1 (.slice a8 ((C k).length + kk) c8) (moreL k (C k).length kk).length (bcells (moreL k (C k).length kk))) := own_below HI.out.own hb6
                  have HB6 := hid hb6
                  have hml : (moreL k (C k).length kk).length = (C k).length + kk := moreL_len _ _ _
                  have hB6 : B ≤ w6.heap.size := by have := HGK.out.size; have := HI.out.gone.size; have := hb6.size; omega
                  clear hb6 hSp
                  go_wp2_with (at_builtin; refine wpGrow rfl _ _ rfl (markOf (k + 7) (kk + 3)) rfl HOG.out rfl (by omega) hB6 ?_; intro v7 w7 ho7 hc7; have HIN7 := hid (HI.out.next HB6.out ho7 hc7); clear ho7 hc7)
                  go_roundw
                  case rel => exact ⟨kk + 1, by omega, by go_num, HIN7.out⟩
                  case measure => simp [intOf]; omega
                · have hkki : ¬ (kk : Int) < 70 := by omega
                  obtain rfl : kk = 70 := by omega
                  have HMN : Hid (MA B w4.heap.size wr vs (ms ++ [.slice a8 ((C k).length + 70) c8]) C) := HMK.out.next HAP.out hmk.symm hlt (by rw [HVK.out.2]; exact HI.out)
                  have HGN : Hid (Gone w wr vs) := HGK.out.one HI.out.gone (by rw [← HVK.out.2]; exact List.getElem_mem hlt)
                  have HOR : Hid (wr.ownsRow w4.heap.size 27 1 mv ms.length ms) := own_gone HOM.out HI.out.gone (fun x hx e => by have h1 := own_ge HOM.out hx; have h2 := HMK.out.low k hlt x (by rw [HVK.out.2]; exact e); omega)
                  have hs5 := HMN.out.sz
                  clear HI HMK HGK HOM HLOW
                  obtain ⟨am, cm, hmv⟩ := row_slice HOR.out
                  subst hmv
                  go_wp2_with (at_builtin; refine wpList_append_own_at _ rfl _ _ 31 rfl w4.heap.size 27 i0 (.slice none 0 0) 1 24 Try.underlying31 hi hz0 hz1 hz2 rfl (by decide) (.slice am ms.length cm) ms.length ms rfl (World.ownsRow.alloc HOR.out _) ⟨wr.heap.size, 0, none⟩ 1 1 [.slice a8 ((C k).length + 70) c8] rfl rfl (box_range wr 27 _) (fun u hu => by rw [List.mem_singleton.1 hu]; rfl) (by unfold maxLen; omega) (by omega) (by simp; omega) ?_; intro v8 w8 ho8 hg8 _ _; have HO8 := hid ho8; have HG8 := hid hg8; clear ho8 hg8)
                  have hg8 : (wr.alloc (.cells #[.slice a8 ((C k).length + 70) c8] 27)).grownBy w8 (Value.slice am ms.length cm).ownBlock := HG8.out
                  have HM8 : Hid (MA B w4.heap.size w8 vs (ms ++ [.slice a8 ((C k).length + 70) c8]) C) := (HMN.out.kept (below_box wr _)).far hg8 (fun g hg => ⟨own_ge HOR.out hg, fun _ => row_type (World.ownsRow.alloc HOR.out _) hg⟩)
                  have HGF : Hid (Gone w w8 vs) := (HGN.out.below (below_box wr _)).grown hg8 (fun g hg => .inl (by have := own_ge HOR.out hg; omega))
                  have HOF : Hid (w8.ownsRow w4.heap.size 27 1 v8 (ms ++ [Value.slice a8 ((C k).length + 70) c8]).length (ms ++ [Value.slice a8 ((C k).length + 70) c8])) := by show World.ownsRow _ _ _ _ _ _ _; rw [List.length_append]; exact HO8.out
                  clear HG8 hg8 HO8 HMN HGN HOR
                  go_wp2_with fail
                  go_roundw
                  case rel => exact ⟨k + 1, _, hlt, by go_num, by simp; omega, HOF.out, HM8.out, HGF.out⟩
                  case measure => simp [intOf]; omega
            · have hki : ¬ (k : Int) < (vs.length : Int) := by omega
              obtain rfl : k = vs.length := by omega
              obtain ⟨w9, hw9⟩ : ∃ w9, w9 = wr := ⟨_, rfl⟩
              rw [← hw9] at HOM HMK HGK ⊢
              clear hw9
              have c0 := HGK.out.cell HA.out HBK.out (by decide) hb0
              go_wp2_with fail
              obtain ⟨am, cm, hmv, hmc⟩ := hdr_cells HOM.out
              subst hmv
              have HMC := hid hmc
              rw [hmk]
              have HML := hid hmk
              clear c0 hmc hmk
              go_loopw [108] (fun i wr => ∃ k : Nat, k ≤ vs.length ∧ i = .int .i64 k ∧ Below w9.heap.size w9 wr) (fun i _ => vs.length - (intOf i).toNat)
              case atStart => exact ⟨0, Nat.zero_le _, rfl, Below.refl _ _⟩
              case round =>
                obtain ⟨k, hk, rfl, hb⟩ := hrel
                have HB := hid hb
                clear hb
                by_cases hlt : k < vs.length
                · have hki : (k : Int) < (vs.length : Int) := by omega
                  have hk0 : (0 : Int) ≤ (k : Int) := by omega
                  have hcl := HCL.out k hlt
                  obtain ⟨gl, rfl, hgl, csl, hcsl⟩ := HLC.out k hlt
                  obtain ⟨gm, rfl, hgm, _⟩ := HMC.out k (by have := HML.out; omega)
                  have hgot := HMK.out.got k (by have := HML.out; omega)
                  have hml : (moreL k (C k).length 70).length = (C k).length + 70 := moreL_len _ _ _
                  have hrv : ∃ av cv, vs[k] = .slice av (C k).length cv := row_slice (HA.out.row k hlt)
                  obtain ⟨av, cv, hv⟩ := hrv
                  obtain ⟨gx, cx, hgx⟩ := own_some hgot (by omega)
                  rw [hml] at hgx
                  have HMX := hid (fun kk (hkk : kk < (C k).length + 70) => own_byte (by rw [hgx, hml] at hgot; exact hgot) hml kk (by omega))
                  have HSE := hid (fun g (hg : av = some ⟨g, 0, none⟩) => HMK.out.see k hlt g _ _ (by rw [hv, hg]))
                  have d0 := HGK.out.cell HA.out HBK.out (by decide) hb0
                  have d2 := HGK.out.cell HA.out hcsl (by decide) hgl
                  have HSH : Hid (0 < (C k).length → ∃ g, av = some ⟨g, 0, none⟩) := fun hp => by
                    obtain ⟨g, c, e⟩ := own_some (HA.out.row k hlt) hp
                    rw [hv] at e
                    simp only [Value.slice.injEq] at e
                    exact ⟨g, e.1⟩
                  rw [hv] at d2
                  rw [hgx] at hgm
                  have c0 := cell_kept HB.out d0
                  have c2 := cell_kept HB.out d2
                  have c3 := cell_kept HB.out hgm
                  have HC0 := hid d0
                  have HC2 := hid d2
                  have HC3 := hid hgm
                  clear hgot hv hgx hgl hgm hcsl d0 d2
                  go_wp2_with fail
                  clear c0 c2 c3
                  go_loopw [124] (fun i wr => ∃ kk : Nat, kk ≤ (C k).length + 70 ∧ i = .int .i64 kk ∧ Below w9.heap.size w9 wr) (fun i _ => (C k).length + 70 - (intOf i).toNat)
                  case atStart => exact ⟨0, Nat.zero_le _, rfl, HB.out⟩
                  case round =>
                    obtain ⟨kk, hkk, rfl, hbj⟩ := hrel
                    have HBJ := hid hbj
                    clear hbj HB
                    by_cases hlt2 : kk < (C k).length + 70
                    · have hkki : (kk : Int) < ((C k).length : Int) + 70 := by omega
                      have hkki2 : (kk : Int) < (((C k).length + 70 : Nat) : Int) := by omega
                      have hkk0 : (0 : Int) ≤ (kk : Int) := by omega
                      have m0 := HMX.out kk hlt2
                      have c0 := cell_kept HBJ.out HC0.out
                      have c2 := cell_kept HBJ.out HC2.out
                      have c3 := cell_kept HBJ.out HC3.out
                      have hbd := below_drewN HBJ.out 1
                      have HD0 := hid (cell_kept hbd HC0.out)
                      have HD2 := hid (cell_kept hbd HC2.out)
                      have HD3 := hid (cell_kept hbd HC3.out)
                      have HBD := hid hbd
                      clear hbd
                      by_cases hin : kk < (C k).length
                      · have hdi : decide ((kk : Int) < ((C k).length : Int)) = true := decide_eq_true (by omega)
                        have HN : Hid (¬ (C k).length ≤ kk) := by show ¬ _; omega
                        obtain ⟨g, rfl⟩ := HSH.out (by omega)
                        have hlow := moreL_low k (C k).length 70 kk hin
                        rw [List.getElem?_eq_getElem (by omega)] at hlow
                        simp only [Option.some.injEq] at hlow
                        rw [hlow] at m0
                        have hlow0 := moreL_low k (C k).length 0 kk hin
                        have n0 : w9.cell? ⟨g, kk, none⟩ = some (.int .u8 (ub (markOf k kk))) := by
                          have hl0 : (moreL k (C k).length 0).length = (C k).length := moreL_len _ _ _
                          obtain ⟨g', o', e, h1⟩ := HSE.out g rfl kk (by omega)
                          cases e
                          rw [List.getElem?_eq_getElem (by omega)] at hlow0
                          simp only [Option.some.injEq] at hlow0
                          rw [hlow0, Nat.zero_add] at h1
                          exact h1
                        have q0 := cell_kept HBJ.out n0
                        have r0 := cell_kept HBJ.out m0
                        have HSp := hid (fun W => mark_any W k kk (by omega) (by omega) k kk rfl rfl)
                        clear n0 m0 hlow hlow0
                        generalize ub (markOf k kk) = sp at *
                        go_upto_region 34 with fail
                        have HH1 := hid (fun d os => Calls.regrown_of (HSp.out (grow (redrawn wr d) os)))
                        have k0 := cell_regrown c0
                        have k2 := cell_regrown c2
                        have k3 := cell_regrown c3
                        have k4 := cell_regrown q0
                        have k6 := cell_regrown r0
                        clear c0 c2 c3 q0 r0
                        go_cut [180] from 127 to 180 (fun s180 wx => s180 = .bool false ∧ Below wr.heap.size wr wx)
                        case first =>
                          refine wp_region_quiet_below (by kernel_rfl) (by kernel_rfl) ?_
                          iterate 37 (quiet_step (first | (go_at_call 28; exact HH1.out _ _)))
                          iterate 15 (refine wpQuiet_step (fun K hK => ?_); go_simp; rw [if_neg HN.out]; refine hK _ ?_; clear hK K)
                          refine wpQuiet_step (fun K hK => ?_)
                          go_simp
                          first | rw [if_neg HN.out] | skip
                          refine hK _ ?_
                          clear hK K
                          quiet_step (fail)
                          refine wpQuiet_nil ?_
                          intro _ hw'
                          obtain ⟨⟨dq, osq⟩, hw''⟩ := hw'
                          subst hw''
                          go_wp2_with fail
                          go_meet
                          exact ⟨rfl, below_regrown wr dq osq⟩
                        case rest =>
                          obtain ⟨rfl, hbc⟩ := hcut
                          have HBb := hid (HBJ.out.trans (hbc.mono HBJ.out.size))
                          clear hbc
                          go_wp2_with fail
                          go_roundw
                          case rel => exact ⟨kk + 1, hlt2, by go_num, HBb.out⟩
                          case measure => simp [intOf]; omega
                      · have HN : Hid (¬ kk < (C k).length) := by show ¬ _; omega
                        have hdg : decide (((C k).length : Int) ≤ (kk : Int)) = true := decide_eq_true (by omega)
                        have hhi := moreL_high k (C k).length 70 kk (by omega) hlt2
                        rw [List.getElem?_eq_getElem (by omega)] at hhi
                        simp only [Option.some.injEq] at hhi
                        rw [hhi] at m0
                        have r0 := cell_kept HBJ.out m0
                        have HSp := hid (fun W => mark_any W (k + 7) (kk - (C k).length + 3) (by omega) (by omega) ((k : Int) + 7) ((kk : Int) - ((C k).length : Int) + 3) (by omega) (by omega))
                        clear m0 hhi
                        generalize ub (markOf (k + 7) (kk - (C k).length + 3)) = sp at *
                        go_upto_region 34 with fail
                        have HH1 := hid (fun d os => Calls.regrown_of (HSp.out (grow (redrawn wr d) os)))
                        have k3 := cell_regrown c3
                        have k6 := cell_regrown r0
                        have HDG := hid hdg
                        clear c3 r0 hdg hin
                        go_cut [180] from 127 to 180 (fun s180 wx => s180 = .bool false ∧ Below wr.heap.size wr wx)
                        case first =>
                          refine wp_region_quiet_below (by kernel_rfl) (by kernel_rfl) ?_
                          have hdi : decide ((kk : Int) < ((C k).length : Int)) = false := decide_eq_false (by have := HN.out; omega)
                          have hin := HN.out
                          have hdn : decide (kk < (C k).length) = false := decide_eq_false hin
                          iterate 4 (quiet_step (fail))
                          clear hdi hin hdn
                          iterate 15 go_big_quiet_skip
                          iterate 12 go_big_quiet_skip
                          have hdg := HDG.out
                          have hle : (C k).length ≤ kk := Nat.le_of_not_lt HN.out
                          have hdm : decide ((C k).length ≤ kk) = true := decide_eq_true hle
                          iterate 6 (quiet_step (fail))
                          have hw0 : IntKind.i64.wrap ((k : Int) + 7) = (k : Int) + 7 := by rw [IntKind.wrap_i64]; omega
                          have hw1 : IntKind.i64.wrap ((kk : Int) - ((C k).length : Int)) = (kk : Int) - ((C k).length : Int) := by rw [IntKind.wrap_i64]; omega
                          have hw2 : IntKind.i64.wrap ((kk : Int) - ((C k).length : Int) + 3) = (kk : Int) - ((C k).length : Int) + 3 := by rw [IntKind.wrap_i64]; omega
                          clear hdg hle hdm
                          iterate 15 (quiet_step (first | (go_at_call 28; exact HH1.out _ _)))
                          iterate 2 (quiet_step (fail))
                          refine wpQuiet_nil ?_
                          intro _ hw'
                          obtain ⟨⟨dq, osq⟩, hw''⟩ := hw'
                          subst hw''
                          go_wp2_with fail
                          go_meet
                          exact ⟨rfl, below_regrown wr dq osq⟩
                        case rest =>
                          obtain ⟨rfl, hbc⟩ := hcut
                          have HBb := hid (HBJ.out.trans (hbc.mono HBJ.out.size))
                          clear hbc
                          go_wp2_with fail
                          go_roundw
                          case rel => exact ⟨kk + 1, hlt2, by go_num, HBb.out⟩
                          case measure => simp [intOf]; omega
                    · have hkki : ¬ (kk : Int) < ((C k).length : Int) + 70 := by omega
                      have hkki2 : ¬ (kk : Int) < (((C k).length + 70 : Nat) : Int) := by omega
                      go_wp2_with fail
                      go_roundw
                      case rel => exact ⟨k + 1, hlt, by go_num, HBJ.out⟩
                      case measure => simp [intOf]; omega
                · have hki : ¬ (k : Int) < (vs.length : Int) := by omega
                  have HGE := hid (HGK.out.below HB.out)
                  clear HGK HB
                  go_wp2_with fail
                  go_ret
                  exact ⟨rfl, HGE.out⟩
end Go.Proofs.Ytkhogbnoincbeab.Tx
namespace Go.Proofs.Ytkhogbnoincbeab.Tx
open Go.RowKit Go.Maps Go.Sort
set_option maxRecDepth 100000

theorem box_cell (w : World) (t : TypeId) (c : Array Value) (j : Nat) (v : Value) (h : c[j]? = some v) : (w.alloc (.cells c t)).cell? ⟨w.heap.size, j, none⟩ = some v := by
  rw [cell_of_row _ _ _ _ _ _ (heap_alloc_new w _)]
  exact h
theorem i33 : (Try.prog.info? 31).map (·.size) = some 1 := by kernel_rfl
section
variable {ops : Array Oper} {o : Oper} {a : Act} {w : World} {K : Act → World → Prop} {Q : Exit → Act → World → Prop}
theorem wpOp_of {P : Program} {i : Nat} (ho : ops[i]? = some o) (hg : o.guard = none) (h : o.wp P a w K Q) : wpOp P ops Q i K a w := by
  unfold wpOp
  rw [ho]
  simp only [Region.wanted, hg]
  exact .inl h
theorem step_move {x : Operand} {v : Value} (ho : o.op = .move x) (hx : a.eval x = v) (h : K (a.put o.dst v) w) : Oper.wp Try.prog o a w K Q :=
  step_value (w' := w) (by generalize a.eval = r at *; simp [execOp, ho, hx, go_sem]) h
theorem step_nilc {x : Operand} {ad : Addr} (ho : o.op = .nilCheck x) (hx : a.eval x = .pointer (some ad)) (h : K (a.put o.dst (.pointer (some ad))) w) : Oper.wp Try.prog o a w K Q :=
  step_value (w' := w) (by generalize a.eval = r at *; simp [execOp, ho, hx, go_sem]) h
theorem step_f350 {x : Operand} {b : Nat} (ho : o.op = .fieldAddr 33 x 0) (hx : a.eval x = .pointer (some ⟨b, 0, none⟩)) (h : K (a.put o.dst (.pointer (some ⟨b, 0, none⟩))) w) : Oper.wp Try.prog o a w K Q :=
  step_value (w' := w) (by generalize a.eval = r at *; simp [execOp, ho, hx, go_sem]) h
theorem step_f351 {x : Operand} {b : Nat} (ho : o.op = .fieldAddr 33 x 1) (hx : a.eval x = .pointer (some ⟨b, 0, none⟩)) (h : K (a.put o.dst (.pointer (some ⟨b, 1, none⟩))) w) : Oper.wp Try.prog o a w K Q :=
  step_value (w' := w) (by generalize a.eval = r at *; simp [execOp, ho, hx, go_sem]) h
theorem step_load33 {x : Operand} {ad : Addr} {av : Option Addr} {n c : Nat} (ho : o.op = .load 31 x) (hx : a.eval x = .pointer (some ad)) (hc : w.cell? ad = some (.slice av n c)) (h : K (a.put o.dst (.slice av n c)) w) : Oper.wp Try.prog o a w K Q :=
  step_value (w' := w) (by have hi := i33; generalize a.eval = r at *; simp [execOp, ho, hx, hc, go_sem]) h
theorem step_build33 {x : Operand} {ad : Option Addr} {len cap : Nat} (ho : o.op = .buildSlice 31 1 #[(0, x)]) (hx : a.eval x = .slice ad len cap) (h : K (a.put o.dst (.slice (some ⟨w.heap.size, 0, none⟩) 1 1)) (w.alloc (.cells #[.slice ad len cap] 27))) : Oper.wp Try.prog o a w K Q :=
  step_value (w' := w.alloc (.cells #[.slice ad len cap] 27)) (by generalize a.eval = r at *; simp [execOp, ho, hx, go_sem]) h
theorem step_app {s x : Operand} {t u : TypeId} {vs vx v : Value} {w' : World} (ho : o.op = .call { callee := .builtin .append, args := #[s, x], argTypes := #[t, u] }) (hs : a.eval s = vs) (hx : a.eval x = vx)
    (hr : (Builtin.append_ #[t, u] o.type #[vs, vx]).run Try.prog w = .ok v w') (h : K (a.put o.dst v) w') : Oper.wp Try.prog o a w K Q := by
  unfold Oper.wp execOp
  simp only [ho, resolve, invoke, builtin, Sem.run_bind, Sem.run_pure, Result.andThen_ok, List.map_toArray, List.map_cons, List.map_nil, hs, hx, hr]
  exact h
theorem step_copy {x : Operand} {v : Value} {G : Value → World → Prop} (ho : o.op = .call { callee := .value (.func 6), args := #[x], argTypes := #[27] }) (hx : a.eval x = v)
    (hc : Calls Try.prog 6 #[v] w fun e w' => ∃ r, e = .returned r ∧ G r w') (h : ∀ r w', G r w' → K (a.put o.dst r) w') : Oper.wp Try.prog o a w K Q :=
  step_callv (f := 6) (args := #[a.eval x]) (by simp [execOp, ho, resolve, invoke, go_sem]) (by rw [hx]; exact hc) h
theorem step_store33 {x y : Operand} {b k : Nat} {av : Option Addr} {n c : Nat} {old : Value} (ho : o.op = .store 31 x y) (hx : a.eval x = .pointer (some ⟨b, k, none⟩)) (hy : a.eval y = .slice av n c) (hc : w.cell? ⟨b, k, none⟩ = some old) (hf : w.frozen? ⟨b, k, none⟩ = false)
    (h : K (a.put o.dst undef) (w.setCell ⟨b, k, none⟩ (.slice av n c))) : Oper.wp Try.prog o a w K Q := by
  have hi := i33
  have e : (execOp a.eval o).run Try.prog w = .ok .skip (w.setCell ⟨b, k, none⟩ (.slice av n c)) := by
    generalize a.eval = r at *
    simp [execOp, ho, hx, hy, hc, hf, go_sem]
  unfold Oper.wp
  rw [e]
  exact h
end
/-- What the book's call leaves: only its own memory is turned. -/
structure Kept (w w' : World) (b : Nat) (lv wv : Value) : Prop where
  os : w'.os = w.os
  tape : w'.tape = w.tape
  output : w'.output = w.output
  size : w.heap.size ≤ w'.heap.size
  block : ∀ k, k < w.heap.size → k ≠ b → some k ≠ lv.ownBlock → some k ≠ wv.ownBlock → w'.heap[k]? = w.heap[k]?

/-- What each slot of Keep's last statement holds. -/
def KeepS (W0 B b : Nat) (wv u : Value) (R : List (BitVec 8)) (Y : List Value) (i : Nat) (v : Value) (w : World) : Prop :=
  match i with
  | 0 | 1 | 2 | 9 => v = .pointer (some ⟨b, 0, none⟩)
  | 3 | 10 => v = .pointer (some ⟨b, 1, none⟩)
  | 4 => v = wv
  | 5 => v = u
  | 6 => w.ownsRow W0 5 1 v R.length (bcells R)
  | 7 => ∃ g v7, v = .slice (some ⟨g, 0, none⟩) 1 1 ∧ W0 ≤ g ∧ w.cell? ⟨g, 0, none⟩ = some v7 ∧ w.ownsRow W0 5 1 v7 R.length (bcells R)
  | 8 => ∃ v7, w.ownsRow W0 5 1 v7 R.length (bcells R) ∧ w.ownsRow B 27 1 v (Y.length + 1) (Y ++ [v7]) ∧ (v.ownBlock = wv.ownBlock ∨ ∃ g, v.ownBlock = some g ∧ W0 ≤ g)
  | _ => True
theorem KeepS.kept {W0 B b : Nat} {wv u : Value} {R : List (BitVec 8)} {Y : List Value} {w w' : World} (hb : Below w.heap.size w w') (i : Nat) (v : Value) (h : KeepS W0 B b wv u R Y i v w) : KeepS W0 B b wv u R Y i v w' := by
  unfold KeepS at h ⊢
  split at h <;> (try exact h)
  · exact own_below h hb
  · obtain ⟨g, v7, h1, h2, h3, h4⟩ := h
    exact ⟨g, v7, h1, h2, cell_kept hb h3, own_below h4 hb⟩
  · obtain ⟨v7, h1, h2, h3⟩ := h
    exact ⟨v7, own_below h1 hb, own_below h2 hb, h3⟩
theorem cells_far {w w' : World} {a : Option Addr} {L : List (BitVec 8)} {row : Option Nat} (C : BytesAt w a L) (hg : w.grownBy w' row) (hn : ∀ ad, a = some ad → some ad.block ≠ row) : BytesAt w' a L := fun k hk => by
  obtain ⟨g, o, e, hc⟩ := C k hk
  exact ⟨g, o, e, hg.cell hc (hn ⟨g, o, none⟩ e)⟩
set_option maxHeartbeats 1000000 in
/-- A copy of bytes. -/
theorem copy_any {w : World} {a : Option Addr} {cap : Nat} {R : List (BitVec 8)} (C : BytesAt w a R) (hr : R.length ≤ 140737488355328) (hz : a = none → cap = 0) :
    Calls Try.prog 6 #[.slice a R.length cap] w fun e w' => ∃ v, e = .returned v ∧ w'.ownsRow w.heap.size 5 1 v R.length (bcells R) ∧ Below w.heap.size w w' := by
  have HC := hid C
  have HR := hid hr
  have HZ := hid hz
  clear C hr hz
  go_enter Try.func6, Try.ntmps6
  go_wp2_with (at_builtin; refine wpAppendA (.tmp 4) (.tmp 5) rfl rfl (base := w.heap.size) (k := 0) (v := .slice none 0 0) (old := []) rfl ⟨rfl, .inl ⟨rfl, rfl⟩⟩ (Nat.le_refl _) rfl HZ.out rfl HC.out (by have := HR.out; omega) ?_; intro w1 v1 ho1 hg1)
  go_ret
  have h := ho1.out
  rw [Nat.zero_add, List.nil_append] at h
  exact ⟨_, rfl, h, (Below.refl _ _).grown hg1.out.1 (Nat.le_refl _) (fun g e => by simp [Value.ownBlock] at e)⟩
theorem head_set0 {w : World} {b : Nat} {x y v : Value} (h : w.heap[b]? = some (.cells #[x, y] 33 (0, 0))) : (w.setCell ⟨b, 0, none⟩ v).heap[b]? = some (.cells #[v, y] 33 (0, 0)) ∧ w.grownBy (w.setCell ⟨b, 0, none⟩ v) (some b) := by
  refine ⟨?_, ⟨rfl, rfl, rfl, by simp, fun k _ hk => heap_setCell_other w ⟨b, 0, none⟩ k v (fun e => hk (by simp [e]))⟩⟩
  rw [heap_setCell_same w b 0 _ 33 v h]
  rfl
theorem head_set1 {w : World} {b : Nat} {x y v : Value} (h : w.heap[b]? = some (.cells #[x, y] 33 (0, 0))) : (w.setCell ⟨b, 1, none⟩ v).heap[b]? = some (.cells #[x, v] 33 (0, 0)) ∧ w.grownBy (w.setCell ⟨b, 1, none⟩ v) (some b) := by
  refine ⟨?_, ⟨rfl, rfl, rfl, by simp, fun k _ hk => heap_setCell_other w ⟨b, 1, none⟩ k v (fun e => hk (by simp [e]))⟩⟩
  rw [heap_setCell_same w b 1 _ 33 v h]
  rfl
theorem lt_of_own {w : World} {B : Nat} {e : TypeId} {size n g : Nat} {v : Value} {xs : List Value} (h : w.ownsRow B e size v n xs) (hv : v.ownBlock = some g) : g < w.heap.size := by
  obtain ⟨cs, hc⟩ := row_type h hv
  exact (Array.getElem?_eq_some_iff.1 hc).1
/-- The second half of Keep, world by world. -/
theorem KeepS.grown {W0 B b : Nat} {wv u : Value} {R : List (BitVec 8)} {Y : List Value} {w w' : World} (hg : w.grownBy w' wv.ownBlock) (hlt : ∀ g, wv.ownBlock = some g → g < W0) (i : Nat) (v : Value) (hi : i ≠ 8) (h : KeepS W0 B b wv u R Y i v w) : KeepS W0 B b wv u R Y i v w' := by
  unfold KeepS at h ⊢
  split at h <;> (try exact h)
  · exact own_kept h hg (fun g e => by intro e'; have := own_ge h e; have := hlt g e'; omega)
  · obtain ⟨g, v7, h1, h2, h3, h4⟩ := h
    exact ⟨g, v7, h1, h2, hg.cell h3 (fun e => by have := hlt g e.symm; omega), own_kept h4 hg (fun g e => by intro e'; have := own_ge h4 e; have := hlt g e'; omega)⟩
  · exact absurd rfl hi
theorem own_mono {w : World} {base base' : Nat} {e : TypeId} {size : Nat} {v : Value} {n : Nat} {xs : List Value} (h : w.ownsRow base e size v n xs) (hb : base' ≤ base) : w.ownsRow base' e size v n xs := by
  refine ⟨h.1, h.2.imp id ?_⟩
  rintro ⟨g, cap, cur, h1, h2, h3⟩
  exact ⟨g, cap, cur, h1, Nat.le_trans hb h2, h3⟩
theorem wp_act {Q : Exit → Act → World → Prop} {a : Act} {w : World} {code : Code} (h : ∀ a0, Hid (a0 = a) → code.wp Try.prog Q a0 w) : code.wp Try.prog Q a w := h a rfl

set_option maxHeartbeats 2000000 in
theorem keep_any {B : Nat} {w : World} {b : Nat} {lv wv : Value} {X Y : List Value} {a : Option Addr} {cap : Nat} {R : List (BitVec 8)} (H : Book B w b lv wv X Y) (hB : B ≤ w.heap.size) (C : BytesAt w a R) (hsep : ∀ ad, a = some ad → ad.block ≠ b ∧ some ad.block ≠ lv.ownBlock ∧ some ad.block ≠ wv.ownBlock)
    (hx : (X.length + 1) * 24 ≤ 140737488355328) (hy : (Y.length + 1) * 24 ≤ 140737488355328) (hr : R.length ≤ 140737488355328) (hz : a = none → cap = 0) :
    Calls Try.prog 16 #[.pointer (some ⟨b, 0, none⟩), .slice a R.length cap] w fun e w' => e = .returned (.tuple #[]) ∧ ∃ lv' wv' u', Book B w' b lv' wv' (X ++ [.slice a R.length cap]) (Y ++ [u']) ∧ w'.ownsRow w.heap.size 5 1 u' R.length (bcells R) ∧ Kept w w' b lv wv ∧
      (lv'.ownBlock = lv.ownBlock ∨ ∃ g, lv'.ownBlock = some g ∧ w.heap.size ≤ g) ∧ (wv'.ownBlock = wv.ownBlock ∨ ∃ g, wv'.ownBlock = some g ∧ w.heap.size ≤ g) := by
  obtain ⟨i0, hi, hz0, hz1, hz2⟩ := info25
  obtain ⟨al, cl, rfl⟩ := row_slice H.l
  have hb0 : w.cell? ⟨b, 0, none⟩ = some (.slice al X.length cl) := by rw [cell_of_row w b _ _ _ _ H.head]; rfl
  have HH := hid H
  have HC := hid C
  have HSEP := hid hsep
  have HHB := hid hB
  have HXX := hid hx
  have HYY := hid hy
  have HRR := hid hr
  have HZR := hid hz
  clear H C hsep
  obtain ⟨u, hu⟩ : ∃ u, u = Value.slice a R.length cap := ⟨_, rfl⟩
  go_enter Try.func16, Try.ntmps16
  go_upto_region 1 with (at_builtin; refine wpList_append_own_at _ rfl _ _ 31 rfl B 27 i0 (.slice none 0 0) 1 24 Try.underlying31 hi hz0 hz1 hz2 rfl (by decide) (.slice al X.length cl) X.length X rfl (World.ownsRow.alloc HH.out.l _) ⟨w.heap.size, 0, none⟩ 1 1 [.slice a R.length cap] rfl rfl (box_range w 27 [.slice a R.length cap]) (by simp [Value.oneCell']) (by unfold maxLen; omega) HXX.out (by simp; omega) ?_; intro v1 w1 ho1 hg1 _ hat1; have HO1 := hid ho1; have HG1 := hid hg1; have HA1 := hid hat1; obtain ⟨a1, c1, rfl⟩ := row_slice ho1; have hd1 : w1.heap[b]? = some (.cells #[.slice al X.length cl, wv] 33 (0, 0)) := ((hg1.block b (by have := (Array.getElem?_eq_some_iff.1 HH.out.head).1; simp; omega) (fun e => HH.out.apart.1 e.symm)).trans ((below_box w _).block b (Array.getElem?_eq_some_iff.1 HH.out.head).1)).trans HH.out.head; have hc1 : w1.cell? ⟨b, 0, none⟩ = some (.slice al X.length cl) := (by rw [cell_of_row w1 b _ _ _ _ hd1]; rfl); have hf1 := frozen_of_row w1 b 0 _ 33 hd1; have HD1 := hid hd1; clear ho1 hg1 hat1 hd1)
  obtain ⟨hs1, hs2⟩ := head_set0 (v := .slice a1 (X.length + 1) c1) HD1.out
  have hbl := (Array.getElem?_eq_some_iff.1 HH.out.head).1
  have HBK : Hid (Book B (w1.setCell ⟨b, 0, none⟩ (.slice a1 (X.length + 1) c1)) b (.slice a1 (X.length + 1) c1) wv (X ++ [.slice a R.length cap]) Y) := by
    have hwv1 : w1.ownsRow B 27 1 wv Y.length Y := own_kept (own_below HH.out.s (below_box w _)) HG1.out (fun g e e' => HH.out.ne g e' e)
    refine ⟨hs1, ?_, own_kept hwv1 hs2 (fun g e e' => ?_), fun g e => ?_⟩
    · rw [List.length_append]
      refine own_kept HO1.out hs2 (fun g e e' => ?_)
      simp only [Option.some.injEq] at e'
      subst e'
      obtain ⟨cs, hc⟩ := row_type HO1.out e
      rw [HD1.out] at hc
      simp at hc
    · simp only [Option.some.injEq] at e'
      subst e'
      exact HH.out.apart.2 e
    · intro e'
      rcases HA1.out with h | h
      · exact HH.out.ne g (h ▸ e) e'
      · have := lt_of_own HH.out.s e'
        rw [e] at h
        simp at h
        omega
  have HKW : Hid (Kept w (w1.setCell ⟨b, 0, none⟩ (.slice a1 (X.length + 1) c1)) b (.slice al X.length cl) wv) := by
    have h1 := (below_box w (.cells #[.slice a R.length cap] 27))
    refine ⟨hs2.os.trans (HG1.out.os.trans h1.os), hs2.tape.trans (HG1.out.tape.trans h1.tape), hs2.output.trans (HG1.out.output.trans h1.output), Nat.le_trans h1.size (Nat.le_trans HG1.out.size hs2.size), fun k hk kb kl _ => ?_⟩
    have k1 : k < (w.alloc (.cells #[.slice a R.length cap] 27)).heap.size := Nat.lt_of_lt_of_le hk h1.size
    exact (hs2.block k (Nat.lt_of_lt_of_le k1 HG1.out.size) (by simpa using kb)).trans ((HG1.out.block k k1 kl).trans (h1.block k hk))
  have HCW : Hid (BytesAt (w1.setCell ⟨b, 0, none⟩ (.slice a1 (X.length + 1) c1)) a R) :=
    cells_far (cells_far (HC.out.kept (below_box w _)) HG1.out (fun ad e => (HSEP.out ad e).2.1)) hs2 (fun ad e => by simpa using (HSEP.out ad e).1)
  have HLB : Hid ((Value.slice a1 (X.length + 1) c1).ownBlock = (Value.slice al X.length cl).ownBlock ∨ ∃ g, (Value.slice a1 (X.length + 1) c1).ownBlock = some g ∧ w.heap.size ≤ g) := by
    rcases HA1.out with h | h
    · exact .inl h
    · exact .inr ⟨_, h, by simp⟩
  clear hs1 hs2 HD1 HO1 HG1 HA1 hc1 hf1 hb0
  generalize w1.setCell ⟨b, 0, none⟩ (.slice a1 (X.length + 1) c1) = w2 at *
  obtain ⟨aw, cw, rfl⟩ := row_slice HBK.out.s
  refine wp_act fun F HF => ?_
  have F0 : Hid (F.tmps[0]? = some (.pointer (some ⟨b, 0, none⟩))) := by show _ = _; rw [HF.out]; rfl
  have F1 : Hid (F.tmps[1]? = some (.slice a R.length cap)) := by show _ = _; rw [HF.out]; rfl
  have FS : Hid (F.tmps.size = 25) := by show _ = _; rw [HF.out]; rfl
  have FD : Hid (F.defers = []) := by show _ = _; rw [HF.out]
  clear HF
  have hgn : ∀ {x y : World}, x.grownBy y none → x.grownBy y (Value.slice aw Y.length cw).ownBlock := fun h => ⟨h.os, h.tape, h.output, h.size, fun k hk _ => h.block k hk (by simp)⟩
  have hcell1 : ∀ wx : World, w2.grownBy wx (Value.slice aw Y.length cw).ownBlock → wx.cell? ⟨b, 1, none⟩ = some (.slice aw Y.length cw) := fun wx hg => by
    have h1 := (hg.block b (Array.getElem?_eq_some_iff.1 HBK.out.head).1 (fun e => HBK.out.apart.2 e.symm)).trans HBK.out.head
    rw [cell_of_row wx b _ _ _ _ h1]
    rfl
  have hlt : ∀ g, (Value.slice aw Y.length cw).ownBlock = some g → g < w2.heap.size := fun g e => lt_of_own HBK.out.s e
  refine wp_region_any (by kernel_rfl) ?_
  refine wpAny_last 11 rfl (by decide +kernel) (by decide +kernel) (fun l wx => w2.grownBy wx (Value.slice aw Y.length cw).ownBlock ∧ (l[8]? = some false → Below w2.heap.size w2 wx)) (KeepS w2.heap.size B b (.slice aw Y.length cw) (.slice a R.length cap) R Y) ⟨⟨rfl, rfl, rfl, Nat.le_refl _, fun _ _ _ => rfl⟩, fun _ => below_drawn (Below.refl _ _) _⟩ ?step ?last
  case last =>
    intro l af wx h hall
    obtain ⟨v11, hv11, s11⟩ := h.new 10 _ 24 (hall 10 (by decide)) rfl rfl
    obtain rfl : v11 = .pointer (some ⟨b, 1, none⟩) := s11
    obtain ⟨v9, hv9, s9⟩ := h.new 8 _ 22 (hall 8 (by decide)) rfl rfl
    obtain ⟨v7, ho7, ho9, hat9⟩ := s9
    obtain ⟨a9, c9, rfl⟩ := row_slice ho9
    have hd := (h.bel.1.block b (Array.getElem?_eq_some_iff.1 HBK.out.head).1 (fun e => HBK.out.apart.2 e.symm)).trans HBK.out.head
    obtain ⟨t1, t2⟩ := head_set1 (v := .slice a9 (Y.length + 1) c9) hd
    have hl2 : wx.ownsRow B 27 1 (Value.slice a1 (X.length + 1) c1) (X ++ [Value.slice a R.length cap]).length (X ++ [Value.slice a R.length cap]) := own_kept HBK.out.l h.bel.1 (fun g e e' => HBK.out.ne g e e')
    have hbb : ∀ {B' e size n v xs}, wx.ownsRow B' e size v n xs → e ≠ 33 → ∀ g, v.ownBlock = some g → some b ≠ some g := fun ho he g e e' => by
      simp only [Option.some.injEq] at e'
      subst e'
      obtain ⟨cs, hc⟩ := row_type ho e
      rw [hd] at hc
      simp at hc
      exact he hc.2.symm
    have hwb : w2.heap.size ≥ w.heap.size := HKW.out.size
    refine wpOp_of rfl rfl ?_
    refine step_store33 rfl (eval_tmp hv11) (eval_tmp hv9) (hcell1 wx h.bel.1) (frozen_of_row wx b 1 _ 33 hd) ?_
    refine bodyPost_end (results_none Try.results16 _ _ _) (h.defers.trans FD.out) ?_
    refine ⟨rfl, _, _, v7, ⟨t1, own_kept hl2 t2 (hbb hl2 (by decide)), ?_, ?_⟩, own_mono (own_kept ho7 t2 (hbb ho7 (by decide))) hwb, ?_, HLB.out, ?_⟩
    · rw [List.length_append]
      exact own_kept ho9 t2 (hbb ho9 (by decide))
    · intro g e e'
      rcases hat9 with h9 | ⟨g9, h9, h9'⟩
      · exact HBK.out.ne g e (h9 ▸ e')
      · have := lt_of_own HBK.out.l e
        rw [e'] at h9
        simp only [Option.some.injEq] at h9
        omega
    · have k := HKW.out
      have g1 := h.bel.1
      refine ⟨t2.os.trans (g1.os.trans k.os), t2.tape.trans (g1.tape.trans k.tape), t2.output.trans (g1.output.trans k.output), Nat.le_trans k.size (Nat.le_trans g1.size t2.size), fun j hj jb jl jw => ?_⟩
      have j2 := Nat.lt_of_lt_of_le hj k.size
      exact (t2.block j (Nat.lt_of_lt_of_le j2 g1.size) (by simpa using jb)).trans ((g1.block j j2 jw).trans (k.block j hj jb jl jw))
    · rcases hat9 with h9 | ⟨g9, h9, h9'⟩
      · exact .inl h9
      · exact .inr ⟨g9, h9, by omega⟩
  case step =>
    intro l af wx i h hi11 hf hm
    rcases (show i = 0 ∨ i = 1 ∨ i = 2 ∨ i = 3 ∨ i = 4 ∨ i = 5 ∨ i = 6 ∨ i = 7 ∨ i = 8 ∨ i = 9 ∨ i = 10 by omega) with rfl | rfl | rfl | rfl | rfl | rfl | rfl | rfl | rfl | rfl | rfl
    · -- 0
      refine wpOp_of rfl rfl ?_
      refine step_move rfl (h.oldv (t := 0) (by decide +kernel) F0.out) ?_
      exact h.step rfl rfl (by rw [FS.out]; decide) (by decide +kernel) rfl ⟨h.bel.1, fun e => h.bel.2 (by rwa [List.getElem?_set_ne (by decide)] at e)⟩ (fun _ _ _ q => q)
    · -- 1
      refine wpOp_of rfl rfl ?_
      refine step_move rfl (h.oldv (t := 0) (by decide +kernel) F0.out) ?_
      exact h.step rfl rfl (by rw [FS.out]; decide) (by decide +kernel) rfl ⟨h.bel.1, fun e => h.bel.2 (by rwa [List.getElem?_set_ne (by decide)] at e)⟩ (fun _ _ _ q => q)
    · -- 2
      refine wpOp_of rfl rfl ?_
      obtain ⟨v0, e0, s0⟩ := h.val hm rfl (j := 1) rfl rfl (by decide +kernel)
      obtain rfl : v0 = .pointer (some ⟨b, 0, none⟩) := s0
      refine step_nilc rfl e0 ?_
      exact h.step rfl rfl (by rw [FS.out]; decide) (by decide +kernel) rfl ⟨h.bel.1, fun e => h.bel.2 (by rwa [List.getElem?_set_ne (by decide)] at e)⟩ (fun _ _ _ q => q)
    · -- 3
      refine wpOp_of rfl rfl ?_
      obtain ⟨v0, e0, s0⟩ := h.val hm rfl (j := 2) rfl rfl (by decide +kernel)
      obtain rfl : v0 = .pointer (some ⟨b, 0, none⟩) := s0
      refine step_f351 rfl e0 ?_
      exact h.step rfl rfl (by rw [FS.out]; decide) (by decide +kernel) rfl ⟨h.bel.1, fun e => h.bel.2 (by rwa [List.getElem?_set_ne (by decide)] at e)⟩ (fun _ _ _ q => q)
    · -- 4
      refine wpOp_of rfl rfl ?_
      obtain ⟨v0, e0, s0⟩ := h.val hm rfl (j := 3) rfl rfl (by decide +kernel)
      obtain rfl : v0 = .pointer (some ⟨b, 1, none⟩) := s0
      refine step_load33 rfl e0 (hcell1 _ h.bel.1) ?_
      exact h.step rfl rfl (by rw [FS.out]; decide) (by decide +kernel) rfl ⟨h.bel.1, fun e => h.bel.2 (by rwa [List.getElem?_set_ne (by decide)] at e)⟩ (fun _ _ _ q => q)
    · -- 5
      refine wpOp_of rfl rfl ?_
      refine step_move rfl (h.oldv (t := 1) (by decide +kernel) F1.out) ?_
      exact h.step rfl rfl (by rw [FS.out]; decide) (by decide +kernel) rfl ⟨h.bel.1, fun e => h.bel.2 (by rwa [List.getElem?_set_ne (by decide)] at e)⟩ (fun _ _ _ q => q)
    · -- 6
      refine wpOp_of rfl rfl ?_
      obtain ⟨v0, e0, s0⟩ := h.val hm rfl (j := 5) rfl rfl (by decide +kernel)
      obtain rfl : v0 = .slice a R.length cap := s0
      refine step_copy (G := fun r w' => w'.ownsRow wx.heap.size 5 1 r R.length (bcells R) ∧ Below wx.heap.size wx w') rfl e0 (copy_any (cells_far HCW.out h.bel.1 (fun ad e => (HSEP.out ad e).2.2)) HRR.out HZR.out) ?_
      rintro r w' ⟨ho', hb'⟩
      exact h.step rfl rfl (by rw [FS.out]; decide) (by decide +kernel) (own_mono ho' h.bel.1.size) ⟨h.bel.1.trans (hgn (below_grown hb')), fun e => (h.bel.2 (by rwa [List.getElem?_set_ne (by decide)] at e)).trans (hb'.mono h.bel.1.size)⟩ (fun j v _ q => KeepS.kept hb' j v q)
    · -- 7
      refine wpOp_of rfl rfl ?_
      obtain ⟨v0, e0, s0⟩ := h.val hm rfl (j := 6) rfl rfl (by decide +kernel)
      have s0 : wx.ownsRow w2.heap.size 5 1 v0 R.length (bcells R) := s0
      obtain ⟨a7, c7, rfl⟩ := row_slice s0
      have hb' := below_box wx (.cells #[.slice a7 R.length c7] 27)
      refine step_build33 rfl e0 ?_
      exact h.step rfl rfl (by rw [FS.out]; decide) (by decide +kernel) ⟨wx.heap.size, .slice a7 R.length c7, rfl, h.bel.1.size, box_cell wx 27 _ 0 _ rfl, own_below s0 hb'⟩ ⟨h.bel.1.trans (hgn (below_grown hb')), fun e => (h.bel.2 (by rwa [List.getElem?_set_ne (by decide)] at e)).trans (hb'.mono h.bel.1.size)⟩ (fun j v _ q => KeepS.kept hb' j v q)
    · -- 8
      refine wpOp_of rfl rfl ?_
      obtain ⟨v0, e0, s0⟩ := h.val hm rfl (j := 4) rfl rfl (by decide +kernel)
      obtain rfl : v0 = .slice aw Y.length cw := s0
      obtain ⟨v1, e1, s1⟩ := h.val hm rfl (j := 7) rfl rfl (by decide +kernel)
      obtain ⟨g8, v7, rfl, hg8, hc8, ho8⟩ := s1
      have hY := own_below HBK.out.s (h.bel.2 hf)
      obtain ⟨v', w', hr', ho', hg', _, hat'⟩ := run_append_own_at (P := Try.prog) wx B 31 31 27 i0 (.slice none 0 0) 1 24 Try.underlying31 hi hz0 hz1 hz2 rfl (by decide) (.slice aw Y.length cw) Y.length Y hY ⟨g8, 0, none⟩ 1 1 [v7] rfl (fun j u hj => by
        match j, hj with
        | 0, hj => simp at hj; subst hj; rw [Addr.add_lit]; exact hc8) (by obtain ⟨a7, c7, rfl⟩ := row_slice ho8; simp [Value.oneCell']) (by unfold maxLen; omega) HYY.out (by have := h.bel.1.size; have := HKW.out.size; omega)
      refine step_app rfl e0 e1 hr' ?_
      exact h.step rfl rfl (by rw [FS.out]; decide) (by decide +kernel) ⟨v7, own_kept ho8 hg' (fun g e e' => by have := own_ge ho8 e; have := hlt g e'; omega), ho', hat'.imp id (fun e => ⟨_, e, h.bel.1.size⟩)⟩ ⟨h.bel.1.trans hg', fun e => by rw [List.getElem?_set_self (by have := (List.getElem?_eq_some_iff.1 hf).1; exact this)] at e; cases e⟩ (fun j v hj q => KeepS.grown hg' hlt j v hj q)
    · -- 9
      refine wpOp_of rfl rfl ?_
      obtain ⟨v0, e0, s0⟩ := h.val hm rfl (j := 0) rfl rfl (by decide +kernel)
      obtain rfl : v0 = .pointer (some ⟨b, 0, none⟩) := s0
      refine step_nilc rfl e0 ?_
      exact h.step rfl rfl (by rw [FS.out]; decide) (by decide +kernel) rfl ⟨h.bel.1, fun e => h.bel.2 (by rwa [List.getElem?_set_ne (by decide)] at e)⟩ (fun _ _ _ q => q)
    · -- 10
      refine wpOp_of rfl rfl ?_
      obtain ⟨v0, e0, s0⟩ := h.val hm rfl (j := 9) rfl rfl (by decide +kernel)
      obtain rfl : v0 = .pointer (some ⟨b, 0, none⟩) := s0
      refine step_f351 rfl e0 ?_
      exact h.step rfl rfl (by rw [FS.out]; decide) (by decide +kernel) rfl ⟨h.bel.1, fun e => h.bel.2 (by rwa [List.getElem?_set_ne (by decide)] at e)⟩ (fun _ _ _ q => q)
end Go.Proofs.Ytkhogbnoincbeab.Tx
namespace Go.Proofs.Ytkhogbnoincbeab.Tx
open Go.RowKit Go.Maps Go.Sort
set_option maxRecDepth 100000

/-- Rows of one type stay. -/
def Stay (t : TypeId) (w w' : World) : Prop := ∀ (k : Nat) (cs : Array Value), w.heap[k]? = some (.cells cs t (0, 0)) → w'.heap[k]? = some (.cells cs t (0, 0))
theorem own_stay {w w' : World} {B : Nat} {e : TypeId} {size n : Nat} {v : Value} {xs : List Value} (h : w.ownsRow B e size v n xs) (hs : Stay e w w') : w'.ownsRow B e size v n xs := by
  refine ⟨h.1, h.2.imp id ?_⟩
  rintro ⟨g, cap, cur, h1, h2, h3, h4⟩
  exact ⟨g, cap, cur, h1, h2, hs g cur h3, h4⟩
theorem stay_below {t : TypeId} {w w' : World} (hb : Below w.heap.size w w') : Stay t w w' := fun k _ h => (hb.block k (Array.getElem?_eq_some_iff.1 h).1).trans h
theorem stay_kept {B : Nat} {w w' : World} {b : Nat} {lv wv : Value} {X Y : List Value} (H : Book B w b lv wv X Y) (h : Kept w w' b lv wv) {t : TypeId} (h1 : t ≠ 33) (h2 : t ≠ 27) : Stay t w w' := fun k cs hk => by
  refine (h.block k (Array.getElem?_eq_some_iff.1 hk).1 (fun e => ?_) (fun e => ?_) (fun e => ?_)).trans hk
  · subst e
    rw [H.head] at hk
    simp at hk
    exact h1 hk.2.symm
  · obtain ⟨cs', hc⟩ := row_type H.l e.symm
    rw [hk] at hc
    simp at hc
    exact h2 hc.2
  · obtain ⟨cs', hc⟩ := row_type H.s e.symm
    rw [hk] at hc
    simp at hc
    exact h2 hc.2
theorem below_kept {B : Nat} {w w' : World} {b : Nat} {lv wv : Value} {X Y : List Value} (H : Book B w b lv wv X Y) (h : Kept w w' b lv wv) (hb : B ≤ b) (hB : B ≤ w.heap.size) : Below B w w' :=
  ⟨h.os, h.tape, h.output, h.size, fun k hk => h.block k (by omega) (by omega) (fun e => by have := own_ge H.l e.symm; omega) (fun e => by have := own_ge H.s e.symm; omega)⟩
/-- A book with its texts, each in a row of its own, and what they were. -/
structure TB (B b : Nat) (m : Nat) (w : World) (X : List Value) : Prop where
  ex : ∃ lv wv Y C, Book B w b lv wv X Y ∧ Y.length = X.length ∧ LA B w X C ∧ (∀ i (h : i < Y.length), w.ownsRow B 5 1 Y[i] (C i).length (bcells (C i))) ∧ ∀ j, j < X.length → (C j).length ≤ m
  le : B ≤ w.heap.size
  bb : B ≤ b
theorem TB.stay {B b m : Nat} {w w' : World} {X : List Value} (h : TB B b m w X) (h5 : Stay 5 w w') (h25 : Stay 27 w w') (h50 : Stay 33 w w') (hs : w.heap.size ≤ w'.heap.size) : TB B b m w' X := by
  obtain ⟨lv, wv, Y, C, k1, k2, k3, k4, k5⟩ := h.ex
  exact ⟨⟨lv, wv, Y, C, ⟨h50 b _ k1.head, own_stay k1.l h25, own_stay k1.s h25, k1.ne⟩, k2, ⟨fun j hj => own_stay (k3.row j hj) h5, k3.apart⟩, fun i hi => own_stay (k4 i hi) h5, k5⟩, Nat.le_trans h.le hs, h.bb⟩
theorem TB.below {B b m : Nat} {w w' : World} {X : List Value} (h : TB B b m w X) (hb : Below w.heap.size w w') : TB B b m w' X := h.stay (stay_below hb) (stay_below hb) (stay_below hb) hb.size
theorem TB.lt {B b m : Nat} {w : World} {X : List Value} (h : TB B b m w X) {j : Nat} (hj : j < X.length) {g : Nat} (e : X[j].ownBlock = some g) : g < w.heap.size := by
  obtain ⟨lv, wv, Y, C, k1, k2, k3, k4, k5⟩ := h.ex
  exact own_lt (k3.row j hj) e
/-- A new book. -/
theorem TB.new {B m : Nat} (w : World) (hB : B ≤ w.heap.size) : TB B w.heap.size m (w.alloc (.cells #[.slice none 0 0, .slice none 0 0] 33)) [] :=
  ⟨⟨.slice none 0 0, .slice none 0 0, [], fun _ => [], ⟨heap_alloc_new w _, ⟨rfl, .inl ⟨rfl, rfl⟩⟩, ⟨rfl, .inl ⟨rfl, rfl⟩⟩, fun g e => by simp [Value.ownBlock] at e⟩, rfl, ⟨fun j hj => by simp at hj, fun i j hi => by simp at hi⟩, fun i hi => by simp at hi, fun j hj => by simp at hj⟩, by simp; omega, hB⟩
/-- One text more. -/
theorem TB.keep {B b m : Nat} {wx : World} {X : List Value} (hx : TB B b m wx X) {v : Value} {bs : List (BitVec 8)} (ov : wx.ownsRow B 5 1 v bs.length (bcells bs)) (hap : ∀ j (hj : j < X.length) g, X[j].ownBlock = some g → v.ownBlock ≠ some g) (hm : bs.length ≤ m) (hmm : m ≤ 140737488355200) (hX : X.length ≤ 1000000000000) :
    Calls Try.prog 16 #[.pointer (some ⟨b, 0, none⟩), v] wx fun e w' => e = .returned (.tuple #[]) ∧ TB B b m w' (X ++ [v]) ∧ (∀ t, t ≠ 33 → t ≠ 27 → Stay t wx w') ∧ Below B wx w' := by
  obtain ⟨lv, wv, Y, C, k1, k2, k3, k4, k5⟩ := hx.ex
  obtain ⟨a, cap, rfl, hC⟩ := own_cells ov
  have hz : a = none → cap = 0 := fun e => by
    rcases ov.2 with ⟨e', _⟩ | ⟨g, cap', cur, e', _⟩
    · simp only [Value.slice.injEq] at e'; exact e'.2.2
    · simp only [Value.slice.injEq] at e'; rw [e] at e'; cases e'.1
  have hty : ∀ ad, a = some ad → ∃ cs, wx.heap[ad.block]? = some (.cells cs 5 (0, 0)) := fun ad e => by
    rcases ov.2 with ⟨e', _⟩ | ⟨g, cap', cur, e', _, hg, _⟩
    · simp only [Value.slice.injEq] at e'; rw [e] at e'; cases e'.1
    · simp only [Value.slice.injEq] at e'
      rw [e] at e'
      simp only [Option.some.injEq] at e'
      rw [e'.1]
      exact ⟨_, hg⟩
  refine (keep_any k1 hx.le hC (fun ad e => ?_) (by omega) (by omega) (by omega) hz).mono ?_
  · obtain ⟨cs, hc⟩ := hty ad e
    refine ⟨fun e' => ?_, fun e' => ?_, fun e' => ?_⟩
    · rw [e', k1.head] at hc
      simp at hc
    · obtain ⟨cs', hc'⟩ := row_type k1.l e'.symm
      rw [hc] at hc'
      simp at hc'
    · obtain ⟨cs', hc'⟩ := row_type k1.s e'.symm
      rw [hc] at hc'
      simp at hc'
  · rintro e w' ⟨rfl, lv', wv', u', hB', hu', hK, _, _⟩
    have hst : ∀ t, t ≠ 33 → t ≠ 27 → Stay t wx w' := fun t h1 h2 => stay_kept k1 hK h1 h2
    have h5 := hst 5 (by decide) (by decide)
    have hbel := below_kept k1 hK hx.bb hx.le
    refine ⟨rfl, ⟨⟨lv', wv', Y ++ [u'], fun j => if j < X.length then C j else bs, hB', by simp [k2], ⟨fun j hj => ?_, fun i j hi hj hij x hx' => ?_⟩, fun i hi => ?_, fun j hj => ?_⟩, Nat.le_trans hx.le hbel.size, hx.bb⟩, hst, hbel⟩
    · by_cases e : j < X.length
      · rw [if_pos e, List.getElem_append_left e]
        exact own_stay (k3.row j e) h5
      · have e' : j = X.length := by simp at hj; omega
        subst e'
        rw [if_neg (by omega), List.getElem_concat_length rfl]
        exact own_stay ov h5
    · by_cases ei : i < X.length
      · rw [List.getElem_append_left ei] at hx'
        by_cases ej : j < X.length
        · rw [List.getElem_append_left ej]
          exact k3.apart i j ei ej hij x hx'
        · have e' : j = X.length := by simp at hj; omega
          subst e'
          rw [List.getElem_concat_length rfl]
          exact hap i ei x hx'
      · have e' : i = X.length := by simp at hi; omega
        subst e'
        rw [List.getElem_concat_length rfl] at hx'
        have ej : j < X.length := by simp at hj; omega
        rw [List.getElem_append_left ej]
        intro e2
        exact hap j ej x e2 hx'
    · by_cases e : i < Y.length
      · rw [List.getElem_append_left e]
        show w'.ownsRow B 5 1 _ (if i < X.length then C i else bs).length (bcells (if i < X.length then C i else bs))
        rw [if_pos (by omega)]
        exact own_stay (k4 i e) h5
      · have e' : i = Y.length := by simp at hi; omega
        subst e'
        rw [List.getElem_concat_length rfl]
        show w'.ownsRow B 5 1 _ (if Y.length < X.length then C Y.length else bs).length (bcells (if Y.length < X.length then C Y.length else bs))
        rw [if_neg (by omega)]
        exact own_mono hu' hx.le
    · by_cases e : j < X.length
      · simp only [if_pos e]; exact k5 j e
      · simp only [if_neg e]; exact hm
/-- All is still what it was, and each has a row of its own. -/
theorem TB.good {B b m : Nat} {w : World} {X : List Value} (h : TB B b m w X) (hmm : m ≤ 140737488355200) (hX : X.length ≤ 1000000000000) :
    Calls Try.prog 17 #[.pointer (some ⟨b, 0, none⟩)] w fun e w' => e = .returned (.bool true) ∧ (∀ t, t ≠ 5 → Stay t w w') ∧ Below B w w' := by
  obtain ⟨lv, wv, Y, C, k1, k2, k3, k4, k5⟩ := h.ex
  refine (good_any k1 k2 k3 (fun i hi => ?_) hX h.le (fun j hj => Nat.le_trans (k5 j hj) hmm)).mono ?_
  · have hi' : i < Y.length := by omega
    obtain ⟨a, c, e, hC⟩ := own_cells (k4 i hi')
    exact ⟨a, c, by rw [List.getElem?_eq_getElem hi', e], hC⟩
  · rintro e w' ⟨rfl, hG⟩
    refine ⟨rfl, fun t ht k cs hk => hG.far k3 hk ht, hG.os, hG.tape, hG.output, hG.size, fun k hk => hG.block k (Nat.lt_of_lt_of_le hk h.le) (fun v hv e => ?_)⟩
    obtain ⟨i, hi, rfl⟩ := List.getElem_of_mem hv
    have := own_ge (k3.row i hi) e
    omega
end Go.Proofs.Ytkhogbnoincbeab.Tx
