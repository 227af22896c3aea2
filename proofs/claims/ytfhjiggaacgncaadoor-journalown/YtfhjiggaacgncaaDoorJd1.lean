import Derived.Test.YtfhjiggaacgncaaDoorJd0
namespace Go.Proofs.YtfhjiggaacgncaaDoor
open Go.RowKit Go.Maps Go.Sort
set_option maxRecDepth 100000

/-- A write: its place, its bytes and where they lie. -/
structure Wr where
  at_ : Nat
  v : Value
  bs : List (BitVec 8)
def wcells (x : Wr) : List Value := [.int .i64 x.at_, x.v]
def flatW (W : List Wr) : List Value := W.flatMap wcells
theorem flatW_len : ∀ W : List Wr, (flatW W).length = W.length * 2
  | [] => rfl
  | x :: r => by rw [flatW, List.flatMap_cons, List.length_append, show (List.flatMap wcells r).length = _ from flatW_len r]; simp [wcells]; omega
theorem flatW_app (A B : List Wr) : flatW (A ++ B) = flatW A ++ flatW B := by simp [flatW]
theorem flatW_at : ∀ (W : List Wr) (i j : Nat) (h : i < W.length), j < 2 → (flatW W)[i * 2 + j]? = (wcells W[i])[j]?
  | x :: r, 0, j, _, hj => by
    rw [flatW, List.flatMap_cons, List.getElem?_append_left (by simp [wcells]; omega)]
    simp
  | x :: r, i + 1, j, h, hj => by
    rw [flatW, List.flatMap_cons, List.getElem?_append_right (by simp [wcells]; omega)]
    have := flatW_at r i j (by simpa using h) hj
    rw [show (i + 1) * 2 + j - (wcells x).length = i * 2 + j by simp [wcells]; omega]
    simpa [flatW] using this
/-- A disk: where its bytes lie, what is safe, what was written last, what waits. -/
structure Dk where
  gs : Nat
  cs : Nat
  gn : Nat
  cn : Nat
  wv : Value
  S : List (BitVec 8)
  N : List (BitVec 8)
  W : List Wr
  lives : Int
def Dk.sv (D : Dk) : Value := .slice (some ⟨D.gs, 0, none⟩) D.S.length D.cs
def Dk.nv (D : Dk) : Value := .slice (some ⟨D.gn, 0, none⟩) D.N.length D.cn
structure DkAt (w : World) (p : Nat) (D : Dk) : Prop where
  row : Row w p [D.sv, D.nv, D.wv, .int .i64 D.lives] 78
  safe : OwnBy w 0 D.sv D.S
  now : OwnBy w 0 D.nv D.N
  wait : w.ownsRow 0 92 2 D.wv D.W.length (flatW D.W)
  by_ : ∀ x ∈ D.W, OwnBy w 0 x.v x.bs
  ap : ∀ x ∈ D.W, x.v.ownBlock ≠ some D.gs ∧ x.v.ownBlock ≠ some D.gn
  sn : D.gs ≠ D.gn
structure Dk.Ok (D : Dk) : Prop where
  len : D.N.length = D.S.length
  s1 : 1 ≤ D.S.length
  s2 : D.S.length ≤ 16777216
  fit : ∀ x ∈ D.W, x.at_ + x.bs.length ≤ D.S.length
/-- Its memory. -/
def Dk.Mem (D : Dk) (p k : Nat) : Prop := k = p ∨ k = D.gs ∨ k = D.gn ∨ D.wv.ownBlock = some k ∨ ∃ x ∈ D.W, x.v.ownBlock = some k
theorem cells_type {w : World} {g : Nat} {c c' : Array Value} {t t' : TypeId} {f f' : Nat × Nat} (h : w.heap[g]? = some (.cells c t f)) (h' : w.heap[g]? = some (.cells c' t' f')) : t = t' := by
  rw [h] at h'
  injection h' with h'
  injection h' with _ h'
theorem own_blk {w : World} {base : Nat} {t : TypeId} {sz : Nat} {v : Value} {n : Nat} {xs : List Value} (h : w.ownsRow base t sz v n xs) {g : Nat} (e : v.ownBlock = some g) : ∃ cur, w.heap[g]? = some (.cells cur t (0, 0)) := by
  rcases h.2 with ⟨rfl, _⟩ | ⟨g', cap, cur, rfl, _, hg, _⟩
  · simp [Value.ownBlock] at e
  · simp only [Value.ownBlock, Option.some.injEq] at e
    subst e
    exact ⟨cur, hg⟩
section
variable {w w' : World} {p : Nat} {D : Dk}
theorem DkAt.lt (h : DkAt w p D) {k : Nat} (hk : D.Mem p k) : k < w.heap.size := by
  rcases hk with rfl | rfl | rfl | e | ⟨x, hx, e⟩
  · exact h.row.lt
  · exact own_lt h.safe rfl
  · exact own_lt h.now rfl
  · exact own_lt h.wait e
  · exact own_lt (h.by_ x hx) e
theorem DkAt.fr {X : Nat → Prop} (h : DkAt w p D) (hf : Fr X w w') (hX : ∀ k, D.Mem p k → ¬ X k) : DkAt w' p D :=
  ⟨hf.row h.row (hX p (.inl rfl)), hf.own h.safe (fun x e => hX x (.inr (.inl (by simpa [Dk.sv, Value.ownBlock] using e.symm)))), hf.own h.now (fun x e => hX x (.inr (.inr (.inl (by simpa [Dk.nv, Value.ownBlock] using e.symm))))),
    hf.own h.wait (fun x e => hX x (.inr (.inr (.inr (.inl e))))), fun x hx => hf.own (h.by_ x hx) (fun g e => hX g (.inr (.inr (.inr (.inr ⟨x, hx, e⟩))))), h.ap, h.sn⟩
theorem DkAt.kept (h : DkAt w p D) (hb : Below w.heap.size w w') : DkAt w' p D := h.fr (X := fun _ => False) (Fr.of_below hb (Nat.le_refl _)) (fun _ _ e => e)
theorem DkAt.ps (h : DkAt w p D) : p ≠ D.gs := fun e => by
  obtain ⟨cur, hg⟩ := own_blk h.safe (g := D.gs) rfl
  exact absurd (cells_type h.row.at_ (e ▸ hg)) (by decide)
theorem DkAt.pn (h : DkAt w p D) : p ≠ D.gn := fun e => by
  obtain ⟨cur, hg⟩ := own_blk h.now (g := D.gn) rfl
  exact absurd (cells_type h.row.at_ (e ▸ hg)) (by decide)
theorem DkAt.pw (h : DkAt w p D) : D.wv.ownBlock ≠ some p := fun e => by
  obtain ⟨cur, hg⟩ := own_blk h.wait e
  exact absurd (cells_type h.row.at_ hg) (by decide)
theorem DkAt.sw (h : DkAt w p D) : D.wv.ownBlock ≠ some D.gs := fun e => by
  obtain ⟨cur, hg⟩ := own_blk h.wait e
  obtain ⟨cur', hg'⟩ := own_blk h.safe (g := D.gs) rfl
  exact absurd (cells_type hg hg') (by decide)
theorem DkAt.nw (h : DkAt w p D) : D.wv.ownBlock ≠ some D.gn := fun e => by
  obtain ⟨cur, hg⟩ := own_blk h.wait e
  obtain ⟨cur', hg'⟩ := own_blk h.now (g := D.gn) rfl
  exact absurd (cells_type hg hg') (by decide)
theorem DkAt.px (h : DkAt w p D) {x : Wr} (hx : x ∈ D.W) : x.v.ownBlock ≠ some p := fun e => by
  obtain ⟨cur, hg⟩ := own_blk (h.by_ x hx) e
  exact absurd (cells_type h.row.at_ hg) (by decide)
theorem DkAt.wx (h : DkAt w p D) {x : Wr} (hx : x ∈ D.W) {g : Nat} (e : D.wv.ownBlock = some g) : x.v.ownBlock ≠ some g := fun e' => by
  obtain ⟨cur, hg⟩ := own_blk (h.by_ x hx) e'
  obtain ⟨cur', hg'⟩ := own_blk h.wait e
  exact absurd (cells_type hg hg') (by decide)
end
theorem own_made (w : World) (n : Nat) (hn : n ≤ 140737488355328) (base : Nat) (hb : base ≤ w.heap.size) : OwnBy (w.alloc (.cells (bcells (z n)).toArray 5)) base (.slice (some ⟨w.heap.size, 0, none⟩) n n) (z n) := by
  refine ⟨by simp [bcells_len], .inr ⟨w.heap.size, n, (bcells (z n)).toArray, by rw [z_len], hb, heap_alloc_last w _, by rw [z_len]; exact Nat.le_refl _, by unfold maxLen; omega, by simp [bcells_len, z_len], ?_⟩⟩
  rw [z_len, Nat.mul_one]
  exact List.take_of_length_le (by simp [bcells_len, z_len])
theorem build78 (w : World) (a b : Option Addr) (n m c d : Nat) : (Instr.build 78 #[(0, .slice a n c), (1, .slice b m d)]).run Tryd.prog w = .ok (.agg #[.slice a n c, .slice b m d, .slice none 0 0, .int .i64 0]) w := by kernel_rfl
/-- What a new disk is. -/
def NewDk (w : World) (n : Nat) (e : Ending) (w' : World) : Prop := ∃ p D, e = .returned (.tuple #[pt p 0, .int .i64 0]) ∧ DkAt w' p D ∧ Below w.heap.size w w' ∧ (∀ k, D.Mem p k → w.heap.size ≤ k) ∧ D.S = z n ∧ D.N = z n ∧ D.W = [] ∧ D.lives = 0
theorem newDk_of {w w' : World} {n g1 g2 p : Nat} (R : Row w' p [.slice (some ⟨g1, 0, none⟩) n n, .slice (some ⟨g2, 0, none⟩) n n, .slice none 0 0, .int .i64 0] 78) (h1 : OwnBy w' 0 (.slice (some ⟨g1, 0, none⟩) n n) (z n)) (h2 : OwnBy w' 0 (.slice (some ⟨g2, 0, none⟩) n n) (z n))
    (hne : g1 ≠ g2) (hb : Below w.heap.size w w') (k1 : w.heap.size ≤ g1) (k2 : w.heap.size ≤ g2) (kp : w.heap.size ≤ p) : NewDk w n (.returned (.tuple #[pt p 0, .int .i64 0])) w' := by
  refine ⟨p, ⟨g1, n, g2, n, .slice none 0 0, z n, z n, [], 0⟩, rfl, ⟨?_, ?_, ?_, ⟨rfl, .inl ⟨rfl, rfl⟩⟩, fun x hx => (by cases hx), fun x hx => (by cases hx), hne⟩, hb, ?_, rfl, rfl, rfl, rfl⟩
  · simpa [Dk.sv, Dk.nv, z_len] using R
  · simpa [Dk.sv, z_len] using h1
  · simpa [Dk.nv, z_len] using h2
  · rintro k (rfl | rfl | rfl | e | ⟨x, hx, _⟩)
    · exact kp
    · exact k1
    · exact k2
    · simp [Value.ownBlock] at e
    · cases hx
set_option maxHeartbeats 1000000 in
theorem newDisk_ok (w : World) (n : Nat) (h1 : 1 ≤ n) (h2 : n ≤ 16777216) : Calls Tryd.prog 8 #[.int .i64 (n : Int)] w (NewDk w n) := by
  have hM := maybe_any w (n : Int)
  rw [decide_eq_true ⟨by omega, by omega⟩] at hM
  have HM := hid hM
  have hm : ∀ w : World, (Instr.makeSlice 30 (.int .i64 (n : Int)) (.int .i64 (n : Int))).run Tryd.prog w = .ok (.slice (some ⟨w.heap.size, 0, none⟩) n n) (w.alloc (.cells (bcells (z n)).toArray 5)) := fun w => make_run w n (by omega)
  have hbd := build78
  have HO : Hid (∀ w : World, OwnBy (w.alloc (.cells (bcells (z n)).toArray 5)) 0 (.slice (some ⟨w.heap.size, 0, none⟩) n n) (z n)) := fun w => own_made w n (by omega) 0 (Nat.zero_le _)
  generalize (bcells (z n)).toArray = arr at *
  clear hM h1 h2
  go_enter Tryd.func8, Tryd.ntmps8
  go_upto_region 3 with (go_at_call 33; refine HM.out.mono ?_; rintro e w1 ⟨rfl, rfl⟩)
  go_region
  all_goals go_wp2
  all_goals go_ret2
  all_goals have hs1 : (w1.alloc (.cells arr 5)).heap.size = w1.heap.size + 1 := by simp
  all_goals have hs2 : ((w1.alloc (.cells arr 5)).alloc (.cells arr 5)).heap.size = w1.heap.size + 1 + 1 := by simp
  all_goals have b1 := below_new w1 (.cells arr 5)
  all_goals have b2 := below_new (w1.alloc (.cells arr 5)) (.cells arr 5)
  all_goals have o1 := HO.out w1
  all_goals have o2 := HO.out (w1.alloc (.cells arr 5))
  all_goals rw [hs1] at o2
  · have b3 := below_new ((w1.alloc (.cells arr 5)).alloc (.cells arr 5)) (.cells #[.slice (some ⟨w1.heap.size, 0, none⟩) n n, .slice (some ⟨w1.heap.size + 1, 0, none⟩) n n, .slice none 0 0, .int .i64 0] 78)
    refine newDk_of (p := w1.heap.size + 1 + 1) (g1 := w1.heap.size) (g2 := w1.heap.size + 1) ?_ ?_ ?_ (by omega) ?_ (by omega) (by omega) (by omega)
    · exact (Row.new' _ _ _ 78 _ hs2.symm rfl).drew 1
    · exact own_below o1 (below_drewN (below_two b2 b3 (by omega)) 1)
    · exact own_below o2 (below_drewN b3 1)
    · exact below_drewN (below_two (below_two b1 b2 (by omega)) b3 (by omega)) 1
  · have b3 := below_new ((w1.alloc (.cells arr 5)).alloc (.cells arr 5)) (.cells #[.slice (some ⟨w1.heap.size + 1, 0, none⟩) n n, .slice (some ⟨w1.heap.size, 0, none⟩) n n, .slice none 0 0, .int .i64 0] 78)
    refine newDk_of (p := w1.heap.size + 1 + 1) (g1 := w1.heap.size + 1) (g2 := w1.heap.size) ?_ ?_ ?_ (by omega) ?_ (by omega) (by omega) (by omega)
    · exact (Row.new' _ _ _ 78 _ hs2.symm rfl).drew 1
    · exact own_below o2 (below_drewN b3 1)
    · exact own_below o1 (below_drewN (below_two b2 b3 (by omega)) 1)
    · exact below_drewN (below_two (below_two b1 b2 (by omega)) b3 (by omega)) 1
theorem newDisk_no (w : World) (n : Int) (h : ¬ (1 ≤ n ∧ n ≤ 16777216)) : Calls Tryd.prog 8 #[.int .i64 n] w fun e w' => e = .returned (.tuple #[.pointer none, .int .i64 210]) ∧ w' = w := by
  have hM := maybe_any w n
  rw [decide_eq_false h] at hM
  have HM := hid hM
  clear hM h
  go_enter Tryd.func8, Tryd.ntmps8
  go_wp2_with (go_at_call 33; refine HM.out.mono ?_; rintro e w1 ⟨rfl, rfl⟩)
  go_ret2
  exact ⟨rfl, rfl⟩
section
variable {w : World} {p : Nat} {D : Dk}
theorem size_any (h : DkAt w p D) : Calls Tryd.prog 10 #[pt p 0] w fun e w' => e = .returned (.int .i64 D.N.length) ∧ w' = w := by
  have c := h.row.cell 1 _ rfl
  clear h
  unfold Dk.nv at c
  go_enter Tryd.func10, Tryd.ntmps10
  go_wp2
  go_ret
  exact ⟨rfl, rfl⟩
theorem own_len {w : World} {base : Nat} {t : TypeId} {sz : Nat} {v : Value} {n : Nat} {xs : List Value} (h : w.ownsRow base t sz v n xs) : ∃ a cap, v = .slice a n cap ∧ n ≤ cap ∧ cap ≤ maxLen ∧ (a = none → cap = 0) := by
  rcases h.2 with ⟨rfl, rfl⟩ | ⟨g', cap, cur, rfl, _, hg, h1, h2, _⟩
  · exact ⟨none, 0, rfl, Nat.le_refl _, Nat.zero_le _, fun _ => rfl⟩
  · exact ⟨_, cap, rfl, h1, h2, fun e => (by cases e)⟩
theorem pending_any (h : DkAt w p D) : Calls Tryd.prog 11 #[pt p 0] w fun e w' => e = .returned (.int .i64 D.W.length) ∧ w' = w := by
  have c := h.row.cell 2 _ rfl
  obtain ⟨a, cap, e, _, _, _⟩ := own_len h.wait
  rw [e] at c
  clear h e
  go_enter Tryd.func11, Tryd.ntmps11
  go_wp2
  go_ret
  exact ⟨rfl, rfl⟩
theorem image_any (h : DkAt w p D) (hn : D.S.length ≤ 16777216) : Calls Tryd.prog 12 #[pt p 0] w fun e w' => ∃ v, e = .returned v ∧ OwnBy w' w.heap.size v D.S ∧ Below w.heap.size w w' := by
  have c := h.row.cell 0 _ rfl
  obtain ⟨a, cap, e, hB, _⟩ := ownBy_shape h.safe
  rw [e] at c
  have HC := hid (clone_any (cap := cap) hB rfl (by omega))
  clear h e hB
  go_enter Tryd.func12, Tryd.ntmps12
  go_wp2_with (go_at_call 35; refine HC.out.mono ?_; rintro e w1 ⟨v, rfl, hO, hb⟩; have HX := hid (And.intro hO hb); clear hO hb)
  go_ret
  exact ⟨_, rfl, HX.out.1, HX.out.2⟩
theorem open_nil (w : World) : Calls Tryd.prog 9 #[.pointer none] w fun e w' => e = .returned (.tuple #[.pointer none, .int .i64 210]) ∧ w' = w := by
  go_enter Tryd.func9, Tryd.ntmps9
  go_wp2
  go_ret2
  exact ⟨rfl, rfl⟩
end
end Go.Proofs.YtfhjiggaacgncaaDoor
