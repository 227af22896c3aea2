import Derived.Test.YtjeokomocopjhaaRf1
import Derived.Test.YtjeokomocopjhaaRegL
namespace Go.Proofs.Ytjeokomocopjhaa
open Go.RowKit Go.Maps
set_option maxRecDepth 100000

/-- The cells of one stream in the list. -/
theorem lst_at {w : World} {g cap n : Nat} {A B : List Sm} {x : Sm} (h : w.ownsRow 0 71 6 (.slice (some ⟨g, 0, none⟩) n cap) (A ++ x :: B).length (flatS (A ++ x :: B))) : (∀ j u, x.cells[j]? = some u → w.cell? ⟨g, A.length * 6 + j, none⟩ = some u) ∧ (∀ j, w.frozen? ⟨g, j, none⟩ = false) ∧ n = (A ++ x :: B).length ∧ n ≤ cap := by
  rcases lst_shape h with ⟨e, _⟩ | ⟨g', cap', e, hlc, _, _, hc, hf⟩
  · cases e
  · cases e
    refine ⟨fun j u hu => hc _ _ ?_, hf, rfl, hlc⟩
    have hj : j < 6 := (List.getElem?_eq_some_iff.1 hu).1
    rw [flatS_at hj]
    exact hu
theorem lst_some {w : World} {v : Value} {A B : List Sm} {x : Sm} (h : w.ownsRow 0 71 6 v (A ++ x :: B).length (flatS (A ++ x :: B))) : ∃ g cap, v = .slice (some ⟨g, 0, none⟩) (A ++ x :: B).length cap := by
  rcases lst_shape h with ⟨_, e⟩ | ⟨g, cap, e, _⟩
  · simp at e
  · exact ⟨g, cap, e⟩
set_option maxHeartbeats 2000000 in
theorem rmore_none {w : World} {r : Nat} {vL : Value} {V : Nat → Value} {q : Int} {l : List Sm} {R : Nat → List Int} (h : RfAt w r vL V q l R) {id : Int} (n : Int) (hA : ∀ a ∈ l, a.num ≠ id) (hl : l.length ≤ 2048) :
    Calls Try.prog 29 #[pt r 0, .int .u64 id, .int .i64 n] w fun e w' => e = .returned (.int .i64 190) ∧ w' = w := by
  have hP := place_miss h hA hl
  clear h hA hl
  go_enter Try.func29, Try.ntmps29
  go_wp2_with (go_at_call 36; refine hP.mono ?_; rintro e w' ⟨rfl, rfl⟩)
  go_ret
  exact ⟨rfl, rfl⟩
set_option maxHeartbeats 2000000 in
theorem rmore_no {w : World} {r : Nat} {vL : Value} {V : Nat → Value} {q : Int} {A B : List Sm} {x : Sm} {R : Nat → List Int} (h : RfAt w r vL V q (A ++ x :: B) R) {n : Int} (hA : ∀ a ∈ A, a.num ≠ x.num) (hl : (A ++ x :: B).length ≤ 2048) (hw0 : 0 ≤ x.wt) (hw1 : x.wt ≤ 1099511627776) (hE : n < 1 ∨ 1099511627776 - x.wt < n) :
    Calls Try.prog 29 #[pt r 0, .int .u64 x.num, .int .i64 n] w fun e w' => e = .returned (.int .i64 193) ∧ w' = w := by
  have hP := place_hit h hA hl
  obtain ⟨g, cap, rfl⟩ := lst_some h.lst
  obtain ⟨hc, hf, _, hlc⟩ := lst_at h.lst
  have c1 := h.row.cell 1 _ rfl
  have d3 := hc 3 _ rfl
  obtain ⟨N, hN⟩ : ∃ N, (A ++ x :: B).length = N := ⟨_, rfl⟩
  have hAN : A.length < N := by rw [← hN]; simp
  rw [hN] at c1
  obtain ⟨m, hm⟩ : ∃ m, A.length = m := ⟨_, rfl⟩
  rw [hm] at d3 hP hAN
  have hmN : (m : Int) < (N : Int) := by omega
  have hm0 : ¬ (m : Int) < 0 := by omega
  clear h hA hl hc hf hlc hN hm
  generalize x.num = id at *
  by_cases hE2 : n < 1
  · clear hE
    go_enter Try.func29, Try.ntmps29
    go_wp2_with (go_at_call 36; refine hP.mono ?_; rintro e w' ⟨rfl, rfl⟩)
    go_ret
    exact ⟨rfl, rfl⟩
  · have hE3 : 1099511627776 - x.wt < n := by omega
    clear hE
    · go_enter Try.func29, Try.ntmps29
      go_wp2_with (go_at_call 36; refine hP.mono ?_; rintro e w' ⟨rfl, rfl⟩)
      go_ret
      exact ⟨rfl, rfl⟩
theorem step_value {P : Program} {o : Oper} {a : Act} {w w' : World} {v : Value} {K : Act → World → Prop} {Q : Exit → Act → World → Prop} (e : (execOp a.eval o).run P w = .ok (.value v) w') (h : K (a.put o.dst v) w') : Oper.wp P o a w K Q := by
  unfold Oper.wp
  rw [e, Oper.upon_value]
  exact h
theorem step_build54 {o : Oper} {a : Act} {w : World} {K : Act → World → Prop} {Q : Exit → Act → World → Prop} {x : Operand} {i : Int} (ho : o.op = .buildSlice 54 1 #[(0, x)]) (hx : a.eval x = .int .u64 i) (h : K (a.put o.dst (.slice (some ⟨w.heap.size, 0, none⟩) 1 1)) (w.alloc (.cells #[.int .u64 i] 26))) : Oper.wp Try.prog o a w K Q :=
  step_value (w' := w.alloc (.cells #[.int .u64 i] 26)) (by generalize a.eval = r at *; simp [execOp, ho, hx, go_sem]) h
theorem step_store54 {o : Oper} {a : Act} {w : World} {K : Act → World → Prop} {Q : Exit → Act → World → Prop} {x y : Operand} {b k : Nat} {av : Option Addr} {n c : Nat} {old : Value} (ho : o.op = .store 54 x y) (hx : a.eval x = .pointer (some ⟨b, k, none⟩)) (hy : a.eval y = .slice av n c) (hc : w.cell? ⟨b, k, none⟩ = some old) (hf : w.frozen? ⟨b, k, none⟩ = false)
    (h : K (a.put o.dst undef) (w.setCell ⟨b, k, none⟩ (.slice av n c))) : Oper.wp Try.prog o a w K Q := by
  have e : (execOp a.eval o).run Try.prog w = .ok .skip (w.setCell ⟨b, k, none⟩ (.slice av n c)) := by
    generalize a.eval = r at *
    simp [execOp, ho, hx, hy, hc, hf, go_sem]
  unfold Oper.wp
  rw [e]
  exact h
theorem step_store3 {o : Oper} {a : Act} {w : World} {K : Act → World → Prop} {Q : Exit → Act → World → Prop} {x y : Operand} {b k : Nat} {z : Int} {old : Value} (ho : o.op = .store 3 x y) (hx : a.eval x = .pointer (some ⟨b, k, none⟩)) (hy : a.eval y = .int .i64 z) (hc : w.cell? ⟨b, k, none⟩ = some old) (hf : w.frozen? ⟨b, k, none⟩ = false)
    (h : K (a.put o.dst undef) (w.setCell ⟨b, k, none⟩ (.int .i64 z))) : Oper.wp Try.prog o a w K Q := by
  have e : (execOp a.eval o).run Try.prog w = .ok .skip (w.setCell ⟨b, k, none⟩ (.int .i64 z)) := by
    generalize a.eval = r at *
    simp [execOp, ho, hx, hy, hc, hf, go_sem]
  unfold Oper.wp
  rw [e]
  exact h
def Sm.plus (x : Sm) (n : Int) : Sm := { x with wt := x.wt + n }
set_option maxHeartbeats 4000000 in
theorem rmore_ok {w : World} {r : Nat} {vL : Value} {V : Nat → Value} {q : Int} {A B : List Sm} {x : Sm} {R : Nat → List Int} (h : RfAt w r vL V q (A ++ x :: B) R) {n : Int} (hA : ∀ a ∈ A, a.num ≠ x.num) (hl : (A ++ x :: B).length ≤ 2048) (hc8 : x.cls < 8) (hlR : (R x.cls).length ≤ 2048) (hw0 : 0 ≤ x.wt) (hw1 : x.wt ≤ 1099511627776) (hn1 : 1 ≤ n) (hn2 : x.wt + n ≤ 1099511627776) :
    Calls Try.prog 29 #[pt r 0, .int .u64 x.num, .int .i64 n] w fun e w' => e = .returned (.int .i64 0) ∧ ∃ V', RMv r vL V w vL V' q (A ++ x.plus n :: B) (if x.wt = 0 then upR R x.cls (R x.cls ++ [x.num]) else R) w' := by
  have hP := place_hit h hA hl
  obtain ⟨g, cap, rfl⟩ := lst_some h.lst
  have HH := hid2 h
  have hgr : ¬ g = r := fun e => h.lr (by rw [e]; rfl)
  have hrg : ¬ r = g := fun e => hgr e.symm
  have hba : Below w.heap.size w (w.alloc (.cells #[.int .u64 x.num] 26)).drew := ((Below.refl _ _).alloc (Nat.le_refl _) _).drew
  have hcell : (w.alloc (.cells #[.int .u64 x.num] 26)).drew.cell? ⟨w.heap.size, 0, none⟩ = some (.int .u64 x.num) := (Row.new w [.int .u64 x.num] 26).cell 0 _ rfl
  have h1 := h.below hba
  obtain ⟨v', w1, hrun, hO, hF1, hn1'⟩ := push_run (h1.own _ hc8) (by omega) hcell 54
  have hM := h1.put hc8 hF1 hO hn1'
  have pA := hM.at_
  have p1 := pA.row.cell 1 _ rfl
  obtain ⟨pc, pf, -, -⟩ := lst_at pA.lst
  have p3 := pc 3 _ rfl
  have pf3 := pf (A.length * 6 + 3)
  have HM := hid2 ((RMv.ahead hba hM).trans (pA.cell (j := 3) (v := .int .i64 (x.wt + n)) (y := x.plus n) (by omega) rfl))
  have HN := hid2 (h.cell (j := 3) (v := .int .i64 (x.wt + n)) (y := x.plus n) (by omega) rfl)
  obtain ⟨hc, hf, hNl, hlc⟩ := lst_at h.lst
  have R0 := h.row
  have c1 := R0.cell 1 _ rfl
  have c2 := R0.cell _ _ (rcells_get q _ V hc8)
  have d0 := hc 1 _ rfl
  have d3 := hc 3 _ rfl
  have f3 := hf (A.length * 6 + 3)
  have RA := h.row.alloc (.cells #[.int .u64 x.num] 26)
  have a1 := RA.cell 1 _ rfl
  have a2 := RA.cell _ _ (rcells_get q _ V hc8)
  have hx : (A ++ x :: B).length = (A ++ x :: B).length := rfl
  have hlA := own_keep (S := fun _ => False) h.lst (Fr.of_below (below_box w (.cells #[.int .u64 x.num] 26)) (Nat.le_refl _)) (fun _ _ e => e)
  have e0 := (lst_at hlA).1 1 _ rfl
  have RB := hF1.row h1.row (h1.vr hc8)
  have b1 := RB.cell 1 _ rfl
  have b2 := RB.cell _ _ (rcells_get q _ V hc8)
  have fb := RB.frozen (2 + x.cls)
  have hlB := own_keep h1.lst hF1 (fun g e e' => h1.vl hc8 e' e)
  have g0 := (lst_at hlB).1 1 _ rfl
  obtain ⟨a, capR, hv, -⟩ := own_slice (h.own _ hc8)
  obtain ⟨a', cap', hv', -⟩ := own_slice hO
  have hbs := bsl26
  rw [hv] at c2 a2 b2 hrun
  subst hv'
  have HRUN := hid2 hrun
  have k1 : (0 : Int) ≤ (x.cls : Int) := by omega
  have k2 : (x.cls : Int) < 8 := by omega
  have hAN : (A.length : Int) < ((A ++ x :: B).length : Int) := by simp; omega
  clear pA pc pf
  clear h h1 hba hcell hrun hO hF1 hn1' hM hc hf hNl hlc R0 RA hlA RB hlB hv hA hl hx
  obtain ⟨m, hm⟩ : ∃ m, A.length = m := ⟨_, rfl⟩
  have HMM := hid2 hm
  rw [hm] at d0 d3 f3 e0 g0 hP hAN p3 pf3 HM HN
  have hm0 : ¬ (m : Int) < 0 := by omega
  have hb1 : ¬ n < 1 := by omega
  have hb2 : ¬ 1099511627776 - x.wt < n := by omega
  clear hm
  generalize (R x.cls ++ [x.num]).length = nR' at *
  generalize (A ++ x :: B).length = N at *
  obtain ⟨W, hW⟩ : ∃ W, w1.setCell ⟨r, 2 + x.cls, none⟩ (.slice a' nR' cap') = W := ⟨_, rfl⟩
  rw [hW] at p1 p3 pf3 HM
  by_cases hz : x.wt = 0
  · rw [if_pos hz]
    have HW := hid2 hW
    rw [hz] at d3 hb2 p3 HM
    clear HN hz hW
    go_enter Try.func29, Try.ntmps29
    go_upto_region 7 with (go_at_call 36; refine hP.mono ?_; rintro e w' ⟨rfl, rfl⟩)
    refine wp_region_last (S := fun w' => w'.cell? ⟨r, 1, none⟩ = some (.slice (some ⟨g, 0, none⟩) N cap) ∧ w'.cell? ⟨g, m * 6 + 1, none⟩ = some (.int .i64 x.cls) ∧ w'.cell? ⟨r, 2 + x.cls, none⟩ = some (.slice a (R x.cls).length capR)) (N := 30) (by kernel_rfl) (by kernel_rfl) fun hNW => ?_
    have hHeld := (show (fun w' => w'.cell? ⟨r, 1, none⟩ = some (.slice (some ⟨g, 0, none⟩) N cap) ∧ w'.cell? ⟨g, m * 6 + 1, none⟩ = some (.int .i64 x.cls) ∧ w'.cell? ⟨r, 2 + x.cls, none⟩ = some (.slice a (R x.cls).length capR)) w'.drew from ⟨c1, d0, c2⟩)
    refine wpAnyF_take (i := 0) (oi := { dst := some 39, op := Go.Op.move (Go.Operand.tmp 0), type := 47, pos := "ref.go:109", after := #[], guard := none }) (v := ?v1_0) hNW (by decide) rfl (by kernel_rfl) (by kernel_rfl) (by kernel_rfl) (by kernel_rfl) (fun _ _ _ h => h) (Or.inl ⟨by kernel_rfl, ?h1_0⟩) (by assumption) ?r1_0
    case h1_0 => (intro wt hSw; (try dsimp only at hSw); go_simp; try with_reducible rfl)
    simp only [Act.put, List.setIfInBounds_toArray, List.set_cons_zero, List.set_cons_succ]
    refine wpAnyF_take (i := 1) (oi := { dst := some 40, op := Go.Op.move (Go.Operand.tmp 0), type := 47, pos := "ref.go:109", after := #[], guard := none }) (v := ?v1_1) hNW (by decide) rfl (by kernel_rfl) (by kernel_rfl) (by kernel_rfl) (by kernel_rfl) (fun _ _ _ h => h) (Or.inl ⟨by kernel_rfl, ?h1_1⟩) (by assumption) ?r1_1
    case h1_1 => (intro wt hSw; (try dsimp only at hSw); go_simp; try with_reducible rfl)
    simp only [Act.put, List.setIfInBounds_toArray, List.set_cons_zero, List.set_cons_succ]
    refine wpAnyF_take (i := 2) (oi := { dst := some 41, op := Go.Op.nilCheck (Go.Operand.tmp 40), type := 0, pos := "ref.go:109", after := #[{ on := 1, ground := Go.Ground.data }], guard := none }) (v := ?v1_2) hNW (by decide) rfl (by kernel_rfl) (by kernel_rfl) (by kernel_rfl) (by kernel_rfl) (fun _ _ _ h => h) (Or.inl ⟨by kernel_rfl, ?h1_2⟩) (by assumption) ?r1_2
    case h1_2 => (intro wt hSw; (try dsimp only at hSw); go_simp; try with_reducible rfl)
    simp only [Act.put, List.setIfInBounds_toArray, List.set_cons_zero, List.set_cons_succ]
    refine wpAnyF_take (i := 3) (oi := { dst := some 42, op := Go.Op.fieldAddr 66 (Go.Operand.tmp 41) 1, type := 0, pos := "ref.go:109", after := #[{ on := 2, ground := Go.Ground.data }], guard := none }) (v := ?v1_3) hNW (by decide) rfl (by kernel_rfl) (by kernel_rfl) (by kernel_rfl) (by kernel_rfl) (fun _ _ _ h => h) (Or.inl ⟨by kernel_rfl, ?h1_3⟩) (by assumption) ?r1_3
    case h1_3 => (intro wt hSw; (try dsimp only at hSw); go_simp; try with_reducible rfl)
    simp only [Act.put, List.setIfInBounds_toArray, List.set_cons_zero, List.set_cons_succ]
    refine wpAnyF_take (i := 4) (oi := { dst := some 43, op := Go.Op.load 64 (Go.Operand.tmp 42), type := 64, pos := "ref.go:109", after := #[{ on := 3, ground := Go.Ground.data }], guard := none }) (v := ?v1_4) hNW (by decide) rfl (by kernel_rfl) (by kernel_rfl) (by kernel_rfl) (by kernel_rfl) (fun _ _ _ h => h) (Or.inl ⟨by kernel_rfl, ?h1_4⟩) (by assumption) ?r1_4
    case h1_4 => (intro wt hSw; (try dsimp only at hSw); go_simp; try with_reducible rfl)
    simp only [Act.put, List.setIfInBounds_toArray, List.set_cons_zero, List.set_cons_succ]
    refine wpAnyF_take (i := 5) (oi := { dst := some 44, op := Go.Op.move (Go.Operand.tmp 7), type := 3, pos := "ref.go:109", after := #[], guard := none }) (v := ?v1_5) hNW (by decide) rfl (by kernel_rfl) (by kernel_rfl) (by kernel_rfl) (by kernel_rfl) (fun _ _ _ h => h) (Or.inl ⟨by kernel_rfl, ?h1_5⟩) (by assumption) ?r1_5
    case h1_5 => (intro wt hSw; (try dsimp only at hSw); go_simp; try with_reducible rfl)
    simp only [Act.put, List.setIfInBounds_toArray, List.set_cons_zero, List.set_cons_succ]
    refine wpAnyF_take (i := 6) (oi := { dst := some 45, op := Go.Op.indexAddr 64 (Go.Operand.tmp 43) (Go.Operand.tmp 44), type := 0, pos := "ref.go:109", after := #[{ on := 4, ground := Go.Ground.data }, { on := 5, ground := Go.Ground.data }], guard := none }) (v := ?v1_6) hNW (by decide) rfl (by kernel_rfl) (by kernel_rfl) (by kernel_rfl) (by kernel_rfl) (fun _ _ _ h => h) (Or.inl ⟨by kernel_rfl, ?h1_6⟩) (by assumption) ?r1_6
    case h1_6 => (intro wt hSw; (try dsimp only at hSw); go_simp; try with_reducible rfl)
    simp only [Act.put, List.setIfInBounds_toArray, List.set_cons_zero, List.set_cons_succ]
    refine wpAnyF_take (i := 7) (oi := { dst := some 46, op := Go.Op.fieldAddr 71 (Go.Operand.tmp 45) 0, type := 0, pos := "ref.go:109", after := #[{ on := 6, ground := Go.Ground.data }], guard := none }) (v := ?v1_7) hNW (by decide) rfl (by kernel_rfl) (by kernel_rfl) (by kernel_rfl) (by kernel_rfl) (fun _ _ _ h => h) (Or.inl ⟨by kernel_rfl, ?h1_7⟩) (by assumption) ?r1_7
    case h1_7 => (intro wt hSw; (try dsimp only at hSw); go_simp; try with_reducible rfl)
    simp only [Act.put, List.setIfInBounds_toArray, List.set_cons_zero, List.set_cons_succ]
    refine wpAnyF_take (i := 8) (oi := { dst := some 47, op := Go.Op.fieldAddr 44 (Go.Operand.tmp 46) 1, type := 0, pos := "ref.go:109", after := #[{ on := 7, ground := Go.Ground.data }], guard := none }) (v := ?v1_8) hNW (by decide) rfl (by kernel_rfl) (by kernel_rfl) (by kernel_rfl) (by kernel_rfl) (fun _ _ _ h => h) (Or.inl ⟨by kernel_rfl, ?h1_8⟩) (by assumption) ?r1_8
    case h1_8 => (intro wt hSw; (try dsimp only at hSw); go_simp; try with_reducible rfl)
    simp only [Act.put, List.setIfInBounds_toArray, List.set_cons_zero, List.set_cons_succ]
    refine wpAnyF_take (i := 9) (oi := { dst := some 48, op := Go.Op.load 3 (Go.Operand.tmp 47), type := 3, pos := "ref.go:109", after := #[{ on := 8, ground := Go.Ground.data }], guard := none }) (v := ?v1_9) hNW (by decide) rfl (by kernel_rfl) (by kernel_rfl) (by kernel_rfl) (by kernel_rfl) (fun _ _ _ h => h) (Or.inl ⟨by kernel_rfl, ?h1_9⟩) (by assumption) ?r1_9
    case h1_9 => (intro wt hSw; (try dsimp only at hSw); go_simp; try with_reducible rfl)
    simp only [Act.put, List.setIfInBounds_toArray, List.set_cons_zero, List.set_cons_succ]
    refine wpAnyF_take (i := 10) (oi := { dst := some 49, op := Go.Op.move (Go.Operand.tmp 0), type := 47, pos := "ref.go:109", after := #[], guard := none }) (v := ?v1_10) hNW (by decide) rfl (by kernel_rfl) (by kernel_rfl) (by kernel_rfl) (by kernel_rfl) (fun _ _ _ h => h) (Or.inl ⟨by kernel_rfl, ?h1_10⟩) (by assumption) ?r1_10
    case h1_10 => (intro wt hSw; (try dsimp only at hSw); go_simp; try with_reducible rfl)
    simp only [Act.put, List.setIfInBounds_toArray, List.set_cons_zero, List.set_cons_succ]
    refine wpAnyF_take (i := 11) (oi := { dst := some 50, op := Go.Op.move (Go.Operand.tmp 0), type := 47, pos := "ref.go:109", after := #[], guard := none }) (v := ?v1_11) hNW (by decide) rfl (by kernel_rfl) (by kernel_rfl) (by kernel_rfl) (by kernel_rfl) (fun _ _ _ h => h) (Or.inl ⟨by kernel_rfl, ?h1_11⟩) (by assumption) ?r1_11
    case h1_11 => (intro wt hSw; (try dsimp only at hSw); go_simp; try with_reducible rfl)
    simp only [Act.put, List.setIfInBounds_toArray, List.set_cons_zero, List.set_cons_succ]
    refine wpAnyF_take (i := 12) (oi := { dst := some 51, op := Go.Op.nilCheck (Go.Operand.tmp 50), type := 0, pos := "ref.go:109", after := #[{ on := 11, ground := Go.Ground.data }], guard := none }) (v := ?v1_12) hNW (by decide) rfl (by kernel_rfl) (by kernel_rfl) (by kernel_rfl) (by kernel_rfl) (fun _ _ _ h => h) (Or.inl ⟨by kernel_rfl, ?h1_12⟩) (by assumption) ?r1_12
    case h1_12 => (intro wt hSw; (try dsimp only at hSw); go_simp; try with_reducible rfl)
    simp only [Act.put, List.setIfInBounds_toArray, List.set_cons_zero, List.set_cons_succ]
    refine wpAnyF_take (i := 13) (oi := { dst := some 52, op := Go.Op.fieldAddr 66 (Go.Operand.tmp 51) 1, type := 0, pos := "ref.go:109", after := #[{ on := 12, ground := Go.Ground.data }], guard := none }) (v := ?v1_13) hNW (by decide) rfl (by kernel_rfl) (by kernel_rfl) (by kernel_rfl) (by kernel_rfl) (fun _ _ _ h => h) (Or.inl ⟨by kernel_rfl, ?h1_13⟩) (by assumption) ?r1_13
    case h1_13 => (intro wt hSw; (try dsimp only at hSw); go_simp; try with_reducible rfl)
    simp only [Act.put, List.setIfInBounds_toArray, List.set_cons_zero, List.set_cons_succ]
    refine wpAnyF_take (i := 14) (oi := { dst := some 53, op := Go.Op.load 64 (Go.Operand.tmp 52), type := 64, pos := "ref.go:109", after := #[{ on := 13, ground := Go.Ground.data }], guard := none }) (v := ?v1_14) hNW (by decide) rfl (by kernel_rfl) (by kernel_rfl) (by kernel_rfl) (by kernel_rfl) (fun _ _ _ h => h) (Or.inl ⟨by kernel_rfl, ?h1_14⟩) (by assumption) ?r1_14
    case h1_14 => (intro wt hSw; (try dsimp only at hSw); go_simp; try with_reducible rfl)
    simp only [Act.put, List.setIfInBounds_toArray, List.set_cons_zero, List.set_cons_succ]
    refine wpAnyF_take (i := 15) (oi := { dst := some 54, op := Go.Op.move (Go.Operand.tmp 7), type := 3, pos := "ref.go:109", after := #[], guard := none }) (v := ?v1_15) hNW (by decide) rfl (by kernel_rfl) (by kernel_rfl) (by kernel_rfl) (by kernel_rfl) (fun _ _ _ h => h) (Or.inl ⟨by kernel_rfl, ?h1_15⟩) (by assumption) ?r1_15
    case h1_15 => (intro wt hSw; (try dsimp only at hSw); go_simp; try with_reducible rfl)
    simp only [Act.put, List.setIfInBounds_toArray, List.set_cons_zero, List.set_cons_succ]
    refine wpAnyF_take (i := 16) (oi := { dst := some 55, op := Go.Op.indexAddr 64 (Go.Operand.tmp 53) (Go.Operand.tmp 54), type := 0, pos := "ref.go:109", after := #[{ on := 14, ground := Go.Ground.data }, { on := 15, ground := Go.Ground.data }], guard := none }) (v := ?v1_16) hNW (by decide) rfl (by kernel_rfl) (by kernel_rfl) (by kernel_rfl) (by kernel_rfl) (fun _ _ _ h => h) (Or.inl ⟨by kernel_rfl, ?h1_16⟩) (by assumption) ?r1_16
    case h1_16 => (intro wt hSw; (try dsimp only at hSw); go_simp; try with_reducible rfl)
    simp only [Act.put, List.setIfInBounds_toArray, List.set_cons_zero, List.set_cons_succ]
    refine wpAnyF_take (i := 17) (oi := { dst := some 56, op := Go.Op.fieldAddr 71 (Go.Operand.tmp 55) 0, type := 0, pos := "ref.go:109", after := #[{ on := 16, ground := Go.Ground.data }], guard := none }) (v := ?v1_17) hNW (by decide) rfl (by kernel_rfl) (by kernel_rfl) (by kernel_rfl) (by kernel_rfl) (fun _ _ _ h => h) (Or.inl ⟨by kernel_rfl, ?h1_17⟩) (by assumption) ?r1_17
    case h1_17 => (intro wt hSw; (try dsimp only at hSw); go_simp; try with_reducible rfl)
    simp only [Act.put, List.setIfInBounds_toArray, List.set_cons_zero, List.set_cons_succ]
    refine wpAnyF_take (i := 18) (oi := { dst := some 57, op := Go.Op.fieldAddr 44 (Go.Operand.tmp 56) 1, type := 0, pos := "ref.go:109", after := #[{ on := 17, ground := Go.Ground.data }], guard := none }) (v := ?v1_18) hNW (by decide) rfl (by kernel_rfl) (by kernel_rfl) (by kernel_rfl) (by kernel_rfl) (fun _ _ _ h => h) (Or.inl ⟨by kernel_rfl, ?h1_18⟩) (by assumption) ?r1_18
    case h1_18 => (intro wt hSw; (try dsimp only at hSw); go_simp; try with_reducible rfl)
    simp only [Act.put, List.setIfInBounds_toArray, List.set_cons_zero, List.set_cons_succ]
    refine wpAnyF_take (i := 19) (oi := { dst := some 58, op := Go.Op.load 3 (Go.Operand.tmp 57), type := 3, pos := "ref.go:109", after := #[{ on := 18, ground := Go.Ground.data }], guard := none }) (v := ?v1_19) hNW (by decide) rfl (by kernel_rfl) (by kernel_rfl) (by kernel_rfl) (by kernel_rfl) (fun _ _ _ h => h) (Or.inl ⟨by kernel_rfl, ?h1_19⟩) (by assumption) ?r1_19
    case h1_19 => (intro wt hSw; (try dsimp only at hSw); go_simp; try with_reducible rfl)
    simp only [Act.put, List.setIfInBounds_toArray, List.set_cons_zero, List.set_cons_succ]
    refine wpAnyF_take (i := 20) (oi := { dst := some 59, op := Go.Op.nilCheck (Go.Operand.tmp 49), type := 0, pos := "ref.go:109", after := #[{ on := 10, ground := Go.Ground.data }], guard := none }) (v := ?v1_20) hNW (by decide) rfl (by kernel_rfl) (by kernel_rfl) (by kernel_rfl) (by kernel_rfl) (fun _ _ _ h => h) (Or.inl ⟨by kernel_rfl, ?h1_20⟩) (by assumption) ?r1_20
    case h1_20 => (intro wt hSw; (try dsimp only at hSw); go_simp; try with_reducible rfl)
    simp only [Act.put, List.setIfInBounds_toArray, List.set_cons_zero, List.set_cons_succ]
    refine wpAnyF_take (i := 21) (oi := { dst := some 60, op := Go.Op.fieldAddr 66 (Go.Operand.tmp 59) 2, type := 0, pos := "ref.go:109", after := #[{ on := 20, ground := Go.Ground.data }], guard := none }) (v := ?v1_21) hNW (by decide) rfl (by kernel_rfl) (by kernel_rfl) (by kernel_rfl) (by kernel_rfl) (fun _ _ _ h => h) (Or.inl ⟨by kernel_rfl, ?h1_21⟩) (by assumption) ?r1_21
    case h1_21 => (intro wt hSw; (try dsimp only at hSw); go_simp; try with_reducible rfl)
    simp only [Act.put, List.setIfInBounds_toArray, List.set_cons_zero, List.set_cons_succ]
    refine wpAnyF_take (i := 22) (oi := { dst := some 61, op := Go.Op.indexAddr 55 (Go.Operand.tmp 60) (Go.Operand.tmp 58), type := 0, pos := "ref.go:109", after := #[{ on := 21, ground := Go.Ground.data }, { on := 19, ground := Go.Ground.data }], guard := none }) (v := ?v1_22) hNW (by decide) rfl (by kernel_rfl) (by kernel_rfl) (by kernel_rfl) (by kernel_rfl) (fun _ _ _ h => h) (Or.inl ⟨by kernel_rfl, ?h1_22⟩) (by assumption) ?r1_22
    case h1_22 => (intro wt hSw; (try dsimp only at hSw); go_simp; try with_reducible rfl)
    simp only [Act.put, List.setIfInBounds_toArray, List.set_cons_zero, List.set_cons_succ]
    refine wpAnyF_take (i := 23) (oi := { dst := some 62, op := Go.Op.load 54 (Go.Operand.tmp 61), type := 54, pos := "ref.go:109", after := #[{ on := 22, ground := Go.Ground.data }], guard := none }) (v := ?v1_23) hNW (by decide) rfl (by kernel_rfl) (by kernel_rfl) (by kernel_rfl) (by kernel_rfl) (fun _ _ _ h => h) (Or.inl ⟨by kernel_rfl, ?h1_23⟩) (by assumption) ?r1_23
    case h1_23 => (intro wt hSw; (try dsimp only at hSw); go_simp; try with_reducible rfl)
    simp only [Act.put, List.setIfInBounds_toArray, List.set_cons_zero, List.set_cons_succ]
    refine wpAnyF_take (i := 24) (oi := { dst := some 63, op := Go.Op.move (Go.Operand.tmp 1), type := 26, pos := "ref.go:109", after := #[], guard := none }) (v := ?v1_24) hNW (by decide) rfl (by kernel_rfl) (by kernel_rfl) (by kernel_rfl) (by kernel_rfl) (fun _ _ _ h => h) (Or.inl ⟨by kernel_rfl, ?h1_24⟩) (by assumption) ?r1_24
    case h1_24 => (intro wt hSw; (try dsimp only at hSw); go_simp; try with_reducible rfl)
    simp only [Act.put, List.setIfInBounds_toArray, List.set_cons_zero, List.set_cons_succ]
    refine wpAnyF_take (i := 27) (oi := { dst := some 66, op := Go.Op.nilCheck (Go.Operand.tmp 39), type := 0, pos := "ref.go:109", after := #[{ on := 0, ground := Go.Ground.data }], guard := none }) (v := ?v1_27) hNW (by decide) rfl (by kernel_rfl) (by kernel_rfl) (by kernel_rfl) (by kernel_rfl) (fun _ _ _ h => h) (Or.inl ⟨by kernel_rfl, ?h1_27⟩) (by assumption) ?r1_27
    case h1_27 => (intro wt hSw; (try dsimp only at hSw); go_simp; try with_reducible rfl)
    simp only [Act.put, List.setIfInBounds_toArray, List.set_cons_zero, List.set_cons_succ]
    refine wpAnyF_take (i := 28) (oi := { dst := some 67, op := Go.Op.fieldAddr 66 (Go.Operand.tmp 66) 2, type := 0, pos := "ref.go:109", after := #[{ on := 27, ground := Go.Ground.data }], guard := none }) (v := ?v1_28) hNW (by decide) rfl (by kernel_rfl) (by kernel_rfl) (by kernel_rfl) (by kernel_rfl) (fun _ _ _ h => h) (Or.inl ⟨by kernel_rfl, ?h1_28⟩) (by assumption) ?r1_28
    case h1_28 => (intro wt hSw; (try dsimp only at hSw); go_simp; try with_reducible rfl)
    simp only [Act.put, List.setIfInBounds_toArray, List.set_cons_zero, List.set_cons_succ]
    refine wpAnyF_one (i := 25) (o := { dst := some 64, op := Go.Op.buildSlice 54 1 #[(0, Go.Operand.tmp 63)], type := 54, pos := "ref.go:109", after := #[{ on := 24, ground := Go.Ground.data }], guard := none }) rfl rfl (by kernel_rfl) ?_
    refine step_build54 (i := x.num) rfl rfl ?_
    refine ⟨fun _ => ⟨a1, e0, a2⟩, ?_⟩
    simp only [Act.put, List.setIfInBounds_toArray, List.set_cons_zero, List.set_cons_succ]
    have hHeld2 := (show (fun w' => w'.cell? ⟨r, 1, none⟩ = some (.slice (some ⟨g, 0, none⟩) N cap) ∧ w'.cell? ⟨g, m * 6 + 1, none⟩ = some (.int .i64 x.cls) ∧ w'.cell? ⟨r, 2 + x.cls, none⟩ = some (.slice a (R x.cls).length capR)) ((w'.alloc (.cells #[.int .u64 x.num] 26)).drew) from ⟨a1, e0, a2⟩)
    refine wpAnyF_one (i := 26) (o := { dst := some 65, op := Go.Op.call { callee := Go.Callee.builtin Go.Builtin.append, args := #[Go.Operand.tmp 62, Go.Operand.tmp 64], argTypes := #[54, 54] }, type := 54, pos := "ref.go:109", after := #[{ on := 23, ground := Go.Ground.data }, { on := 25, ground := Go.Ground.data }], guard := none }) rfl rfl (by kernel_rfl) ?_
    refine wp_append_by (.tmp 62) (.tmp 64) 54 rfl rfl rfl HRUN.out ?_
    refine ⟨fun _ => ⟨b1, g0, b2⟩, ?_⟩
    simp only [Act.put, List.setIfInBounds_toArray, List.set_cons_zero, List.set_cons_succ]
    have hHeld3 := (show (fun w' => w'.cell? ⟨r, 1, none⟩ = some (.slice (some ⟨g, 0, none⟩) N cap) ∧ w'.cell? ⟨g, m * 6 + 1, none⟩ = some (.int .i64 x.cls) ∧ w'.cell? ⟨r, 2 + x.cls, none⟩ = some (.slice a (R x.cls).length capR)) w1 from ⟨b1, g0, b2⟩)
    refine wpAnyF_take (i := 29) (oi := { dst := some 68, op := Go.Op.indexAddr 55 (Go.Operand.tmp 67) (Go.Operand.tmp 48), type := 0, pos := "ref.go:109", after := #[{ on := 28, ground := Go.Ground.data }, { on := 9, ground := Go.Ground.data }, { on := 0, ground := Go.Ground.phase }, { on := 1, ground := Go.Ground.phase }, { on := 2, ground := Go.Ground.phase }, { on := 3, ground := Go.Ground.phase }, { on := 4, ground := Go.Ground.phase }, { on := 5, ground := Go.Ground.phase }, { on := 6, ground := Go.Ground.phase }, { on := 7, ground := Go.Ground.phase }, { on := 8, ground := Go.Ground.phase }, { on := 9, ground := Go.Ground.phase }, { on := 10, ground := Go.Ground.phase }, { on := 11, ground := Go.Ground.phase }, { on := 12, ground := Go.Ground.phase }, { on := 13, ground := Go.Ground.phase }, { on := 14, ground := Go.Ground.phase }, { on := 15, ground := Go.Ground.phase }, { on := 16, ground := Go.Ground.phase }, { on := 17, ground := Go.Ground.phase }, { on := 18, ground := Go.Ground.phase }, { on := 19, ground := Go.Ground.phase }, { on := 20, ground := Go.Ground.phase }, { on := 21, ground := Go.Ground.phase }, { on := 22, ground := Go.Ground.phase }, { on := 23, ground := Go.Ground.phase }, { on := 24, ground := Go.Ground.phase }, { on := 25, ground := Go.Ground.phase }, { on := 26, ground := Go.Ground.phase }], guard := none }) (v := ?v1_29) hNW (by decide) rfl (by kernel_rfl) (by kernel_rfl) (by kernel_rfl) (by kernel_rfl) (fun _ _ _ h => h) (Or.inl ⟨by kernel_rfl, ?h1_29⟩) (by assumption) ?r1_29
    case h1_29 => (intro wt hSw; (try dsimp only at hSw); go_simp; try with_reducible rfl)
    simp only [Act.put, List.setIfInBounds_toArray, List.set_cons_zero, List.set_cons_succ]
    refine wpAnyF_one (i := 30) (o := { dst := none, op := Go.Op.store 54 (Go.Operand.tmp 68) (Go.Operand.tmp 65), type := 0, pos := "ref.go:109", after := #[{ on := 29, ground := Go.Ground.data }, { on := 26, ground := Go.Ground.data }, { on := 26, ground := Go.Ground.chain }, { on := 0, ground := Go.Ground.phase }, { on := 1, ground := Go.Ground.phase }, { on := 2, ground := Go.Ground.phase }, { on := 3, ground := Go.Ground.phase }, { on := 4, ground := Go.Ground.phase }, { on := 5, ground := Go.Ground.phase }, { on := 6, ground := Go.Ground.phase }, { on := 7, ground := Go.Ground.phase }, { on := 8, ground := Go.Ground.phase }, { on := 9, ground := Go.Ground.phase }, { on := 10, ground := Go.Ground.phase }, { on := 11, ground := Go.Ground.phase }, { on := 12, ground := Go.Ground.phase }, { on := 13, ground := Go.Ground.phase }, { on := 14, ground := Go.Ground.phase }, { on := 15, ground := Go.Ground.phase }, { on := 16, ground := Go.Ground.phase }, { on := 17, ground := Go.Ground.phase }, { on := 18, ground := Go.Ground.phase }, { on := 19, ground := Go.Ground.phase }, { on := 20, ground := Go.Ground.phase }, { on := 21, ground := Go.Ground.phase }, { on := 22, ground := Go.Ground.phase }, { on := 23, ground := Go.Ground.phase }, { on := 24, ground := Go.Ground.phase }, { on := 25, ground := Go.Ground.phase }, { on := 26, ground := Go.Ground.phase }], guard := none }) rfl rfl (by kernel_rfl) ?_
    refine step_store54 (b := r) (k := 2 + x.cls) (av := a') (n := nR') (c := cap') rfl rfl rfl b2 fb ?_
    refine ⟨fun h => absurd rfl h, ?_⟩
    simp only [Act.put]
    refine wpAnyF_done (by kernel_rfl) ?_ _
    rw [HW.out]
    clear hHeld hHeld2 hHeld3 hNW a1 a2 e0 b1 b2 fb g0 c1 c2 d0 d3 f3 HW HRUN hbs
    go_upto_region 8 with fail
    refine wp_region_last (S := fun w' => w'.cell? ⟨r, 1, none⟩ = some (.slice (some ⟨g, 0, none⟩) N cap) ∧ w'.cell? ⟨g, m * 6 + 3, none⟩ = some (.int .i64 0)) (N := 19) (by kernel_rfl) (by kernel_rfl) fun hNW => ?_
    have hHeld := (show (fun w' => w'.cell? ⟨r, 1, none⟩ = some (.slice (some ⟨g, 0, none⟩) N cap) ∧ w'.cell? ⟨g, m * 6 + 3, none⟩ = some (.int .i64 0)) W.drew from ⟨p1, p3⟩)
    refine wpAnyF_take (i := 0) (oi := { dst := some 69, op := Go.Op.move (Go.Operand.tmp 0), type := 47, pos := "ref.go:111", after := #[], guard := none }) (v := ?v2_0) hNW (by decide) rfl (by kernel_rfl) (by kernel_rfl) (by kernel_rfl) (by kernel_rfl) (fun _ _ _ h => h) (Or.inl ⟨by kernel_rfl, ?h2_0⟩) (by assumption) ?r2_0
    case h2_0 => (intro wt hSw; (try dsimp only at hSw); go_simp; try with_reducible rfl)
    simp only [Act.put, List.setIfInBounds_toArray, List.set_cons_zero, List.set_cons_succ]
    refine wpAnyF_take (i := 1) (oi := { dst := some 70, op := Go.Op.nilCheck (Go.Operand.tmp 69), type := 0, pos := "ref.go:111", after := #[{ on := 0, ground := Go.Ground.data }], guard := none }) (v := ?v2_1) hNW (by decide) rfl (by kernel_rfl) (by kernel_rfl) (by kernel_rfl) (by kernel_rfl) (fun _ _ _ h => h) (Or.inl ⟨by kernel_rfl, ?h2_1⟩) (by assumption) ?r2_1
    case h2_1 => (intro wt hSw; (try dsimp only at hSw); go_simp; try with_reducible rfl)
    simp only [Act.put, List.setIfInBounds_toArray, List.set_cons_zero, List.set_cons_succ]
    refine wpAnyF_take (i := 2) (oi := { dst := some 71, op := Go.Op.fieldAddr 66 (Go.Operand.tmp 70) 1, type := 0, pos := "ref.go:111", after := #[{ on := 1, ground := Go.Ground.data }], guard := none }) (v := ?v2_2) hNW (by decide) rfl (by kernel_rfl) (by kernel_rfl) (by kernel_rfl) (by kernel_rfl) (fun _ _ _ h => h) (Or.inl ⟨by kernel_rfl, ?h2_2⟩) (by assumption) ?r2_2
    case h2_2 => (intro wt hSw; (try dsimp only at hSw); go_simp; try with_reducible rfl)
    simp only [Act.put, List.setIfInBounds_toArray, List.set_cons_zero, List.set_cons_succ]
    refine wpAnyF_take (i := 3) (oi := { dst := some 72, op := Go.Op.load 64 (Go.Operand.tmp 71), type := 64, pos := "ref.go:111", after := #[{ on := 2, ground := Go.Ground.data }], guard := none }) (v := ?v2_3) hNW (by decide) rfl (by kernel_rfl) (by kernel_rfl) (by kernel_rfl) (by kernel_rfl) (fun _ _ _ h => h) (Or.inl ⟨by kernel_rfl, ?h2_3⟩) (by assumption) ?r2_3
    case h2_3 => (intro wt hSw; (try dsimp only at hSw); go_simp; try with_reducible rfl)
    simp only [Act.put, List.setIfInBounds_toArray, List.set_cons_zero, List.set_cons_succ]
    refine wpAnyF_take (i := 4) (oi := { dst := some 73, op := Go.Op.move (Go.Operand.tmp 7), type := 3, pos := "ref.go:111", after := #[], guard := none }) (v := ?v2_4) hNW (by decide) rfl (by kernel_rfl) (by kernel_rfl) (by kernel_rfl) (by kernel_rfl) (fun _ _ _ h => h) (Or.inl ⟨by kernel_rfl, ?h2_4⟩) (by assumption) ?r2_4
    case h2_4 => (intro wt hSw; (try dsimp only at hSw); go_simp; try with_reducible rfl)
    simp only [Act.put, List.setIfInBounds_toArray, List.set_cons_zero, List.set_cons_succ]
    refine wpAnyF_take (i := 5) (oi := { dst := some 74, op := Go.Op.move (Go.Operand.tmp 0), type := 47, pos := "ref.go:111", after := #[], guard := none }) (v := ?v2_5) hNW (by decide) rfl (by kernel_rfl) (by kernel_rfl) (by kernel_rfl) (by kernel_rfl) (fun _ _ _ h => h) (Or.inl ⟨by kernel_rfl, ?h2_5⟩) (by assumption) ?r2_5
    case h2_5 => (intro wt hSw; (try dsimp only at hSw); go_simp; try with_reducible rfl)
    simp only [Act.put, List.setIfInBounds_toArray, List.set_cons_zero, List.set_cons_succ]
    refine wpAnyF_take (i := 6) (oi := { dst := some 75, op := Go.Op.nilCheck (Go.Operand.tmp 74), type := 0, pos := "ref.go:111", after := #[{ on := 5, ground := Go.Ground.data }], guard := none }) (v := ?v2_6) hNW (by decide) rfl (by kernel_rfl) (by kernel_rfl) (by kernel_rfl) (by kernel_rfl) (fun _ _ _ h => h) (Or.inl ⟨by kernel_rfl, ?h2_6⟩) (by assumption) ?r2_6
    case h2_6 => (intro wt hSw; (try dsimp only at hSw); go_simp; try with_reducible rfl)
    simp only [Act.put, List.setIfInBounds_toArray, List.set_cons_zero, List.set_cons_succ]
    refine wpAnyF_take (i := 7) (oi := { dst := some 76, op := Go.Op.fieldAddr 66 (Go.Operand.tmp 75) 1, type := 0, pos := "ref.go:111", after := #[{ on := 6, ground := Go.Ground.data }], guard := none }) (v := ?v2_7) hNW (by decide) rfl (by kernel_rfl) (by kernel_rfl) (by kernel_rfl) (by kernel_rfl) (fun _ _ _ h => h) (Or.inl ⟨by kernel_rfl, ?h2_7⟩) (by assumption) ?r2_7
    case h2_7 => (intro wt hSw; (try dsimp only at hSw); go_simp; try with_reducible rfl)
    simp only [Act.put, List.setIfInBounds_toArray, List.set_cons_zero, List.set_cons_succ]
    refine wpAnyF_take (i := 8) (oi := { dst := some 77, op := Go.Op.load 64 (Go.Operand.tmp 76), type := 64, pos := "ref.go:111", after := #[{ on := 7, ground := Go.Ground.data }], guard := none }) (v := ?v2_8) hNW (by decide) rfl (by kernel_rfl) (by kernel_rfl) (by kernel_rfl) (by kernel_rfl) (fun _ _ _ h => h) (Or.inl ⟨by kernel_rfl, ?h2_8⟩) (by assumption) ?r2_8
    case h2_8 => (intro wt hSw; (try dsimp only at hSw); go_simp; try with_reducible rfl)
    simp only [Act.put, List.setIfInBounds_toArray, List.set_cons_zero, List.set_cons_succ]
    refine wpAnyF_take (i := 9) (oi := { dst := some 78, op := Go.Op.move (Go.Operand.tmp 7), type := 3, pos := "ref.go:111", after := #[], guard := none }) (v := ?v2_9) hNW (by decide) rfl (by kernel_rfl) (by kernel_rfl) (by kernel_rfl) (by kernel_rfl) (fun _ _ _ h => h) (Or.inl ⟨by kernel_rfl, ?h2_9⟩) (by assumption) ?r2_9
    case h2_9 => (intro wt hSw; (try dsimp only at hSw); go_simp; try with_reducible rfl)
    simp only [Act.put, List.setIfInBounds_toArray, List.set_cons_zero, List.set_cons_succ]
    refine wpAnyF_take (i := 10) (oi := { dst := some 79, op := Go.Op.indexAddr 64 (Go.Operand.tmp 77) (Go.Operand.tmp 78), type := 0, pos := "ref.go:111", after := #[{ on := 8, ground := Go.Ground.data }, { on := 9, ground := Go.Ground.data }], guard := none }) (v := ?v2_10) hNW (by decide) rfl (by kernel_rfl) (by kernel_rfl) (by kernel_rfl) (by kernel_rfl) (fun _ _ _ h => h) (Or.inl ⟨by kernel_rfl, ?h2_10⟩) (by assumption) ?r2_10
    case h2_10 => (intro wt hSw; (try dsimp only at hSw); go_simp; try with_reducible rfl)
    simp only [Act.put, List.setIfInBounds_toArray, List.set_cons_zero, List.set_cons_succ]
    refine wpAnyF_take (i := 11) (oi := { dst := some 80, op := Go.Op.fieldAddr 71 (Go.Operand.tmp 79) 0, type := 0, pos := "ref.go:111", after := #[{ on := 10, ground := Go.Ground.data }], guard := none }) (v := ?v2_11) hNW (by decide) rfl (by kernel_rfl) (by kernel_rfl) (by kernel_rfl) (by kernel_rfl) (fun _ _ _ h => h) (Or.inl ⟨by kernel_rfl, ?h2_11⟩) (by assumption) ?r2_11
    case h2_11 => (intro wt hSw; (try dsimp only at hSw); go_simp; try with_reducible rfl)
    simp only [Act.put, List.setIfInBounds_toArray, List.set_cons_zero, List.set_cons_succ]
    refine wpAnyF_take (i := 12) (oi := { dst := some 81, op := Go.Op.fieldAddr 44 (Go.Operand.tmp 80) 3, type := 0, pos := "ref.go:111", after := #[{ on := 11, ground := Go.Ground.data }], guard := none }) (v := ?v2_12) hNW (by decide) rfl (by kernel_rfl) (by kernel_rfl) (by kernel_rfl) (by kernel_rfl) (fun _ _ _ h => h) (Or.inl ⟨by kernel_rfl, ?h2_12⟩) (by assumption) ?r2_12
    case h2_12 => (intro wt hSw; (try dsimp only at hSw); go_simp; try with_reducible rfl)
    simp only [Act.put, List.setIfInBounds_toArray, List.set_cons_zero, List.set_cons_succ]
    refine wpAnyF_take (i := 13) (oi := { dst := some 82, op := Go.Op.load 3 (Go.Operand.tmp 81), type := 3, pos := "ref.go:111", after := #[{ on := 12, ground := Go.Ground.data }], guard := none }) (v := ?v2_13) hNW (by decide) rfl (by kernel_rfl) (by kernel_rfl) (by kernel_rfl) (by kernel_rfl) (fun _ _ _ h => h) (Or.inl ⟨by kernel_rfl, ?h2_13⟩) (by assumption) ?r2_13
    case h2_13 => (intro wt hSw; (try dsimp only at hSw); go_simp; try with_reducible rfl)
    simp only [Act.put, List.setIfInBounds_toArray, List.set_cons_zero, List.set_cons_succ]
    refine wpAnyF_take (i := 14) (oi := { dst := some 83, op := Go.Op.move (Go.Operand.tmp 2), type := 3, pos := "ref.go:111", after := #[], guard := none }) (v := ?v2_14) hNW (by decide) rfl (by kernel_rfl) (by kernel_rfl) (by kernel_rfl) (by kernel_rfl) (fun _ _ _ h => h) (Or.inl ⟨by kernel_rfl, ?h2_14⟩) (by assumption) ?r2_14
    case h2_14 => (intro wt hSw; (try dsimp only at hSw); go_simp; try with_reducible rfl)
    simp only [Act.put, List.setIfInBounds_toArray, List.set_cons_zero, List.set_cons_succ]
    refine wpAnyF_take (i := 15) (oi := { dst := some 84, op := Go.Op.binOp Go.BinOp.add 3 (Go.Operand.tmp 82) (Go.Operand.tmp 83) 3, type := 3, pos := "ref.go:111", after := #[{ on := 13, ground := Go.Ground.data }, { on := 14, ground := Go.Ground.data }], guard := none }) (v := .int .i64 n) hNW (by decide) rfl (by kernel_rfl) (by kernel_rfl) (by kernel_rfl) (by kernel_rfl) (fun _ _ _ h => h) (Or.inl ⟨by kernel_rfl, ?h2_15⟩) (by assumption) ?r2_15
    case h2_15 => (intro wt hSw; (try dsimp only at hSw); go_simp; rw [IntKind.wrap_i64]; omega)
    simp only [Act.put, List.setIfInBounds_toArray, List.set_cons_zero, List.set_cons_succ]
    refine wpAnyF_take (i := 16) (oi := { dst := some 85, op := Go.Op.indexAddr 64 (Go.Operand.tmp 72) (Go.Operand.tmp 73), type := 0, pos := "ref.go:111", after := #[{ on := 3, ground := Go.Ground.data }, { on := 4, ground := Go.Ground.data }, { on := 0, ground := Go.Ground.phase }, { on := 1, ground := Go.Ground.phase }, { on := 2, ground := Go.Ground.phase }, { on := 3, ground := Go.Ground.phase }, { on := 4, ground := Go.Ground.phase }, { on := 5, ground := Go.Ground.phase }, { on := 6, ground := Go.Ground.phase }, { on := 7, ground := Go.Ground.phase }, { on := 8, ground := Go.Ground.phase }, { on := 9, ground := Go.Ground.phase }, { on := 10, ground := Go.Ground.phase }, { on := 11, ground := Go.Ground.phase }, { on := 12, ground := Go.Ground.phase }, { on := 13, ground := Go.Ground.phase }, { on := 14, ground := Go.Ground.phase }, { on := 15, ground := Go.Ground.phase }], guard := none }) (v := ?v2_16) hNW (by decide) rfl (by kernel_rfl) (by kernel_rfl) (by kernel_rfl) (by kernel_rfl) (fun _ _ _ h => h) (Or.inl ⟨by kernel_rfl, ?h2_16⟩) (by assumption) ?r2_16
    case h2_16 => (intro wt hSw; (try dsimp only at hSw); go_simp; try with_reducible rfl)
    simp only [Act.put, List.setIfInBounds_toArray, List.set_cons_zero, List.set_cons_succ]
    refine wpAnyF_take (i := 17) (oi := { dst := some 86, op := Go.Op.fieldAddr 71 (Go.Operand.tmp 85) 0, type := 0, pos := "ref.go:111", after := #[{ on := 16, ground := Go.Ground.data }, { on := 0, ground := Go.Ground.phase }, { on := 1, ground := Go.Ground.phase }, { on := 2, ground := Go.Ground.phase }, { on := 3, ground := Go.Ground.phase }, { on := 4, ground := Go.Ground.phase }, { on := 5, ground := Go.Ground.phase }, { on := 6, ground := Go.Ground.phase }, { on := 7, ground := Go.Ground.phase }, { on := 8, ground := Go.Ground.phase }, { on := 9, ground := Go.Ground.phase }, { on := 10, ground := Go.Ground.phase }, { on := 11, ground := Go.Ground.phase }, { on := 12, ground := Go.Ground.phase }, { on := 13, ground := Go.Ground.phase }, { on := 14, ground := Go.Ground.phase }, { on := 15, ground := Go.Ground.phase }], guard := none }) (v := ?v2_17) hNW (by decide) rfl (by kernel_rfl) (by kernel_rfl) (by kernel_rfl) (by kernel_rfl) (fun _ _ _ h => h) (Or.inl ⟨by kernel_rfl, ?h2_17⟩) (by assumption) ?r2_17
    case h2_17 => (intro wt hSw; (try dsimp only at hSw); go_simp; try with_reducible rfl)
    simp only [Act.put, List.setIfInBounds_toArray, List.set_cons_zero, List.set_cons_succ]
    refine wpAnyF_take (i := 18) (oi := { dst := some 87, op := Go.Op.fieldAddr 44 (Go.Operand.tmp 86) 3, type := 0, pos := "ref.go:111", after := #[{ on := 17, ground := Go.Ground.data }, { on := 0, ground := Go.Ground.phase }, { on := 1, ground := Go.Ground.phase }, { on := 2, ground := Go.Ground.phase }, { on := 3, ground := Go.Ground.phase }, { on := 4, ground := Go.Ground.phase }, { on := 5, ground := Go.Ground.phase }, { on := 6, ground := Go.Ground.phase }, { on := 7, ground := Go.Ground.phase }, { on := 8, ground := Go.Ground.phase }, { on := 9, ground := Go.Ground.phase }, { on := 10, ground := Go.Ground.phase }, { on := 11, ground := Go.Ground.phase }, { on := 12, ground := Go.Ground.phase }, { on := 13, ground := Go.Ground.phase }, { on := 14, ground := Go.Ground.phase }, { on := 15, ground := Go.Ground.phase }], guard := none }) (v := ?v2_18) hNW (by decide) rfl (by kernel_rfl) (by kernel_rfl) (by kernel_rfl) (by kernel_rfl) (fun _ _ _ h => h) (Or.inl ⟨by kernel_rfl, ?h2_18⟩) (by assumption) ?r2_18
    case h2_18 => (intro wt hSw; (try dsimp only at hSw); go_simp; try with_reducible rfl)
    simp only [Act.put, List.setIfInBounds_toArray, List.set_cons_zero, List.set_cons_succ]
    refine wpAnyF_one (i := 19) (o := { dst := none, op := Go.Op.store 3 (Go.Operand.tmp 87) (Go.Operand.tmp 84), type := 0, pos := "ref.go:111", after := #[{ on := 18, ground := Go.Ground.data }, { on := 15, ground := Go.Ground.data }, { on := 0, ground := Go.Ground.phase }, { on := 1, ground := Go.Ground.phase }, { on := 2, ground := Go.Ground.phase }, { on := 3, ground := Go.Ground.phase }, { on := 4, ground := Go.Ground.phase }, { on := 5, ground := Go.Ground.phase }, { on := 6, ground := Go.Ground.phase }, { on := 7, ground := Go.Ground.phase }, { on := 8, ground := Go.Ground.phase }, { on := 9, ground := Go.Ground.phase }, { on := 10, ground := Go.Ground.phase }, { on := 11, ground := Go.Ground.phase }, { on := 12, ground := Go.Ground.phase }, { on := 13, ground := Go.Ground.phase }, { on := 14, ground := Go.Ground.phase }, { on := 15, ground := Go.Ground.phase }], guard := none }) rfl rfl (by kernel_rfl) ?_
    refine step_store3 (b := g) (k := m * 6 + 3) (z := n) rfl rfl rfl p3 pf3 ?_
    refine ⟨fun h => absurd rfl h, ?_⟩
    simp only [Act.put]
    refine wpAnyF_done (by kernel_rfl) ?_ _
    clear hNW hHeld
    go_wp2
    go_ret
    rw [Int.zero_add] at HM
    exact ⟨rfl, _, HM.out.drewN 1⟩
  · rw [if_neg hz]
    generalize x.wt = D at *
    clear HM a1 a2 e0 b1 b2 fb g0 p1 p3 pf3 hW HRUN hbs
    have hz2 : (D == 0) = false := by simpa using hz
    go_enter Try.func29, Try.ntmps29
    go_upto_region 8 with (go_at_call 36; refine hP.mono ?_; rintro e w' ⟨rfl, rfl⟩)
    refine wp_region_last (S := fun w' => w'.cell? ⟨r, 1, none⟩ = some (.slice (some ⟨g, 0, none⟩) N cap) ∧ w'.cell? ⟨g, m * 6 + 3, none⟩ = some (.int .i64 D)) (N := 19) (by kernel_rfl) (by kernel_rfl) fun hNW => ?_
    have hHeld := (show (fun w' => w'.cell? ⟨r, 1, none⟩ = some (.slice (some ⟨g, 0, none⟩) N cap) ∧ w'.cell? ⟨g, m * 6 + 3, none⟩ = some (.int .i64 D)) w'.drew from ⟨c1, d3⟩)
    refine wpAnyF_take (i := 0) (oi := { dst := some 69, op := Go.Op.move (Go.Operand.tmp 0), type := 47, pos := "ref.go:111", after := #[], guard := none }) (v := ?v3_0) hNW (by decide) rfl (by kernel_rfl) (by kernel_rfl) (by kernel_rfl) (by kernel_rfl) (fun _ _ _ h => h) (Or.inl ⟨by kernel_rfl, ?h3_0⟩) (by assumption) ?r3_0
    case h3_0 => (intro wt hSw; (try dsimp only at hSw); go_simp; try with_reducible rfl)
    simp only [Act.put, List.setIfInBounds_toArray, List.set_cons_zero, List.set_cons_succ]
    refine wpAnyF_take (i := 1) (oi := { dst := some 70, op := Go.Op.nilCheck (Go.Operand.tmp 69), type := 0, pos := "ref.go:111", after := #[{ on := 0, ground := Go.Ground.data }], guard := none }) (v := ?v3_1) hNW (by decide) rfl (by kernel_rfl) (by kernel_rfl) (by kernel_rfl) (by kernel_rfl) (fun _ _ _ h => h) (Or.inl ⟨by kernel_rfl, ?h3_1⟩) (by assumption) ?r3_1
    case h3_1 => (intro wt hSw; (try dsimp only at hSw); go_simp; try with_reducible rfl)
    simp only [Act.put, List.setIfInBounds_toArray, List.set_cons_zero, List.set_cons_succ]
    refine wpAnyF_take (i := 2) (oi := { dst := some 71, op := Go.Op.fieldAddr 66 (Go.Operand.tmp 70) 1, type := 0, pos := "ref.go:111", after := #[{ on := 1, ground := Go.Ground.data }], guard := none }) (v := ?v3_2) hNW (by decide) rfl (by kernel_rfl) (by kernel_rfl) (by kernel_rfl) (by kernel_rfl) (fun _ _ _ h => h) (Or.inl ⟨by kernel_rfl, ?h3_2⟩) (by assumption) ?r3_2
    case h3_2 => (intro wt hSw; (try dsimp only at hSw); go_simp; try with_reducible rfl)
    simp only [Act.put, List.setIfInBounds_toArray, List.set_cons_zero, List.set_cons_succ]
    refine wpAnyF_take (i := 3) (oi := { dst := some 72, op := Go.Op.load 64 (Go.Operand.tmp 71), type := 64, pos := "ref.go:111", after := #[{ on := 2, ground := Go.Ground.data }], guard := none }) (v := ?v3_3) hNW (by decide) rfl (by kernel_rfl) (by kernel_rfl) (by kernel_rfl) (by kernel_rfl) (fun _ _ _ h => h) (Or.inl ⟨by kernel_rfl, ?h3_3⟩) (by assumption) ?r3_3
    case h3_3 => (intro wt hSw; (try dsimp only at hSw); go_simp; try with_reducible rfl)
    simp only [Act.put, List.setIfInBounds_toArray, List.set_cons_zero, List.set_cons_succ]
    refine wpAnyF_take (i := 4) (oi := { dst := some 73, op := Go.Op.move (Go.Operand.tmp 7), type := 3, pos := "ref.go:111", after := #[], guard := none }) (v := ?v3_4) hNW (by decide) rfl (by kernel_rfl) (by kernel_rfl) (by kernel_rfl) (by kernel_rfl) (fun _ _ _ h => h) (Or.inl ⟨by kernel_rfl, ?h3_4⟩) (by assumption) ?r3_4
    case h3_4 => (intro wt hSw; (try dsimp only at hSw); go_simp; try with_reducible rfl)
    simp only [Act.put, List.setIfInBounds_toArray, List.set_cons_zero, List.set_cons_succ]
    refine wpAnyF_take (i := 5) (oi := { dst := some 74, op := Go.Op.move (Go.Operand.tmp 0), type := 47, pos := "ref.go:111", after := #[], guard := none }) (v := ?v3_5) hNW (by decide) rfl (by kernel_rfl) (by kernel_rfl) (by kernel_rfl) (by kernel_rfl) (fun _ _ _ h => h) (Or.inl ⟨by kernel_rfl, ?h3_5⟩) (by assumption) ?r3_5
    case h3_5 => (intro wt hSw; (try dsimp only at hSw); go_simp; try with_reducible rfl)
    simp only [Act.put, List.setIfInBounds_toArray, List.set_cons_zero, List.set_cons_succ]
    refine wpAnyF_take (i := 6) (oi := { dst := some 75, op := Go.Op.nilCheck (Go.Operand.tmp 74), type := 0, pos := "ref.go:111", after := #[{ on := 5, ground := Go.Ground.data }], guard := none }) (v := ?v3_6) hNW (by decide) rfl (by kernel_rfl) (by kernel_rfl) (by kernel_rfl) (by kernel_rfl) (fun _ _ _ h => h) (Or.inl ⟨by kernel_rfl, ?h3_6⟩) (by assumption) ?r3_6
    case h3_6 => (intro wt hSw; (try dsimp only at hSw); go_simp; try with_reducible rfl)
    simp only [Act.put, List.setIfInBounds_toArray, List.set_cons_zero, List.set_cons_succ]
    refine wpAnyF_take (i := 7) (oi := { dst := some 76, op := Go.Op.fieldAddr 66 (Go.Operand.tmp 75) 1, type := 0, pos := "ref.go:111", after := #[{ on := 6, ground := Go.Ground.data }], guard := none }) (v := ?v3_7) hNW (by decide) rfl (by kernel_rfl) (by kernel_rfl) (by kernel_rfl) (by kernel_rfl) (fun _ _ _ h => h) (Or.inl ⟨by kernel_rfl, ?h3_7⟩) (by assumption) ?r3_7
    case h3_7 => (intro wt hSw; (try dsimp only at hSw); go_simp; try with_reducible rfl)
    simp only [Act.put, List.setIfInBounds_toArray, List.set_cons_zero, List.set_cons_succ]
    refine wpAnyF_take (i := 8) (oi := { dst := some 77, op := Go.Op.load 64 (Go.Operand.tmp 76), type := 64, pos := "ref.go:111", after := #[{ on := 7, ground := Go.Ground.data }], guard := none }) (v := ?v3_8) hNW (by decide) rfl (by kernel_rfl) (by kernel_rfl) (by kernel_rfl) (by kernel_rfl) (fun _ _ _ h => h) (Or.inl ⟨by kernel_rfl, ?h3_8⟩) (by assumption) ?r3_8
    case h3_8 => (intro wt hSw; (try dsimp only at hSw); go_simp; try with_reducible rfl)
    simp only [Act.put, List.setIfInBounds_toArray, List.set_cons_zero, List.set_cons_succ]
    refine wpAnyF_take (i := 9) (oi := { dst := some 78, op := Go.Op.move (Go.Operand.tmp 7), type := 3, pos := "ref.go:111", after := #[], guard := none }) (v := ?v3_9) hNW (by decide) rfl (by kernel_rfl) (by kernel_rfl) (by kernel_rfl) (by kernel_rfl) (fun _ _ _ h => h) (Or.inl ⟨by kernel_rfl, ?h3_9⟩) (by assumption) ?r3_9
    case h3_9 => (intro wt hSw; (try dsimp only at hSw); go_simp; try with_reducible rfl)
    simp only [Act.put, List.setIfInBounds_toArray, List.set_cons_zero, List.set_cons_succ]
    refine wpAnyF_take (i := 10) (oi := { dst := some 79, op := Go.Op.indexAddr 64 (Go.Operand.tmp 77) (Go.Operand.tmp 78), type := 0, pos := "ref.go:111", after := #[{ on := 8, ground := Go.Ground.data }, { on := 9, ground := Go.Ground.data }], guard := none }) (v := ?v3_10) hNW (by decide) rfl (by kernel_rfl) (by kernel_rfl) (by kernel_rfl) (by kernel_rfl) (fun _ _ _ h => h) (Or.inl ⟨by kernel_rfl, ?h3_10⟩) (by assumption) ?r3_10
    case h3_10 => (intro wt hSw; (try dsimp only at hSw); go_simp; try with_reducible rfl)
    simp only [Act.put, List.setIfInBounds_toArray, List.set_cons_zero, List.set_cons_succ]
    refine wpAnyF_take (i := 11) (oi := { dst := some 80, op := Go.Op.fieldAddr 71 (Go.Operand.tmp 79) 0, type := 0, pos := "ref.go:111", after := #[{ on := 10, ground := Go.Ground.data }], guard := none }) (v := ?v3_11) hNW (by decide) rfl (by kernel_rfl) (by kernel_rfl) (by kernel_rfl) (by kernel_rfl) (fun _ _ _ h => h) (Or.inl ⟨by kernel_rfl, ?h3_11⟩) (by assumption) ?r3_11
    case h3_11 => (intro wt hSw; (try dsimp only at hSw); go_simp; try with_reducible rfl)
    simp only [Act.put, List.setIfInBounds_toArray, List.set_cons_zero, List.set_cons_succ]
    refine wpAnyF_take (i := 12) (oi := { dst := some 81, op := Go.Op.fieldAddr 44 (Go.Operand.tmp 80) 3, type := 0, pos := "ref.go:111", after := #[{ on := 11, ground := Go.Ground.data }], guard := none }) (v := ?v3_12) hNW (by decide) rfl (by kernel_rfl) (by kernel_rfl) (by kernel_rfl) (by kernel_rfl) (fun _ _ _ h => h) (Or.inl ⟨by kernel_rfl, ?h3_12⟩) (by assumption) ?r3_12
    case h3_12 => (intro wt hSw; (try dsimp only at hSw); go_simp; try with_reducible rfl)
    simp only [Act.put, List.setIfInBounds_toArray, List.set_cons_zero, List.set_cons_succ]
    refine wpAnyF_take (i := 13) (oi := { dst := some 82, op := Go.Op.load 3 (Go.Operand.tmp 81), type := 3, pos := "ref.go:111", after := #[{ on := 12, ground := Go.Ground.data }], guard := none }) (v := ?v3_13) hNW (by decide) rfl (by kernel_rfl) (by kernel_rfl) (by kernel_rfl) (by kernel_rfl) (fun _ _ _ h => h) (Or.inl ⟨by kernel_rfl, ?h3_13⟩) (by assumption) ?r3_13
    case h3_13 => (intro wt hSw; (try dsimp only at hSw); go_simp; try with_reducible rfl)
    simp only [Act.put, List.setIfInBounds_toArray, List.set_cons_zero, List.set_cons_succ]
    refine wpAnyF_take (i := 14) (oi := { dst := some 83, op := Go.Op.move (Go.Operand.tmp 2), type := 3, pos := "ref.go:111", after := #[], guard := none }) (v := ?v3_14) hNW (by decide) rfl (by kernel_rfl) (by kernel_rfl) (by kernel_rfl) (by kernel_rfl) (fun _ _ _ h => h) (Or.inl ⟨by kernel_rfl, ?h3_14⟩) (by assumption) ?r3_14
    case h3_14 => (intro wt hSw; (try dsimp only at hSw); go_simp; try with_reducible rfl)
    simp only [Act.put, List.setIfInBounds_toArray, List.set_cons_zero, List.set_cons_succ]
    refine wpAnyF_take (i := 15) (oi := { dst := some 84, op := Go.Op.binOp Go.BinOp.add 3 (Go.Operand.tmp 82) (Go.Operand.tmp 83) 3, type := 3, pos := "ref.go:111", after := #[{ on := 13, ground := Go.Ground.data }, { on := 14, ground := Go.Ground.data }], guard := none }) (v := .int .i64 (D + n)) hNW (by decide) rfl (by kernel_rfl) (by kernel_rfl) (by kernel_rfl) (by kernel_rfl) (fun _ _ _ h => h) (Or.inl ⟨by kernel_rfl, ?h3_15⟩) (by assumption) ?r3_15
    case h3_15 => (intro wt hSw; (try dsimp only at hSw); go_simp; rw [IntKind.wrap_i64]; omega)
    simp only [Act.put, List.setIfInBounds_toArray, List.set_cons_zero, List.set_cons_succ]
    refine wpAnyF_take (i := 16) (oi := { dst := some 85, op := Go.Op.indexAddr 64 (Go.Operand.tmp 72) (Go.Operand.tmp 73), type := 0, pos := "ref.go:111", after := #[{ on := 3, ground := Go.Ground.data }, { on := 4, ground := Go.Ground.data }, { on := 0, ground := Go.Ground.phase }, { on := 1, ground := Go.Ground.phase }, { on := 2, ground := Go.Ground.phase }, { on := 3, ground := Go.Ground.phase }, { on := 4, ground := Go.Ground.phase }, { on := 5, ground := Go.Ground.phase }, { on := 6, ground := Go.Ground.phase }, { on := 7, ground := Go.Ground.phase }, { on := 8, ground := Go.Ground.phase }, { on := 9, ground := Go.Ground.phase }, { on := 10, ground := Go.Ground.phase }, { on := 11, ground := Go.Ground.phase }, { on := 12, ground := Go.Ground.phase }, { on := 13, ground := Go.Ground.phase }, { on := 14, ground := Go.Ground.phase }, { on := 15, ground := Go.Ground.phase }], guard := none }) (v := ?v3_16) hNW (by decide) rfl (by kernel_rfl) (by kernel_rfl) (by kernel_rfl) (by kernel_rfl) (fun _ _ _ h => h) (Or.inl ⟨by kernel_rfl, ?h3_16⟩) (by assumption) ?r3_16
    case h3_16 => (intro wt hSw; (try dsimp only at hSw); go_simp; try with_reducible rfl)
    simp only [Act.put, List.setIfInBounds_toArray, List.set_cons_zero, List.set_cons_succ]
    refine wpAnyF_take (i := 17) (oi := { dst := some 86, op := Go.Op.fieldAddr 71 (Go.Operand.tmp 85) 0, type := 0, pos := "ref.go:111", after := #[{ on := 16, ground := Go.Ground.data }, { on := 0, ground := Go.Ground.phase }, { on := 1, ground := Go.Ground.phase }, { on := 2, ground := Go.Ground.phase }, { on := 3, ground := Go.Ground.phase }, { on := 4, ground := Go.Ground.phase }, { on := 5, ground := Go.Ground.phase }, { on := 6, ground := Go.Ground.phase }, { on := 7, ground := Go.Ground.phase }, { on := 8, ground := Go.Ground.phase }, { on := 9, ground := Go.Ground.phase }, { on := 10, ground := Go.Ground.phase }, { on := 11, ground := Go.Ground.phase }, { on := 12, ground := Go.Ground.phase }, { on := 13, ground := Go.Ground.phase }, { on := 14, ground := Go.Ground.phase }, { on := 15, ground := Go.Ground.phase }], guard := none }) (v := ?v3_17) hNW (by decide) rfl (by kernel_rfl) (by kernel_rfl) (by kernel_rfl) (by kernel_rfl) (fun _ _ _ h => h) (Or.inl ⟨by kernel_rfl, ?h3_17⟩) (by assumption) ?r3_17
    case h3_17 => (intro wt hSw; (try dsimp only at hSw); go_simp; try with_reducible rfl)
    simp only [Act.put, List.setIfInBounds_toArray, List.set_cons_zero, List.set_cons_succ]
    refine wpAnyF_take (i := 18) (oi := { dst := some 87, op := Go.Op.fieldAddr 44 (Go.Operand.tmp 86) 3, type := 0, pos := "ref.go:111", after := #[{ on := 17, ground := Go.Ground.data }, { on := 0, ground := Go.Ground.phase }, { on := 1, ground := Go.Ground.phase }, { on := 2, ground := Go.Ground.phase }, { on := 3, ground := Go.Ground.phase }, { on := 4, ground := Go.Ground.phase }, { on := 5, ground := Go.Ground.phase }, { on := 6, ground := Go.Ground.phase }, { on := 7, ground := Go.Ground.phase }, { on := 8, ground := Go.Ground.phase }, { on := 9, ground := Go.Ground.phase }, { on := 10, ground := Go.Ground.phase }, { on := 11, ground := Go.Ground.phase }, { on := 12, ground := Go.Ground.phase }, { on := 13, ground := Go.Ground.phase }, { on := 14, ground := Go.Ground.phase }, { on := 15, ground := Go.Ground.phase }], guard := none }) (v := ?v3_18) hNW (by decide) rfl (by kernel_rfl) (by kernel_rfl) (by kernel_rfl) (by kernel_rfl) (fun _ _ _ h => h) (Or.inl ⟨by kernel_rfl, ?h3_18⟩) (by assumption) ?r3_18
    case h3_18 => (intro wt hSw; (try dsimp only at hSw); go_simp; try with_reducible rfl)
    simp only [Act.put, List.setIfInBounds_toArray, List.set_cons_zero, List.set_cons_succ]
    refine wpAnyF_one (i := 19) (o := { dst := none, op := Go.Op.store 3 (Go.Operand.tmp 87) (Go.Operand.tmp 84), type := 0, pos := "ref.go:111", after := #[{ on := 18, ground := Go.Ground.data }, { on := 15, ground := Go.Ground.data }, { on := 0, ground := Go.Ground.phase }, { on := 1, ground := Go.Ground.phase }, { on := 2, ground := Go.Ground.phase }, { on := 3, ground := Go.Ground.phase }, { on := 4, ground := Go.Ground.phase }, { on := 5, ground := Go.Ground.phase }, { on := 6, ground := Go.Ground.phase }, { on := 7, ground := Go.Ground.phase }, { on := 8, ground := Go.Ground.phase }, { on := 9, ground := Go.Ground.phase }, { on := 10, ground := Go.Ground.phase }, { on := 11, ground := Go.Ground.phase }, { on := 12, ground := Go.Ground.phase }, { on := 13, ground := Go.Ground.phase }, { on := 14, ground := Go.Ground.phase }, { on := 15, ground := Go.Ground.phase }], guard := none }) rfl rfl (by kernel_rfl) ?_
    refine step_store3 (b := g) (k := m * 6 + 3) (z := D + n) rfl rfl rfl d3 f3 ?_
    refine ⟨fun h => absurd rfl h, ?_⟩
    simp only [Act.put]
    refine wpAnyF_done (by kernel_rfl) ?_ _
    clear hNW hHeld
    go_wp2
    go_ret
    exact ⟨rfl, _, HN.out.drewN 1⟩
end Go.Proofs.Ytjeokomocopjhaa
