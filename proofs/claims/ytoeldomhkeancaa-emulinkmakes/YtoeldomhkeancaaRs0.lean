import Derived.Test.YtoeldomhkeancaaNl0
namespace Go.Proofs.Ytoeldomhkeancaa
open Go.RowKit Go.Maps
set_option maxRecDepth 100000

/-- The document's link on which nothing was put. -/
def rlk (r d q : Int) (lv jv : Value) : List Value := [.int .i64 r, .int .i64 d, .int .i64 q, lv, jv, .int .u64 0, .int .u64 0, .int .u64 0, .int .u64 0, .int .u64 0, .int .u64 0, .slice none 0 0]
set_option maxHeartbeats 1000000 in
theorem rwait_none {w : World} {p : Nat} (t : Int) (h : w.cell? ⟨p, 11, none⟩ = some (.slice none 0 0)) : Calls Try.prog 30 #[pt p 0, .int .u64 t] w fun e w' => ∃ v, e = .returned v ∧ (v = .int .i64 0 ∧ w' = w) := by
  go_enter Try.func30, Try.ntmps30
  go_wp2
  go_loopw [5, 6] (fun s i wr => s = .int .i64 0 ∧ i = .int .i64 0 ∧ wr = w) (fun _ _ _ => 0)
  case atStart => exact ⟨by go_num, by go_num, rfl⟩
  case round =>
    obtain ⟨rfl, rfl, rfl⟩ := hrel
    go_wp2
    go_ret
    exact ⟨_, rfl, rfl, rfl⟩
theorem step_alloc30 {o : Oper} {a : Act} {w : World} {K : Act → World → Prop} {Q : Exit → Act → World → Prop} {n : Nat} (hn : w.heap.size = n) (ho : o.op = .alloc 30) (h : K (a.put o.dst (pt n 0)) (w.alloc (.cells stat0.toArray 30))) : Oper.wp Try.prog o a w K Q := by
  have e : (execOp a.eval o).run Try.prog w = .ok (.value (pt w.heap.size 0)) (w.alloc (.cells stat0.toArray 30)) := by
    generalize a.eval = r at *
    simp only [execOp, ho]
    kernel_rfl
  unfold Oper.wp
  rw [e, Oper.upon_value, hn]
  exact h
theorem step_storeA {o : Oper} {a : Act} {w : World} {K : Act → World → Prop} {Q : Exit → Act → World → Prop} {t : TypeId} {x y : Operand} {g : Nat} {c c' : List Value} (R : Row w g c t) (ho : o.op = .store t x y) (hx : a.eval x = .pointer (some ⟨g, 0, none⟩)) (hy : a.eval y = .agg c'.toArray) (hl : c.length = c'.length) (h1 : ∀ v ∈ c', v.oneCell' = true) (hi : (Try.prog.info? t).map (·.size) = some c'.length)
    (h : K (a.put o.dst undef) (w.setRow g c'.toArray)) : Oper.wp Try.prog o a w K Q := by
  have hs := R.store (P := Try.prog) t c' hl h1 hi
  have e : (execOp a.eval o).run Try.prog w = .ok .skip (w.setRow g c'.toArray) := by
    generalize a.eval = r at *
    simp [execOp, ho, hx, hy, hs]
  unfold Oper.wp
  rw [e]
  exact h
theorem stat0_one' : ∀ u ∈ stat0, u.oneCell' = true := by
  intro u hu
  simp only [stat0, List.mem_cons, List.not_mem_nil, or_false] at hu
  rcases hu with rfl | rfl | rfl | rfl | rfl | rfl | rfl | rfl <;> rfl
set_option maxHeartbeats 4000000 in
theorem rstat_none {w : World} {p : Nat} {r d q : Int} {lv jv : Value} (hR : Row w p (rlk r d q lv jv) 82) : Calls Try.prog 18 #[pt p 0] w fun e w' => e = .returned (.agg stat0.toArray) ∧ Below w.heap.size w w' := by
  have hb1 := below_new w (.cells stat0.toArray 30)
  have R2 := Row.new w stat0 30
  have R1 := hR.alloc (.cells stat0.toArray 30)
  have hpl := hR.lt
  have HN : Hid (∀ w', Row w' p (rlk r d q lv jv) 82 → Calls Try.prog 30 #[pt p 0, .int .u64 0] w' fun e w'' => ∃ v, e = .returned v ∧ (v = .int .i64 0 ∧ w'' = w')) := fun w' h => rwait_none 0 (h.cell 11 _ rfl)
  clear hR
  go_enter Try.func18, Try.ntmps18
  go_upto_region 1 with fail
  change Row (w.alloc (.cells #[.int .u64 0, .int .u64 0, .int .u64 0, .int .u64 0, .int .u64 0, .int .u64 0, .int .i64 0, .int .i64 0] 30)) w.heap.size stat0 30 at R2
  change Row (w.alloc (.cells #[.int .u64 0, .int .u64 0, .int .u64 0, .int .u64 0, .int .u64 0, .int .u64 0, .int .i64 0, .int .i64 0] 30)) p _ 82 at R1
  change Below _ _ (w.alloc (.cells #[.int .u64 0, .int .u64 0, .int .u64 0, .int .u64 0, .int .u64 0, .int .u64 0, .int .i64 0, .int .i64 0] 30)) at hb1
  revert hb1 R2 R1
  generalize w.alloc (.cells #[.int .u64 0, .int .u64 0, .int .u64 0, .int .u64 0, .int .u64 0, .int .u64 0, .int .i64 0, .int .i64 0] 30) = w1
  intro R2 R1 hb1
  obtain ⟨b, hb⟩ : ∃ b, w.heap.size = b := ⟨_, rfl⟩
  rw [hb] at R2 hpl ⊢
  obtain ⟨B, hB⟩ : ∃ B, w1.heap.size = B := ⟨_, rfl⟩
  have hbB : b < B := by rw [← hB]; exact R2.lt
  have hpB : p < B := by rw [← hB]; exact R1.lt
  have HRN : Hid (Row (w1.drew.alloc (.cells stat0.toArray 30)) B stat0 30) := by show Row _ _ _ _; rw [← hB]; exact Row.new w1.drew stat0 30
  have HB0 := hid hB
  have HR2 := hid R2
  have HB1 := hid hb1
  have HBB := hid hb
  have hso := stat0_one'
  clear R2 hb1 hb hB
  refine wp_region_some (fun w' => Row w' p (rlk r d q lv jv) 82) [32] (by kernel_rfl) ?_
  have hHeld := (show (fun w' => Row w' p (rlk r d q lv jv) 82) w1.drew from R1.drew 1)
  refine wpAnyG_take' (i := 0) (oi := { dst := some 5, op := Go.Op.move (Go.Operand.tmp 0), type := 61, pos := "link.go:174", after := #[], guard := none }) (v := ?v1_0_1) rfl (by kernel_rfl) (by kernel_rfl) (by kernel_rfl) (fun _ _ _ h => h) (Or.inl ⟨by kernel_rfl, ?h1_0_1⟩) ?r1_0_1
  case h1_0_1 => (intro wt hSw; clear hSw; go_simp; try with_reducible rfl)
  simp only [Act.put, List.setIfInBounds_toArray, List.set_cons_zero, List.set_cons_succ]
  refine wpAnyG_take' (i := 1) (oi := { dst := some 6, op := Go.Op.nilCheck (Go.Operand.tmp 5), type := 0, pos := "link.go:174", after := #[{ on := 0, ground := Go.Ground.data }], guard := none }) (v := ?v1_1_2) rfl (by kernel_rfl) (by kernel_rfl) (by kernel_rfl) (fun _ _ _ h => h) (Or.inl ⟨by kernel_rfl, ?h1_1_2⟩) ?r1_1_2
  case h1_1_2 => (intro wt hSw; clear hSw; go_simp; try with_reducible rfl)
  simp only [Act.put, List.setIfInBounds_toArray, List.set_cons_zero, List.set_cons_succ]
  refine wpAnyG_take' (i := 2) (oi := { dst := some 7, op := Go.Op.fieldAddr 82 (Go.Operand.tmp 6) 1, type := 0, pos := "link.go:174", after := #[{ on := 1, ground := Go.Ground.data }], guard := none }) (v := ?v1_2_3) rfl (by kernel_rfl) (by kernel_rfl) (by kernel_rfl) (fun _ _ _ h => h) (Or.inl ⟨by kernel_rfl, ?h1_2_3⟩) ?r1_2_3
  case h1_2_3 => (intro wt hSw; clear hSw; go_simp; try with_reducible rfl)
  simp only [Act.put, List.setIfInBounds_toArray, List.set_cons_zero, List.set_cons_succ]
  refine wpAnyG_take (i := 3) (oi := { dst := some 8, op := Go.Op.load 22 (Go.Operand.tmp 7), type := 22, pos := "link.go:174", after := #[{ on := 2, ground := Go.Ground.data }], guard := none }) (v := ?v1_3_4) (by kernel_rfl) rfl (by kernel_rfl) (by kernel_rfl) (by kernel_rfl) (by kernel_rfl) (fun _ _ _ h => h) (Or.inl ⟨by kernel_rfl, ?h1_3_4⟩) (by assumption) ?r1_3_4
  case h1_3_4 => (intro wt hSw; (try dsimp only at hSw); have c5 := hSw.cell 5 _ rfl; have c6 := hSw.cell 6 _ rfl; have c7 := hSw.cell 7 _ rfl; have c8 := hSw.cell 8 _ rfl; have c9 := hSw.cell 9 _ rfl; have c10 := hSw.cell 10 _ rfl; clear hSw; go_simp; try rfl)
  simp only [Act.put, List.setIfInBounds_toArray, List.set_cons_zero, List.set_cons_succ]
  refine wpAnyG_take' (i := 4) (oi := { dst := some 9, op := Go.Op.move (Go.Operand.tmp 0), type := 61, pos := "link.go:174", after := #[], guard := none }) (v := ?v1_4_5) rfl (by kernel_rfl) (by kernel_rfl) (by kernel_rfl) (fun _ _ _ h => h) (Or.inl ⟨by kernel_rfl, ?h1_4_5⟩) ?r1_4_5
  case h1_4_5 => (intro wt hSw; clear hSw; go_simp; try with_reducible rfl)
  simp only [Act.put, List.setIfInBounds_toArray, List.set_cons_zero, List.set_cons_succ]
  refine wpAnyG_take' (i := 5) (oi := { dst := some 10, op := Go.Op.nilCheck (Go.Operand.tmp 9), type := 0, pos := "link.go:174", after := #[{ on := 4, ground := Go.Ground.data }], guard := none }) (v := ?v1_5_6) rfl (by kernel_rfl) (by kernel_rfl) (by kernel_rfl) (fun _ _ _ h => h) (Or.inl ⟨by kernel_rfl, ?h1_5_6⟩) ?r1_5_6
  case h1_5_6 => (intro wt hSw; clear hSw; go_simp; try with_reducible rfl)
  simp only [Act.put, List.setIfInBounds_toArray, List.set_cons_zero, List.set_cons_succ]
  refine wpAnyG_take' (i := 6) (oi := { dst := some 11, op := Go.Op.fieldAddr 82 (Go.Operand.tmp 10) 2, type := 0, pos := "link.go:174", after := #[{ on := 5, ground := Go.Ground.data }], guard := none }) (v := ?v1_6_7) rfl (by kernel_rfl) (by kernel_rfl) (by kernel_rfl) (fun _ _ _ h => h) (Or.inl ⟨by kernel_rfl, ?h1_6_7⟩) ?r1_6_7
  case h1_6_7 => (intro wt hSw; clear hSw; go_simp; try with_reducible rfl)
  simp only [Act.put, List.setIfInBounds_toArray, List.set_cons_zero, List.set_cons_succ]
  refine wpAnyG_take (i := 7) (oi := { dst := some 12, op := Go.Op.load 22 (Go.Operand.tmp 11), type := 22, pos := "link.go:174", after := #[{ on := 6, ground := Go.Ground.data }], guard := none }) (v := ?v1_7_8) (by kernel_rfl) rfl (by kernel_rfl) (by kernel_rfl) (by kernel_rfl) (by kernel_rfl) (fun _ _ _ h => h) (Or.inl ⟨by kernel_rfl, ?h1_7_8⟩) (by assumption) ?r1_7_8
  case h1_7_8 => (intro wt hSw; (try dsimp only at hSw); have c5 := hSw.cell 5 _ rfl; have c6 := hSw.cell 6 _ rfl; have c7 := hSw.cell 7 _ rfl; have c8 := hSw.cell 8 _ rfl; have c9 := hSw.cell 9 _ rfl; have c10 := hSw.cell 10 _ rfl; clear hSw; go_simp; try rfl)
  simp only [Act.put, List.setIfInBounds_toArray, List.set_cons_zero, List.set_cons_succ]
  refine wpAnyG_take' (i := 8) (oi := { dst := some 13, op := Go.Op.move (Go.Operand.tmp 0), type := 61, pos := "link.go:174", after := #[], guard := none }) (v := ?v1_8_9) rfl (by kernel_rfl) (by kernel_rfl) (by kernel_rfl) (fun _ _ _ h => h) (Or.inl ⟨by kernel_rfl, ?h1_8_9⟩) ?r1_8_9
  case h1_8_9 => (intro wt hSw; clear hSw; go_simp; try with_reducible rfl)
  simp only [Act.put, List.setIfInBounds_toArray, List.set_cons_zero, List.set_cons_succ]
  refine wpAnyG_take' (i := 9) (oi := { dst := some 14, op := Go.Op.nilCheck (Go.Operand.tmp 13), type := 0, pos := "link.go:174", after := #[{ on := 8, ground := Go.Ground.data }], guard := none }) (v := ?v1_9_10) rfl (by kernel_rfl) (by kernel_rfl) (by kernel_rfl) (fun _ _ _ h => h) (Or.inl ⟨by kernel_rfl, ?h1_9_10⟩) ?r1_9_10
  case h1_9_10 => (intro wt hSw; clear hSw; go_simp; try with_reducible rfl)
  simp only [Act.put, List.setIfInBounds_toArray, List.set_cons_zero, List.set_cons_succ]
  refine wpAnyG_take' (i := 10) (oi := { dst := some 15, op := Go.Op.fieldAddr 82 (Go.Operand.tmp 14) 3, type := 0, pos := "link.go:174", after := #[{ on := 9, ground := Go.Ground.data }], guard := none }) (v := ?v1_10_11) rfl (by kernel_rfl) (by kernel_rfl) (by kernel_rfl) (fun _ _ _ h => h) (Or.inl ⟨by kernel_rfl, ?h1_10_11⟩) ?r1_10_11
  case h1_10_11 => (intro wt hSw; clear hSw; go_simp; try with_reducible rfl)
  simp only [Act.put, List.setIfInBounds_toArray, List.set_cons_zero, List.set_cons_succ]
  refine wpAnyG_take (i := 11) (oi := { dst := some 16, op := Go.Op.load 22 (Go.Operand.tmp 15), type := 22, pos := "link.go:174", after := #[{ on := 10, ground := Go.Ground.data }], guard := none }) (v := ?v1_11_12) (by kernel_rfl) rfl (by kernel_rfl) (by kernel_rfl) (by kernel_rfl) (by kernel_rfl) (fun _ _ _ h => h) (Or.inl ⟨by kernel_rfl, ?h1_11_12⟩) (by assumption) ?r1_11_12
  case h1_11_12 => (intro wt hSw; (try dsimp only at hSw); have c5 := hSw.cell 5 _ rfl; have c6 := hSw.cell 6 _ rfl; have c7 := hSw.cell 7 _ rfl; have c8 := hSw.cell 8 _ rfl; have c9 := hSw.cell 9 _ rfl; have c10 := hSw.cell 10 _ rfl; clear hSw; go_simp; try rfl)
  simp only [Act.put, List.setIfInBounds_toArray, List.set_cons_zero, List.set_cons_succ]
  refine wpAnyG_take' (i := 12) (oi := { dst := some 17, op := Go.Op.move (Go.Operand.tmp 0), type := 61, pos := "link.go:174", after := #[], guard := none }) (v := ?v1_12_13) rfl (by kernel_rfl) (by kernel_rfl) (by kernel_rfl) (fun _ _ _ h => h) (Or.inl ⟨by kernel_rfl, ?h1_12_13⟩) ?r1_12_13
  case h1_12_13 => (intro wt hSw; clear hSw; go_simp; try with_reducible rfl)
  simp only [Act.put, List.setIfInBounds_toArray, List.set_cons_zero, List.set_cons_succ]
  refine wpAnyG_take' (i := 13) (oi := { dst := some 18, op := Go.Op.nilCheck (Go.Operand.tmp 17), type := 0, pos := "link.go:174", after := #[{ on := 12, ground := Go.Ground.data }], guard := none }) (v := ?v1_13_14) rfl (by kernel_rfl) (by kernel_rfl) (by kernel_rfl) (fun _ _ _ h => h) (Or.inl ⟨by kernel_rfl, ?h1_13_14⟩) ?r1_13_14
  case h1_13_14 => (intro wt hSw; clear hSw; go_simp; try with_reducible rfl)
  simp only [Act.put, List.setIfInBounds_toArray, List.set_cons_zero, List.set_cons_succ]
  refine wpAnyG_take' (i := 14) (oi := { dst := some 19, op := Go.Op.fieldAddr 82 (Go.Operand.tmp 18) 4, type := 0, pos := "link.go:174", after := #[{ on := 13, ground := Go.Ground.data }], guard := none }) (v := ?v1_14_15) rfl (by kernel_rfl) (by kernel_rfl) (by kernel_rfl) (fun _ _ _ h => h) (Or.inl ⟨by kernel_rfl, ?h1_14_15⟩) ?r1_14_15
  case h1_14_15 => (intro wt hSw; clear hSw; go_simp; try with_reducible rfl)
  simp only [Act.put, List.setIfInBounds_toArray, List.set_cons_zero, List.set_cons_succ]
  refine wpAnyG_take (i := 15) (oi := { dst := some 20, op := Go.Op.load 22 (Go.Operand.tmp 19), type := 22, pos := "link.go:174", after := #[{ on := 14, ground := Go.Ground.data }], guard := none }) (v := ?v1_15_16) (by kernel_rfl) rfl (by kernel_rfl) (by kernel_rfl) (by kernel_rfl) (by kernel_rfl) (fun _ _ _ h => h) (Or.inl ⟨by kernel_rfl, ?h1_15_16⟩) (by assumption) ?r1_15_16
  case h1_15_16 => (intro wt hSw; (try dsimp only at hSw); have c5 := hSw.cell 5 _ rfl; have c6 := hSw.cell 6 _ rfl; have c7 := hSw.cell 7 _ rfl; have c8 := hSw.cell 8 _ rfl; have c9 := hSw.cell 9 _ rfl; have c10 := hSw.cell 10 _ rfl; clear hSw; go_simp; try rfl)
  simp only [Act.put, List.setIfInBounds_toArray, List.set_cons_zero, List.set_cons_succ]
  refine wpAnyG_take' (i := 16) (oi := { dst := some 21, op := Go.Op.move (Go.Operand.tmp 0), type := 61, pos := "link.go:174", after := #[], guard := none }) (v := ?v1_16_17) rfl (by kernel_rfl) (by kernel_rfl) (by kernel_rfl) (fun _ _ _ h => h) (Or.inl ⟨by kernel_rfl, ?h1_16_17⟩) ?r1_16_17
  case h1_16_17 => (intro wt hSw; clear hSw; go_simp; try with_reducible rfl)
  simp only [Act.put, List.setIfInBounds_toArray, List.set_cons_zero, List.set_cons_succ]
  refine wpAnyG_take' (i := 17) (oi := { dst := some 22, op := Go.Op.nilCheck (Go.Operand.tmp 21), type := 0, pos := "link.go:174", after := #[{ on := 16, ground := Go.Ground.data }], guard := none }) (v := ?v1_17_18) rfl (by kernel_rfl) (by kernel_rfl) (by kernel_rfl) (fun _ _ _ h => h) (Or.inl ⟨by kernel_rfl, ?h1_17_18⟩) ?r1_17_18
  case h1_17_18 => (intro wt hSw; clear hSw; go_simp; try with_reducible rfl)
  simp only [Act.put, List.setIfInBounds_toArray, List.set_cons_zero, List.set_cons_succ]
  refine wpAnyG_take' (i := 18) (oi := { dst := some 23, op := Go.Op.fieldAddr 82 (Go.Operand.tmp 22) 5, type := 0, pos := "link.go:174", after := #[{ on := 17, ground := Go.Ground.data }], guard := none }) (v := ?v1_18_19) rfl (by kernel_rfl) (by kernel_rfl) (by kernel_rfl) (fun _ _ _ h => h) (Or.inl ⟨by kernel_rfl, ?h1_18_19⟩) ?r1_18_19
  case h1_18_19 => (intro wt hSw; clear hSw; go_simp; try with_reducible rfl)
  simp only [Act.put, List.setIfInBounds_toArray, List.set_cons_zero, List.set_cons_succ]
  refine wpAnyG_take (i := 19) (oi := { dst := some 24, op := Go.Op.load 22 (Go.Operand.tmp 23), type := 22, pos := "link.go:174", after := #[{ on := 18, ground := Go.Ground.data }], guard := none }) (v := ?v1_19_20) (by kernel_rfl) rfl (by kernel_rfl) (by kernel_rfl) (by kernel_rfl) (by kernel_rfl) (fun _ _ _ h => h) (Or.inl ⟨by kernel_rfl, ?h1_19_20⟩) (by assumption) ?r1_19_20
  case h1_19_20 => (intro wt hSw; (try dsimp only at hSw); have c5 := hSw.cell 5 _ rfl; have c6 := hSw.cell 6 _ rfl; have c7 := hSw.cell 7 _ rfl; have c8 := hSw.cell 8 _ rfl; have c9 := hSw.cell 9 _ rfl; have c10 := hSw.cell 10 _ rfl; clear hSw; go_simp; try rfl)
  simp only [Act.put, List.setIfInBounds_toArray, List.set_cons_zero, List.set_cons_succ]
  refine wpAnyG_take' (i := 20) (oi := { dst := some 25, op := Go.Op.move (Go.Operand.tmp 0), type := 61, pos := "link.go:174", after := #[], guard := none }) (v := ?v1_20_21) rfl (by kernel_rfl) (by kernel_rfl) (by kernel_rfl) (fun _ _ _ h => h) (Or.inl ⟨by kernel_rfl, ?h1_20_21⟩) ?r1_20_21
  case h1_20_21 => (intro wt hSw; clear hSw; go_simp; try with_reducible rfl)
  simp only [Act.put, List.setIfInBounds_toArray, List.set_cons_zero, List.set_cons_succ]
  refine wpAnyG_take' (i := 21) (oi := { dst := some 26, op := Go.Op.nilCheck (Go.Operand.tmp 25), type := 0, pos := "link.go:174", after := #[{ on := 20, ground := Go.Ground.data }], guard := none }) (v := ?v1_21_22) rfl (by kernel_rfl) (by kernel_rfl) (by kernel_rfl) (fun _ _ _ h => h) (Or.inl ⟨by kernel_rfl, ?h1_21_22⟩) ?r1_21_22
  case h1_21_22 => (intro wt hSw; clear hSw; go_simp; try with_reducible rfl)
  simp only [Act.put, List.setIfInBounds_toArray, List.set_cons_zero, List.set_cons_succ]
  refine wpAnyG_take' (i := 22) (oi := { dst := some 27, op := Go.Op.fieldAddr 82 (Go.Operand.tmp 26) 6, type := 0, pos := "link.go:174", after := #[{ on := 21, ground := Go.Ground.data }], guard := none }) (v := ?v1_22_23) rfl (by kernel_rfl) (by kernel_rfl) (by kernel_rfl) (fun _ _ _ h => h) (Or.inl ⟨by kernel_rfl, ?h1_22_23⟩) ?r1_22_23
  case h1_22_23 => (intro wt hSw; clear hSw; go_simp; try with_reducible rfl)
  simp only [Act.put, List.setIfInBounds_toArray, List.set_cons_zero, List.set_cons_succ]
  refine wpAnyG_take (i := 23) (oi := { dst := some 28, op := Go.Op.load 22 (Go.Operand.tmp 27), type := 22, pos := "link.go:174", after := #[{ on := 22, ground := Go.Ground.data }], guard := none }) (v := ?v1_23_24) (by kernel_rfl) rfl (by kernel_rfl) (by kernel_rfl) (by kernel_rfl) (by kernel_rfl) (fun _ _ _ h => h) (Or.inl ⟨by kernel_rfl, ?h1_23_24⟩) (by assumption) ?r1_23_24
  case h1_23_24 => (intro wt hSw; (try dsimp only at hSw); have c5 := hSw.cell 5 _ rfl; have c6 := hSw.cell 6 _ rfl; have c7 := hSw.cell 7 _ rfl; have c8 := hSw.cell 8 _ rfl; have c9 := hSw.cell 9 _ rfl; have c10 := hSw.cell 10 _ rfl; clear hSw; go_simp; try rfl)
  simp only [Act.put, List.setIfInBounds_toArray, List.set_cons_zero, List.set_cons_succ]
  refine wpAnyG_take' (i := 24) (oi := { dst := some 29, op := Go.Op.move (Go.Operand.tmp 0), type := 61, pos := "link.go:174", after := #[], guard := none }) (v := ?v1_24_25) rfl (by kernel_rfl) (by kernel_rfl) (by kernel_rfl) (fun _ _ _ h => h) (Or.inl ⟨by kernel_rfl, ?h1_24_25⟩) ?r1_24_25
  case h1_24_25 => (intro wt hSw; clear hSw; go_simp; try with_reducible rfl)
  simp only [Act.put, List.setIfInBounds_toArray, List.set_cons_zero, List.set_cons_succ]
  refine wpAnyG_take' (i := 25) (oi := { dst := some 30, op := Go.Op.move (Go.Operand.tmp 0), type := 61, pos := "link.go:174", after := #[], guard := none }) (v := ?v1_25_26) rfl (by kernel_rfl) (by kernel_rfl) (by kernel_rfl) (fun _ _ _ h => h) (Or.inl ⟨by kernel_rfl, ?h1_25_26⟩) ?r1_25_26
  case h1_25_26 => (intro wt hSw; clear hSw; go_simp; try with_reducible rfl)
  simp only [Act.put, List.setIfInBounds_toArray, List.set_cons_zero, List.set_cons_succ]
  refine wpAnyG_take' (i := 26) (oi := { dst := some 31, op := Go.Op.nilCheck (Go.Operand.tmp 30), type := 0, pos := "link.go:174", after := #[{ on := 25, ground := Go.Ground.data }], guard := none }) (v := ?v1_26_27) rfl (by kernel_rfl) (by kernel_rfl) (by kernel_rfl) (fun _ _ _ h => h) (Or.inl ⟨by kernel_rfl, ?h1_26_27⟩) ?r1_26_27
  case h1_26_27 => (intro wt hSw; clear hSw; go_simp; try with_reducible rfl)
  simp only [Act.put, List.setIfInBounds_toArray, List.set_cons_zero, List.set_cons_succ]
  refine wpAnyG_take' (i := 27) (oi := { dst := some 32, op := Go.Op.fieldAddr 82 (Go.Operand.tmp 31) 1, type := 0, pos := "link.go:174", after := #[{ on := 26, ground := Go.Ground.data }], guard := none }) (v := ?v1_27_28) rfl (by kernel_rfl) (by kernel_rfl) (by kernel_rfl) (fun _ _ _ h => h) (Or.inl ⟨by kernel_rfl, ?h1_27_28⟩) ?r1_27_28
  case h1_27_28 => (intro wt hSw; clear hSw; go_simp; try with_reducible rfl)
  simp only [Act.put, List.setIfInBounds_toArray, List.set_cons_zero, List.set_cons_succ]
  refine wpAnyG_take (i := 28) (oi := { dst := some 33, op := Go.Op.load 22 (Go.Operand.tmp 32), type := 22, pos := "link.go:174", after := #[{ on := 27, ground := Go.Ground.data }], guard := none }) (v := ?v1_28_29) (by kernel_rfl) rfl (by kernel_rfl) (by kernel_rfl) (by kernel_rfl) (by kernel_rfl) (fun _ _ _ h => h) (Or.inl ⟨by kernel_rfl, ?h1_28_29⟩) (by assumption) ?r1_28_29
  case h1_28_29 => (intro wt hSw; (try dsimp only at hSw); have c5 := hSw.cell 5 _ rfl; have c6 := hSw.cell 6 _ rfl; have c7 := hSw.cell 7 _ rfl; have c8 := hSw.cell 8 _ rfl; have c9 := hSw.cell 9 _ rfl; have c10 := hSw.cell 10 _ rfl; clear hSw; go_simp; try rfl)
  simp only [Act.put, List.setIfInBounds_toArray, List.set_cons_zero, List.set_cons_succ]
  refine wpAnyG_all (rs := [29, 31]) (by kernel_rfl) (by simp) ?_
  intro i hi
  simp only [List.mem_cons, List.not_mem_nil, or_false] at hi
  rcases hi with rfl | rfl
  · refine wpOpG_of (o := { dst := some 34, op := Go.Op.call { callee := Go.Callee.value (Go.Operand.func 30), args := #[Go.Operand.tmp 29, Go.Operand.tmp 33], argTypes := #[61, 22] }, type := 3, pos := "link.go:174", after := #[{ on := 24, ground := Go.Ground.data }, { on := 28, ground := Go.Ground.data }], guard := none }) rfl (by kernel_rfl) ?_
    refine step_callxi (f := 30) (args := #[pt p 0, .int .u64 0]) (by first | kernel_rfl | go_simp) (HN.out _ hHeld) ?_
    rintro v7 w7 ⟨rfl, rfl⟩
    refine ⟨fun _ h => h, ?_⟩
    simp only [Act.put, List.setIfInBounds_toArray, List.set_cons_zero, List.set_cons_succ]
    refine wpAnyG_take' (i := 30) (oi := { dst := some 35, op := Go.Op.build 30 #[(0, Go.Operand.tmp 8), (1, Go.Operand.tmp 12), (2, Go.Operand.tmp 16), (3, Go.Operand.tmp 20), (4, Go.Operand.tmp 24), (5, Go.Operand.tmp 28), (6, Go.Operand.tmp 34)], type := 30, pos := "link.go:174", after := #[{ on := 3, ground := Go.Ground.data }, { on := 7, ground := Go.Ground.data }, { on := 11, ground := Go.Ground.data }, { on := 15, ground := Go.Ground.data }, { on := 19, ground := Go.Ground.data }, { on := 23, ground := Go.Ground.data }, { on := 29, ground := Go.Ground.data }], guard := none }) (v := .agg stat0.toArray) rfl (by kernel_rfl) (by kernel_rfl) (by kernel_rfl) (fun _ _ _ h => h) (Or.inl ⟨by kernel_rfl, ?h1_30_30⟩) ?r1_30_30
    case h1_30_30 => (intro wt hSw; clear hSw; go_simp; try rfl)
    simp only [Act.put, List.setIfInBounds_toArray, List.set_cons_zero, List.set_cons_succ]
    refine wpAnyG_one (i := 31) (o := { dst := some 3, op := Go.Op.alloc 30, type := 0, pos := "link.go:174", after := #[], guard := none }) rfl (by kernel_rfl) (by kernel_rfl) ?_
    refine step_alloc30 (n := B) HB0.out rfl ?_
    refine ⟨fun _ h => h.alloc _, ?_⟩
    simp only [Act.put, List.setIfInBounds_toArray, List.set_cons_zero, List.set_cons_succ]
    refine wpAnyG_one (i := 32) (o := { dst := none, op := Go.Op.store 30 (Go.Operand.tmp 3) (Go.Operand.tmp 35), type := 0, pos := "link.go:174", after := #[{ on := 31, ground := Go.Ground.data }, { on := 30, ground := Go.Ground.data }, { on := 29, ground := Go.Ground.chain }, { on := 0, ground := Go.Ground.phase }, { on := 1, ground := Go.Ground.phase }, { on := 2, ground := Go.Ground.phase }, { on := 3, ground := Go.Ground.phase }, { on := 4, ground := Go.Ground.phase }, { on := 5, ground := Go.Ground.phase }, { on := 6, ground := Go.Ground.phase }, { on := 7, ground := Go.Ground.phase }, { on := 8, ground := Go.Ground.phase }, { on := 9, ground := Go.Ground.phase }, { on := 10, ground := Go.Ground.phase }, { on := 11, ground := Go.Ground.phase }, { on := 12, ground := Go.Ground.phase }, { on := 13, ground := Go.Ground.phase }, { on := 14, ground := Go.Ground.phase }, { on := 15, ground := Go.Ground.phase }, { on := 16, ground := Go.Ground.phase }, { on := 17, ground := Go.Ground.phase }, { on := 18, ground := Go.Ground.phase }, { on := 19, ground := Go.Ground.phase }, { on := 20, ground := Go.Ground.phase }, { on := 21, ground := Go.Ground.phase }, { on := 22, ground := Go.Ground.phase }, { on := 23, ground := Go.Ground.phase }, { on := 24, ground := Go.Ground.phase }, { on := 25, ground := Go.Ground.phase }, { on := 26, ground := Go.Ground.phase }, { on := 27, ground := Go.Ground.phase }, { on := 28, ground := Go.Ground.phase }, { on := 29, ground := Go.Ground.phase }, { on := 30, ground := Go.Ground.phase }, { on := 31, ground := Go.Ground.phase }], guard := none }) rfl (by kernel_rfl) (by kernel_rfl) ?_
    refine step_storeA (c' := stat0) HRN.out rfl rfl rfl rfl hso info_30 ?_
    refine ⟨fun h => absurd (by simp) h, ?_⟩
    simp only [Act.put]
    refine wpAnyG_done (by kernel_rfl) ?_ _
    clear hHeld HN
    go_upto_region 2 with fail
    refine wp_world fun w8 HW8 => ?_
    have R8 : Row w8 B stat0 30 := by rw [HW8.out]; exact HRN.out.row _
    have R2b : Row w8 b stat0 30 := by rw [HW8.out]; exact ((HR2.out.drew 1).alloc _).rowOther (Nat.ne_of_lt hbB) _
    have R1b : Row w8 p (rlk r d q lv jv) 82 := by rw [HW8.out]; exact ((R1.drew 1).alloc _).rowOther (Nat.ne_of_lt hpB) _
    have hB8 : Hid (Below w.heap.size w w8) := by show Below _ _ _; rw [HW8.out]; exact below_setRow (Below.alloc (below_drewN HB1.out 1) HB1.out.size _) (by have := HBB.out; have := HB0.out; omega) _
    have HR8 := hid R8
    have HR2c := hid R2b
    have c11 := R1b.cell 11 _ rfl
    clear HW8 R8 R2b R1b HR2 HB1 R1 HRN
    go_wp2_with fail
    go_loopw [4] (fun i wr => i = .int .i64 0 ∧ wr = w8) (fun _ _ => 0)
    case atStart => exact ⟨by go_num, rfl⟩
    case round =>
      obtain ⟨rfl, rfl⟩ := hrel
      go_wp2_with (first
        | (show wpList _ _ _ (Oper.mk _ (.load 30 (.tmp 3)) _ _ _ _ :: _) _ _; refine HR8.out.wpLoad 30 (.tmp 3) rfl rfl rfl _ Try.underlying30 rfl info_30 ?_)
        | (show wpList _ _ _ (Oper.mk none (.store 30 (.tmp 2) (.tmp 58)) _ _ _ _ :: _) _ _; refine HR2c.out.wpStore' 30 (.tmp 2) (.tmp 58) stat0 rfl rfl rfl rfl rfl hso info_30 ?_; intro w9 HW9))
      have R9 : Row w9 b stat0 30 := by rw [HW9.out]; exact HR2c.out.row _
      have hB9 : Below w.heap.size w w9 := by rw [HW9.out]; exact below_setRow hB8.out (by have := HBB.out; omega) _
      exact bodyPost_ret (v := .agg stat0.toArray) (R9.result Try.results18 _ rfl _ Try.underlying30 rfl info_30) rfl ⟨rfl, HBB.out ▸ hB9⟩
  · refine wpOpG_of (o := { dst := some 3, op := Go.Op.alloc 30, type := 0, pos := "link.go:174", after := #[], guard := none }) rfl (by kernel_rfl) ?_
    refine step_alloc30 (n := B) HB0.out rfl ?_
    refine ⟨fun _ h => h.alloc _, ?_⟩
    simp only [Act.put, List.setIfInBounds_toArray, List.set_cons_zero, List.set_cons_succ]
    refine wpAnyG_one (i := 29) (o := { dst := some 34, op := Go.Op.call { callee := Go.Callee.value (Go.Operand.func 30), args := #[Go.Operand.tmp 29, Go.Operand.tmp 33], argTypes := #[61, 22] }, type := 3, pos := "link.go:174", after := #[{ on := 24, ground := Go.Ground.data }, { on := 28, ground := Go.Ground.data }], guard := none }) rfl (by kernel_rfl) (by kernel_rfl) ?_
    refine step_callxi (f := 30) (args := #[pt p 0, .int .u64 0]) (by first | kernel_rfl | go_simp) (HN.out _ (hHeld.alloc _)) ?_
    rintro v7 w7 ⟨rfl, rfl⟩
    refine ⟨fun _ h => h, ?_⟩
    simp only [Act.put, List.setIfInBounds_toArray, List.set_cons_zero, List.set_cons_succ]
    refine wpAnyG_take' (i := 30) (oi := { dst := some 35, op := Go.Op.build 30 #[(0, Go.Operand.tmp 8), (1, Go.Operand.tmp 12), (2, Go.Operand.tmp 16), (3, Go.Operand.tmp 20), (4, Go.Operand.tmp 24), (5, Go.Operand.tmp 28), (6, Go.Operand.tmp 34)], type := 30, pos := "link.go:174", after := #[{ on := 3, ground := Go.Ground.data }, { on := 7, ground := Go.Ground.data }, { on := 11, ground := Go.Ground.data }, { on := 15, ground := Go.Ground.data }, { on := 19, ground := Go.Ground.data }, { on := 23, ground := Go.Ground.data }, { on := 29, ground := Go.Ground.data }], guard := none }) (v := .agg stat0.toArray) rfl (by kernel_rfl) (by kernel_rfl) (by kernel_rfl) (fun _ _ _ h => h) (Or.inl ⟨by kernel_rfl, ?h1_30_31⟩) ?r1_30_31
    case h1_30_31 => (intro wt hSw; clear hSw; go_simp; try rfl)
    simp only [Act.put, List.setIfInBounds_toArray, List.set_cons_zero, List.set_cons_succ]
    refine wpAnyG_one (i := 32) (o := { dst := none, op := Go.Op.store 30 (Go.Operand.tmp 3) (Go.Operand.tmp 35), type := 0, pos := "link.go:174", after := #[{ on := 31, ground := Go.Ground.data }, { on := 30, ground := Go.Ground.data }, { on := 29, ground := Go.Ground.chain }, { on := 0, ground := Go.Ground.phase }, { on := 1, ground := Go.Ground.phase }, { on := 2, ground := Go.Ground.phase }, { on := 3, ground := Go.Ground.phase }, { on := 4, ground := Go.Ground.phase }, { on := 5, ground := Go.Ground.phase }, { on := 6, ground := Go.Ground.phase }, { on := 7, ground := Go.Ground.phase }, { on := 8, ground := Go.Ground.phase }, { on := 9, ground := Go.Ground.phase }, { on := 10, ground := Go.Ground.phase }, { on := 11, ground := Go.Ground.phase }, { on := 12, ground := Go.Ground.phase }, { on := 13, ground := Go.Ground.phase }, { on := 14, ground := Go.Ground.phase }, { on := 15, ground := Go.Ground.phase }, { on := 16, ground := Go.Ground.phase }, { on := 17, ground := Go.Ground.phase }, { on := 18, ground := Go.Ground.phase }, { on := 19, ground := Go.Ground.phase }, { on := 20, ground := Go.Ground.phase }, { on := 21, ground := Go.Ground.phase }, { on := 22, ground := Go.Ground.phase }, { on := 23, ground := Go.Ground.phase }, { on := 24, ground := Go.Ground.phase }, { on := 25, ground := Go.Ground.phase }, { on := 26, ground := Go.Ground.phase }, { on := 27, ground := Go.Ground.phase }, { on := 28, ground := Go.Ground.phase }, { on := 29, ground := Go.Ground.phase }, { on := 30, ground := Go.Ground.phase }, { on := 31, ground := Go.Ground.phase }], guard := none }) rfl (by kernel_rfl) (by kernel_rfl) ?_
    refine step_storeA (c' := stat0) HRN.out rfl rfl rfl rfl hso info_30 ?_
    refine ⟨fun h => absurd (by simp) h, ?_⟩
    simp only [Act.put]
    refine wpAnyG_done (by kernel_rfl) ?_ _
    clear hHeld HN
    go_upto_region 2 with fail
    refine wp_world fun w8 HW8 => ?_
    have R8 : Row w8 B stat0 30 := by rw [HW8.out]; exact HRN.out.row _
    have R2b : Row w8 b stat0 30 := by rw [HW8.out]; exact ((HR2.out.drew 1).alloc _).rowOther (Nat.ne_of_lt hbB) _
    have R1b : Row w8 p (rlk r d q lv jv) 82 := by rw [HW8.out]; exact ((R1.drew 1).alloc _).rowOther (Nat.ne_of_lt hpB) _
    have hB8 : Hid (Below w.heap.size w w8) := by show Below _ _ _; rw [HW8.out]; exact below_setRow (Below.alloc (below_drewN HB1.out 1) HB1.out.size _) (by have := HBB.out; have := HB0.out; omega) _
    have HR8 := hid R8
    have HR2c := hid R2b
    have c11 := R1b.cell 11 _ rfl
    clear HW8 R8 R2b R1b HR2 HB1 R1 HRN
    go_wp2_with fail
    go_loopw [4] (fun i wr => i = .int .i64 0 ∧ wr = w8) (fun _ _ => 0)
    case atStart => exact ⟨by go_num, rfl⟩
    case round =>
      obtain ⟨rfl, rfl⟩ := hrel
      go_wp2_with (first
        | (show wpList _ _ _ (Oper.mk _ (.load 30 (.tmp 3)) _ _ _ _ :: _) _ _; refine HR8.out.wpLoad 30 (.tmp 3) rfl rfl rfl _ Try.underlying30 rfl info_30 ?_)
        | (show wpList _ _ _ (Oper.mk none (.store 30 (.tmp 2) (.tmp 58)) _ _ _ _ :: _) _ _; refine HR2c.out.wpStore' 30 (.tmp 2) (.tmp 58) stat0 rfl rfl rfl rfl rfl hso info_30 ?_; intro w9 HW9))
      have R9 : Row w9 b stat0 30 := by rw [HW9.out]; exact HR2c.out.row _
      have hB9 : Below w.heap.size w w9 := by rw [HW9.out]; exact below_setRow hB8.out (by have := HBB.out; omega) _
      exact bodyPost_ret (v := .agg stat0.toArray) (R9.result Try.results18 _ rfl _ Try.underlying30 rfl info_30) rfl ⟨rfl, HBB.out ▸ hB9⟩
end Go.Proofs.Ytoeldomhkeancaa
