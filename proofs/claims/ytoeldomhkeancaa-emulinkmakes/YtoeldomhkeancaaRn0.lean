import Derived.Test.YtoeldomhkeancaaCk0
import Derived.Test.YtoeldomhkeancaaRs0
import Derived.Test.YtoeldomhkeancaaCp0
namespace Go.Proofs.Ytoeldomhkeancaa
open Go.RowKit Go.Maps
set_option maxRecDepth 100000

theorem step_app {P : Program} {w : World} {o : Oper} {a : Act} {K : Act → World → Prop} {Q : Exit → Act → World → Prop} (s x : Operand) (t : TypeId)
    (ho : o.op = .call { callee := .builtin .append, args := #[s, x], argTypes := #[t, t] }) {v u v' : Value} {w' : World} (hs : a.eval s = v) (hx : a.eval x = u)
    (hr : (Builtin.append_ #[t, t] o.type #[v, u]).run P w = .ok v' w') (h : K (a.put o.dst v') w') : Oper.wp P o a w K Q := by
  unfold Oper.wp execOp
  simp only [ho, resolve, invoke, builtin, Sem.run_bind, Sem.run_pure, Result.andThen_ok, List.map_toArray, List.map_cons, List.map_nil, hs, hx, hr]
  exact h
/-- append to nil, as its run. -/
theorem app_run {t e bytes : Nat} {i : TypeInfo} {z : Value} (ht : Try.prog.underlying t = some (.slice e)) (i1 : Try.prog.info? e = some i) (i2 : i.zero = some z) (i3 : i.size = 1) (i4 : i.bytes = bytes) (hz1 : z.cells.size = 1)
    (hnil : ∀ w, (Builtin.append_ #[t, t] t #[.slice none 0 0, .slice none 0 0]).run Try.prog w = .ok (.slice none 0 0) w)
    {w : World} {ax : Option Addr} {n c : Nat} {bs : List Value} (hz : ax = none → c = 0) (hn : bs.length = n) (hB : ElAt w ax bs) (h1 : ∀ u ∈ bs, u.oneCell' = true) (hl : (0 + n) * bytes ≤ 140737488355328) (hl2 : 0 + n ≤ 140737488355328) :
    ∃ v' w', (Builtin.append_ #[t, t] t #[.slice none 0 0, .slice ax n c]).run Try.prog w = .ok v' w' ∧ w'.ownsRow w.heap.size e 1 v' n bs ∧ Below w.heap.size w w' := by
  subst hn
  cases ax with
  | none =>
    obtain rfl : bs = [] := by
      cases bs with
      | nil => rfl
      | cons b l => obtain ⟨g, o, e, _⟩ := hB 0 b rfl; cases e
    obtain rfl : c = 0 := hz rfl
    exact ⟨_, w, hnil w, ⟨rfl, .inl ⟨rfl, rfl⟩⟩, Below.refl _ _⟩
  | some ad =>
    obtain ⟨v', w', hr, ho, hg, _, ha⟩ := run_append_own_at (P := Try.prog) w w.heap.size t t e i z 1 bytes ht i1 i2 i3 i4 hz1 (by decide) (.slice none 0 0) 0 [] ⟨rfl, .inl ⟨rfl, rfl⟩⟩ ad bs.length c bs (by omega) (fun j u hu => by
      obtain ⟨g2, o2, e2, c2⟩ := hB j u hu
      cases e2
      rw [Addr.add_mid]
      exact c2) h1 (by unfold maxLen; omega) hl (Nat.le_refl _)
    rw [Nat.zero_add, List.nil_append] at ho
    exact ⟨v', w', hr, ho, grown_below hg (fun g e => by simp [Value.ownBlock] at e) (Nat.le_refl _)⟩
theorem nil25 (w : World) : (Builtin.append_ #[25, 25] 25 #[.slice none 0 0, .slice none 0 0]).run Try.prog w = .ok (.slice none 0 0) w := by kernel_rfl
theorem nil26 (w : World) : (Builtin.append_ #[26, 26] 26 #[.slice none 0 0, .slice none 0 0]).run Try.prog w = .ok (.slice none 0 0) w := by kernel_rfl
set_option maxHeartbeats 2000000 in
theorem rnew_no {w : World} {r d q : Int} {la ja : Option Addr} {ln lc jc : Nat} {jit : List Int} (hj : ElAt w ja (jit.map (Value.int .i64))) (hjl : jit.length ≤ 140737488355328) (hll : ln ≤ 140737488355328) (hf : fitE r d q ln jit ≠ 0) :
    Calls Try.prog 29 #[.agg (confC r d q (.slice la ln lc) (.slice ja jit.length jc)).toArray] w fun e w' => e = .returned (.tuple #[.pointer none, .int .i64 (fitE r d q ln jit)]) ∧ Below w.heap.size w w' := by
  have hb1 := below_new w (.cells #[.int .i64 r, .int .i64 d, .int .i64 q, .slice la ln lc, .slice ja jit.length jc] 28)
  have R := Row.new w (confC r d q (.slice la ln lc) (.slice ja jit.length jc)) 28
  have HF := hid (check_any (r := r) (d := d) (q := q) (la := la) (lc := lc) (jc := jc) (hj.kept hb1) hjl hll)
  have x0 := R.cell 0 _ rfl
  have x1 := R.cell 1 _ rfl
  have x2 := R.cell 2 _ rfl
  have x3 := R.cell 3 _ rfl
  have x4 := R.cell 4 _ rfl
  have HB := hid hb1
  simp only [confC] at *
  generalize fitE r d q ln jit = f at *
  have hf2 : (f == 0) = false := by simpa using hf
  clear hj hjl hll R hb1
  go_enter Try.func29, Try.ntmps29
  go_wp2_with (go_at_call 41; refine HF.out.mono ?_; rintro e w2 ⟨rfl, hb2⟩; have HB2 := hid hb2; clear hb2)
  go_ret2
  exact ⟨rfl, below_two HB.out HB2.out (Nat.le_refl _)⟩
set_option maxHeartbeats 8000000 in
theorem rnew_ok {w : World} {r d q : Int} {la ja : Option Addr} {lc jc : Nat} {loss : List Bool} {jit : List Int} (hlo : ElAt w la (loss.map Value.bool)) (hj : ElAt w ja (jit.map (Value.int .i64))) (hzl : la = none → lc = 0) (hzj : ja = none → jc = 0) (hf : fitE r d q loss.length jit = 0) :
    Calls Try.prog 29 #[.agg (confC r d q (.slice la loss.length lc) (.slice ja jit.length jc)).toArray] w fun e w' => ∃ p lv jv, e = .returned (.tuple #[pt p 0, .int .i64 0]) ∧ Row w' p (rlk r d q lv jv) 82 ∧ Below w.heap.size w w' := by
  have hok := fresh_ok (lv := .slice none 0 0) (jv := .slice none 0 0) hf
  have hll : loss.length ≤ 65536 := hok.ln
  have hjl : jit.length ≤ 65536 := hok.jn
  have hb1 := below_new w (.cells #[.int .i64 r, .int .i64 d, .int .i64 q, .slice la loss.length lc, .slice ja jit.length jc] 28)
  have R := Row.new w (confC r d q (.slice la loss.length lc) (.slice ja jit.length jc)) 28
  have HF := hid (check_any (r := r) (d := d) (q := q) (la := la) (lc := lc) (jc := jc) (hj.kept hb1) (by omega) (show loss.length ≤ _ by omega))
  rw [hf] at HF
  have x0 := R.cell 0 _ rfl
  have x1 := R.cell 1 _ rfl
  have x2 := R.cell 2 _ rfl
  have x3 := R.cell 3 _ rfl
  have x4 := R.cell 4 _ rfl
  have HB := hid hb1
  have HLO := hid (hlo.kept hb1)
  have HJI := hid (hj.kept hb1)
  have HR := hid R
  have HZL := hid hzl
  have HZJ := hid hzj
  simp only [confC] at *
  clear hj hlo R hb1 hok hzl hzj
  go_enter Try.func29, Try.ntmps29
  go_upto_region 1 with fail
  revert HF x0 x1 x2 x3 x4 HB HLO HJI HR
  generalize w.alloc (.cells #[.int .i64 r, .int .i64 d, .int .i64 q, .slice la loss.length lc, .slice ja jit.length jc] 28) = w1
  intro HF x0 x1 x2 x3 x4 HB HLO HJI HR
  obtain ⟨b, hb⟩ : ∃ b, w.heap.size = b := ⟨_, rfl⟩
  rw [hb] at x0 x1 x2 x3 x4 HR ⊢
  have HBB := hid hb
  clear hb
  go_upto_region 4 with (go_at_call 41; refine HF.out.mono ?_; rintro e w2 ⟨rfl, hb2⟩; have HB2 := hid hb2; clear hb2)
  have y0 := cell_kept HB2.out x0
  have y1 := cell_kept HB2.out x1
  have y2 := cell_kept HB2.out x2
  have y3 := cell_kept HB2.out x3
  have y4 := cell_kept HB2.out x4
  have HL2 := hid (HLO.out.kept HB2.out)
  have HJ2 := hid (HJI.out.kept HB2.out)
  have HR2 := hid (HR.out.kept HB2.out HR.out.lt)
  have HBA := hid (below_two HB.out HB2.out (Nat.le_refl _))
  clear x0 x1 x2 x3 x4 HLO HJI HR HB HB2 HF
  go_upto_region 5 with fail
  refine wp_world fun w3 HW => ?_
  have hrn := Row.new w2 (rlk r d q (.slice la loss.length lc) (.slice ja jit.length jc)) 82
  have hra := HR2.out.alloc (.cells (rlk r d q (.slice la loss.length lc) (.slice ja jit.length jc)).toArray 82)
  have hbn := below_new w2 (.cells (rlk r d q (.slice la loss.length lc) (.slice ja jit.length jc)).toArray 82)
  obtain ⟨p, hp⟩ : ∃ p, w2.heap.size = p := ⟨_, rfl⟩
  have hbp : b < p := by rw [← hp]; exact HR2.out.lt
  have HRL : Hid (Row w3 p (rlk r d q (.slice la loss.length lc) (.slice ja jit.length jc)) 82) := by show Row w3 _ _ _; rw [HW.out, ← hp]; exact hrn
  have HRb : Hid (Row w3 b (confC r d q (.slice la loss.length lc) (.slice ja jit.length jc)) 28) := by show Row w3 _ _ _; rw [HW.out]; exact hra
  have HB3 : Hid (Below w2.heap.size w2 w3) := by show Below _ _ _; rw [HW.out]; exact hbn
  have HPP := hid hp
  rw [hp]
  clear HW hrn hra hbn y0 y1 y2 y3 y4 HR2 hp
  have q3 := HRL.out.cell 3 _ rfl
  have f3 := HRL.out.frozen 3
  go_upto_region 6 with fail
  refine wp_world fun w4 HW => ?_
  have HRL4 : Hid (Row w4 p (rlk r d q (.slice none 0 0) (.slice ja jit.length jc)) 82) := by show Row w4 _ _ _; rw [HW.out]; exact HRL.out.set 3 _
  have HRb4 : Hid (Row w4 b (confC r d q (.slice la loss.length lc) (.slice ja jit.length jc)) 28) := by show Row w4 _ _ _; rw [HW.out]; exact HRb.out.setOther ⟨p, 3, none⟩ (show b ≠ p by omega) _
  have HB4 : Hid (Below w2.heap.size w2 w4) := by show Below _ _ _; rw [HW.out]; exact HB3.out.setCell (by have := HPP.out; show w2.heap.size ≤ p; omega) _
  have HL4 := hid (HL2.out.kept HB4.out)
  clear HW HRL HRb HB3 q3 f3
  obtain ⟨i, i1, i2, i3, i4⟩ := inf4
  obtain ⟨j, j1, j2, j3, j4⟩ := inf3
  refine wp_region_some (fun w' => w'.cell? ⟨b, 3, none⟩ = some (.slice la loss.length lc) ∧ w'.cell? ⟨p, 3, none⟩ = some (.slice none 0 0)) [12] (by kernel_rfl) ?_
  have hHeld := (show (fun w' => w'.cell? ⟨b, 3, none⟩ = some (.slice la loss.length lc) ∧ w'.cell? ⟨p, 3, none⟩ = some (.slice none 0 0)) w4.drew from ⟨HRb4.out.cell 3 _ rfl, HRL4.out.cell 3 _ rfl⟩)
  refine wpAnyG_take' (i := 0) (oi := { dst := some 18, op := Go.Op.move (Go.Operand.tmp 5), type := 61, pos := "link.go:74", after := #[], guard := none }) (v := ?v1_0) rfl (by kernel_rfl) (by kernel_rfl) (by kernel_rfl) (fun _ _ _ h => h) (Or.inl ⟨by kernel_rfl, ?h1_0⟩) ?r1_0
  case h1_0 => (intro wt hSw; clear hSw; go_simp; try with_reducible rfl)
  simp only [Act.put, List.setIfInBounds_toArray, List.set_cons_zero, List.set_cons_succ]
  refine wpAnyG_take' (i := 1) (oi := { dst := some 19, op := Go.Op.move (Go.Operand.tmp 5), type := 61, pos := "link.go:74", after := #[], guard := none }) (v := ?v1_1) rfl (by kernel_rfl) (by kernel_rfl) (by kernel_rfl) (fun _ _ _ h => h) (Or.inl ⟨by kernel_rfl, ?h1_1⟩) ?r1_1
  case h1_1 => (intro wt hSw; clear hSw; go_simp; try with_reducible rfl)
  simp only [Act.put, List.setIfInBounds_toArray, List.set_cons_zero, List.set_cons_succ]
  refine wpAnyG_take' (i := 2) (oi := { dst := some 20, op := Go.Op.nilCheck (Go.Operand.tmp 19), type := 0, pos := "link.go:74", after := #[{ on := 1, ground := Go.Ground.data }], guard := none }) (v := ?v1_2) rfl (by kernel_rfl) (by kernel_rfl) (by kernel_rfl) (fun _ _ _ h => h) (Or.inl ⟨by kernel_rfl, ?h1_2⟩) ?r1_2
  case h1_2 => (intro wt hSw; clear hSw; go_simp; try with_reducible rfl)
  simp only [Act.put, List.setIfInBounds_toArray, List.set_cons_zero, List.set_cons_succ]
  refine wpAnyG_take' (i := 3) (oi := { dst := some 21, op := Go.Op.fieldAddr 82 (Go.Operand.tmp 20) 0, type := 0, pos := "link.go:74", after := #[{ on := 2, ground := Go.Ground.data }], guard := none }) (v := ?v1_3) rfl (by kernel_rfl) (by kernel_rfl) (by kernel_rfl) (fun _ _ _ h => h) (Or.inl ⟨by kernel_rfl, ?h1_3⟩) ?r1_3
  case h1_3 => (intro wt hSw; clear hSw; go_simp; try with_reducible rfl)
  simp only [Act.put, List.setIfInBounds_toArray, List.set_cons_zero, List.set_cons_succ]
  refine wpAnyG_take' (i := 4) (oi := { dst := some 22, op := Go.Op.fieldAddr 28 (Go.Operand.tmp 21) 3, type := 0, pos := "link.go:74", after := #[{ on := 3, ground := Go.Ground.data }], guard := none }) (v := ?v1_4) rfl (by kernel_rfl) (by kernel_rfl) (by kernel_rfl) (fun _ _ _ h => h) (Or.inl ⟨by kernel_rfl, ?h1_4⟩) ?r1_4
  case h1_4 => (intro wt hSw; clear hSw; go_simp; try with_reducible rfl)
  simp only [Act.put, List.setIfInBounds_toArray, List.set_cons_zero, List.set_cons_succ]
  refine wpAnyG_take (i := 5) (oi := { dst := some 23, op := Go.Op.load 25 (Go.Operand.tmp 22), type := 25, pos := "link.go:74", after := #[{ on := 4, ground := Go.Ground.data }], guard := none }) (v := ?v1_5) (by kernel_rfl) rfl (by kernel_rfl) (by kernel_rfl) (by kernel_rfl) (by kernel_rfl) (fun _ _ _ h => h) (Or.inl ⟨by kernel_rfl, ?h1_5⟩) (by assumption) ?r1_5
  case h1_5 => (intro wt hSw; (try dsimp only at hSw); obtain ⟨s0, s1⟩ := hSw; go_simp; try rfl)
  simp only [Act.put, List.setIfInBounds_toArray, List.set_cons_zero, List.set_cons_succ]
  refine wpAnyG_take' (i := 6) (oi := { dst := some 24, op := Go.Op.fieldAddr 28 (Go.Operand.tmp 1) 3, type := 0, pos := "link.go:74", after := #[], guard := none }) (v := ?v1_6) rfl (by kernel_rfl) (by kernel_rfl) (by kernel_rfl) (fun _ _ _ h => h) (Or.inl ⟨by kernel_rfl, ?h1_6⟩) ?r1_6
  case h1_6 => (intro wt hSw; clear hSw; go_simp; try with_reducible rfl)
  simp only [Act.put, List.setIfInBounds_toArray, List.set_cons_zero, List.set_cons_succ]
  refine wpAnyG_take (i := 7) (oi := { dst := some 25, op := Go.Op.load 25 (Go.Operand.tmp 24), type := 25, pos := "link.go:74", after := #[{ on := 6, ground := Go.Ground.data }], guard := none }) (v := ?v1_7) (by kernel_rfl) rfl (by kernel_rfl) (by kernel_rfl) (by kernel_rfl) (by kernel_rfl) (fun _ _ _ h => h) (Or.inl ⟨by kernel_rfl, ?h1_7⟩) (by assumption) ?r1_7
  case h1_7 => (intro wt hSw; (try dsimp only at hSw); obtain ⟨s0, s1⟩ := hSw; go_simp; try rfl)
  simp only [Act.put, List.setIfInBounds_toArray, List.set_cons_zero, List.set_cons_succ]
  refine wpAnyG_one (i := 8) (o := { dst := some 26, op := Go.Op.call { callee := Go.Callee.builtin Go.Builtin.append, args := #[Go.Operand.tmp 23, Go.Operand.tmp 25], argTypes := #[25, 25] }, type := 25, pos := "link.go:74", after := #[{ on := 5, ground := Go.Ground.data }, { on := 7, ground := Go.Ground.data }], guard := none }) rfl (by kernel_rfl) (by kernel_rfl) ?_
  obtain ⟨v6, w6, hx6, hO6, hB6⟩ := app_run Try.underlying25 i1 i2 i3 i4 rfl nil25 (w := w4.drew) (n := loss.length) (c := lc) HZL.out (by simp) (HL4.out.kept (below_drewN (Below.refl _ _) 1)) bool_one (by omega) (by omega)
  obtain ⟨a6, c6, rfl, -⟩ := own1 hO6
  refine step_app (.tmp 23) (.tmp 25) 25 rfl rfl rfl hx6 ?_
  have hHeld6 := (show (fun w' => w'.cell? ⟨b, 3, none⟩ = some (.slice la loss.length lc) ∧ w'.cell? ⟨p, 3, none⟩ = some (.slice none 0 0)) w6 from ⟨cell_kept hB6 hHeld.1, cell_kept hB6 hHeld.2⟩)
  have HRL6 := hid ((HRL4.out.drew 1).kept hB6 (HRL4.out.drew 1).lt)
  have HRb6 := hid ((HRb4.out.drew 1).kept hB6 (HRb4.out.drew 1).lt)
  have q3 := HRL6.out.cell 3 _ rfl
  have f3 := HRL6.out.frozen 3
  refine ⟨fun _ _ => hHeld6, ?_⟩
  simp only [Act.put, List.setIfInBounds_toArray, List.set_cons_zero, List.set_cons_succ]
  refine wpAnyG_take' (i := 9) (oi := { dst := some 27, op := Go.Op.nilCheck (Go.Operand.tmp 18), type := 0, pos := "link.go:74", after := #[{ on := 0, ground := Go.Ground.data }, { on := 0, ground := Go.Ground.phase }, { on := 1, ground := Go.Ground.phase }, { on := 2, ground := Go.Ground.phase }, { on := 3, ground := Go.Ground.phase }, { on := 4, ground := Go.Ground.phase }, { on := 5, ground := Go.Ground.phase }, { on := 6, ground := Go.Ground.phase }, { on := 7, ground := Go.Ground.phase }, { on := 8, ground := Go.Ground.phase }], guard := none }) (v := ?v1_9) rfl (by kernel_rfl) (by kernel_rfl) (by kernel_rfl) (fun _ _ _ h => h) (Or.inl ⟨by kernel_rfl, ?h1_9⟩) ?r1_9
  case h1_9 => (intro wt hSw; clear hSw; go_simp; try with_reducible rfl)
  simp only [Act.put, List.setIfInBounds_toArray, List.set_cons_zero, List.set_cons_succ]
  refine wpAnyG_take' (i := 10) (oi := { dst := some 28, op := Go.Op.fieldAddr 82 (Go.Operand.tmp 27) 0, type := 0, pos := "link.go:74", after := #[{ on := 9, ground := Go.Ground.data }, { on := 0, ground := Go.Ground.phase }, { on := 1, ground := Go.Ground.phase }, { on := 2, ground := Go.Ground.phase }, { on := 3, ground := Go.Ground.phase }, { on := 4, ground := Go.Ground.phase }, { on := 5, ground := Go.Ground.phase }, { on := 6, ground := Go.Ground.phase }, { on := 7, ground := Go.Ground.phase }, { on := 8, ground := Go.Ground.phase }], guard := none }) (v := ?v1_10) rfl (by kernel_rfl) (by kernel_rfl) (by kernel_rfl) (fun _ _ _ h => h) (Or.inl ⟨by kernel_rfl, ?h1_10⟩) ?r1_10
  case h1_10 => (intro wt hSw; clear hSw; go_simp; try with_reducible rfl)
  simp only [Act.put, List.setIfInBounds_toArray, List.set_cons_zero, List.set_cons_succ]
  refine wpAnyG_take' (i := 11) (oi := { dst := some 29, op := Go.Op.fieldAddr 28 (Go.Operand.tmp 28) 3, type := 0, pos := "link.go:74", after := #[{ on := 10, ground := Go.Ground.data }, { on := 0, ground := Go.Ground.phase }, { on := 1, ground := Go.Ground.phase }, { on := 2, ground := Go.Ground.phase }, { on := 3, ground := Go.Ground.phase }, { on := 4, ground := Go.Ground.phase }, { on := 5, ground := Go.Ground.phase }, { on := 6, ground := Go.Ground.phase }, { on := 7, ground := Go.Ground.phase }, { on := 8, ground := Go.Ground.phase }], guard := none }) (v := ?v1_11) rfl (by kernel_rfl) (by kernel_rfl) (by kernel_rfl) (fun _ _ _ h => h) (Or.inl ⟨by kernel_rfl, ?h1_11⟩) ?r1_11
  case h1_11 => (intro wt hSw; clear hSw; go_simp; try with_reducible rfl)
  simp only [Act.put, List.setIfInBounds_toArray, List.set_cons_zero, List.set_cons_succ]
  refine wpAnyG_one (i := 12) (o := { dst := none, op := Go.Op.store 25 (Go.Operand.tmp 29) (Go.Operand.tmp 26), type := 0, pos := "link.go:74", after := #[{ on := 11, ground := Go.Ground.data }, { on := 8, ground := Go.Ground.data }, { on := 8, ground := Go.Ground.chain }, { on := 0, ground := Go.Ground.phase }, { on := 1, ground := Go.Ground.phase }, { on := 2, ground := Go.Ground.phase }, { on := 3, ground := Go.Ground.phase }, { on := 4, ground := Go.Ground.phase }, { on := 5, ground := Go.Ground.phase }, { on := 6, ground := Go.Ground.phase }, { on := 7, ground := Go.Ground.phase }, { on := 8, ground := Go.Ground.phase }], guard := none }) rfl (by kernel_rfl) (by kernel_rfl) ?_
  refine step_store1 (t := 25) (b := p) (k := 3) (av := a6) (n := loss.length) (c := c6) (.inl rfl) rfl rfl rfl q3 f3 ?_
  refine ⟨fun h => absurd (by simp) h, ?_⟩
  simp only [Act.put]
  refine wpAnyG_done (by kernel_rfl) ?_ _
  clear hHeld hHeld6 q3 f3
  go_upto_region 7 with fail
  refine wp_world fun w7 HW => ?_
  have HRL7 : Hid (Row w7 p (rlk r d q (.slice a6 loss.length c6) (.slice ja jit.length jc)) 82) := by show Row w7 _ _ _; rw [HW.out]; exact HRL6.out.set 3 _
  have HRb7 : Hid (Row w7 b (confC r d q (.slice la loss.length lc) (.slice ja jit.length jc)) 28) := by show Row w7 _ _ _; rw [HW.out]; exact HRb6.out.setOther ⟨p, 3, none⟩ (show b ≠ p by omega) _
  have HB7 : Hid (Below w2.heap.size w2 w7) := by show Below _ _ _; rw [HW.out]; exact (below_two HB4.out (below_two (below_drewN (Below.refl _ _) 1) hB6 (Nat.le_refl _)) (Nat.le_refl _)).setCell (by have := HPP.out; show w2.heap.size ≤ p; omega) _
  clear HW HRL6 HRb6 HB4 HL4 hO6 hB6 hx6 HRL4 HRb4
  have q4 := HRL7.out.cell 4 _ rfl
  have f4 := HRL7.out.frozen 4
  go_upto_region 8 with fail
  refine wp_world fun w8 HW => ?_
  have HRL8 : Hid (Row w8 p (rlk r d q (.slice a6 loss.length c6) (.slice none 0 0)) 82) := by show Row w8 _ _ _; rw [HW.out]; exact HRL7.out.set 4 _
  have HRb8 : Hid (Row w8 b (confC r d q (.slice la loss.length lc) (.slice ja jit.length jc)) 28) := by show Row w8 _ _ _; rw [HW.out]; exact HRb7.out.setOther ⟨p, 4, none⟩ (show b ≠ p by omega) _
  have HB8 : Hid (Below w2.heap.size w2 w8) := by show Below _ _ _; rw [HW.out]; exact HB7.out.setCell (by have := HPP.out; show w2.heap.size ≤ p; omega) _
  have HJ8 := hid (HJ2.out.kept HB8.out)
  clear HW HRL7 HRb7 HB7 q4 f4
  refine wp_region_some (fun w' => w'.cell? ⟨b, 4, none⟩ = some (.slice ja jit.length jc) ∧ w'.cell? ⟨p, 4, none⟩ = some (.slice none 0 0)) [12] (by kernel_rfl) ?_
  have hHeld := (show (fun w' => w'.cell? ⟨b, 4, none⟩ = some (.slice ja jit.length jc) ∧ w'.cell? ⟨p, 4, none⟩ = some (.slice none 0 0)) w8.drew from ⟨HRb8.out.cell 4 _ rfl, HRL8.out.cell 4 _ rfl⟩)
  refine wpAnyG_take' (i := 0) (oi := { dst := some 34, op := Go.Op.move (Go.Operand.tmp 5), type := 61, pos := "link.go:76", after := #[], guard := none }) (v := ?v2_0) rfl (by kernel_rfl) (by kernel_rfl) (by kernel_rfl) (fun _ _ _ h => h) (Or.inl ⟨by kernel_rfl, ?h2_0⟩) ?r2_0
  case h2_0 => (intro wt hSw; clear hSw; go_simp; try with_reducible rfl)
  simp only [Act.put, List.setIfInBounds_toArray, List.set_cons_zero, List.set_cons_succ]
  refine wpAnyG_take' (i := 1) (oi := { dst := some 35, op := Go.Op.move (Go.Operand.tmp 5), type := 61, pos := "link.go:76", after := #[], guard := none }) (v := ?v2_1) rfl (by kernel_rfl) (by kernel_rfl) (by kernel_rfl) (fun _ _ _ h => h) (Or.inl ⟨by kernel_rfl, ?h2_1⟩) ?r2_1
  case h2_1 => (intro wt hSw; clear hSw; go_simp; try with_reducible rfl)
  simp only [Act.put, List.setIfInBounds_toArray, List.set_cons_zero, List.set_cons_succ]
  refine wpAnyG_take' (i := 2) (oi := { dst := some 36, op := Go.Op.nilCheck (Go.Operand.tmp 35), type := 0, pos := "link.go:76", after := #[{ on := 1, ground := Go.Ground.data }], guard := none }) (v := ?v2_2) rfl (by kernel_rfl) (by kernel_rfl) (by kernel_rfl) (fun _ _ _ h => h) (Or.inl ⟨by kernel_rfl, ?h2_2⟩) ?r2_2
  case h2_2 => (intro wt hSw; clear hSw; go_simp; try with_reducible rfl)
  simp only [Act.put, List.setIfInBounds_toArray, List.set_cons_zero, List.set_cons_succ]
  refine wpAnyG_take' (i := 3) (oi := { dst := some 37, op := Go.Op.fieldAddr 82 (Go.Operand.tmp 36) 0, type := 0, pos := "link.go:76", after := #[{ on := 2, ground := Go.Ground.data }], guard := none }) (v := ?v2_3) rfl (by kernel_rfl) (by kernel_rfl) (by kernel_rfl) (fun _ _ _ h => h) (Or.inl ⟨by kernel_rfl, ?h2_3⟩) ?r2_3
  case h2_3 => (intro wt hSw; clear hSw; go_simp; try with_reducible rfl)
  simp only [Act.put, List.setIfInBounds_toArray, List.set_cons_zero, List.set_cons_succ]
  refine wpAnyG_take' (i := 4) (oi := { dst := some 38, op := Go.Op.fieldAddr 28 (Go.Operand.tmp 37) 4, type := 0, pos := "link.go:76", after := #[{ on := 3, ground := Go.Ground.data }], guard := none }) (v := ?v2_4) rfl (by kernel_rfl) (by kernel_rfl) (by kernel_rfl) (fun _ _ _ h => h) (Or.inl ⟨by kernel_rfl, ?h2_4⟩) ?r2_4
  case h2_4 => (intro wt hSw; clear hSw; go_simp; try with_reducible rfl)
  simp only [Act.put, List.setIfInBounds_toArray, List.set_cons_zero, List.set_cons_succ]
  refine wpAnyG_take (i := 5) (oi := { dst := some 39, op := Go.Op.load 26 (Go.Operand.tmp 38), type := 26, pos := "link.go:76", after := #[{ on := 4, ground := Go.Ground.data }], guard := none }) (v := ?v2_5) (by kernel_rfl) rfl (by kernel_rfl) (by kernel_rfl) (by kernel_rfl) (by kernel_rfl) (fun _ _ _ h => h) (Or.inl ⟨by kernel_rfl, ?h2_5⟩) (by assumption) ?r2_5
  case h2_5 => (intro wt hSw; (try dsimp only at hSw); obtain ⟨s0, s1⟩ := hSw; go_simp; try rfl)
  simp only [Act.put, List.setIfInBounds_toArray, List.set_cons_zero, List.set_cons_succ]
  refine wpAnyG_take' (i := 6) (oi := { dst := some 40, op := Go.Op.fieldAddr 28 (Go.Operand.tmp 1) 4, type := 0, pos := "link.go:76", after := #[], guard := none }) (v := ?v2_6) rfl (by kernel_rfl) (by kernel_rfl) (by kernel_rfl) (fun _ _ _ h => h) (Or.inl ⟨by kernel_rfl, ?h2_6⟩) ?r2_6
  case h2_6 => (intro wt hSw; clear hSw; go_simp; try with_reducible rfl)
  simp only [Act.put, List.setIfInBounds_toArray, List.set_cons_zero, List.set_cons_succ]
  refine wpAnyG_take (i := 7) (oi := { dst := some 41, op := Go.Op.load 26 (Go.Operand.tmp 40), type := 26, pos := "link.go:76", after := #[{ on := 6, ground := Go.Ground.data }], guard := none }) (v := ?v2_7) (by kernel_rfl) rfl (by kernel_rfl) (by kernel_rfl) (by kernel_rfl) (by kernel_rfl) (fun _ _ _ h => h) (Or.inl ⟨by kernel_rfl, ?h2_7⟩) (by assumption) ?r2_7
  case h2_7 => (intro wt hSw; (try dsimp only at hSw); obtain ⟨s0, s1⟩ := hSw; go_simp; try rfl)
  simp only [Act.put, List.setIfInBounds_toArray, List.set_cons_zero, List.set_cons_succ]
  refine wpAnyG_one (i := 8) (o := { dst := some 42, op := Go.Op.call { callee := Go.Callee.builtin Go.Builtin.append, args := #[Go.Operand.tmp 39, Go.Operand.tmp 41], argTypes := #[26, 26] }, type := 26, pos := "link.go:76", after := #[{ on := 5, ground := Go.Ground.data }, { on := 7, ground := Go.Ground.data }], guard := none }) rfl (by kernel_rfl) (by kernel_rfl) ?_
  obtain ⟨v9, w9, hx9, hO9, hB9⟩ := app_run Try.underlying26 j1 j2 j3 j4 rfl nil26 (w := w8.drew) (n := jit.length) (c := jc) HZJ.out (by simp) (HJ8.out.kept (below_drewN (Below.refl _ _) 1)) int_one (by omega) (by omega)
  obtain ⟨a9, c9, rfl, -⟩ := own1 hO9
  refine step_app (.tmp 39) (.tmp 41) 26 rfl rfl rfl hx9 ?_
  have hHeld9 := (show (fun w' => w'.cell? ⟨b, 4, none⟩ = some (.slice ja jit.length jc) ∧ w'.cell? ⟨p, 4, none⟩ = some (.slice none 0 0)) w9 from ⟨cell_kept hB9 hHeld.1, cell_kept hB9 hHeld.2⟩)
  have HRL9 := hid ((HRL8.out.drew 1).kept hB9 (HRL8.out.drew 1).lt)
  have HRb9 := hid ((HRb8.out.drew 1).kept hB9 (HRb8.out.drew 1).lt)
  have q4 := HRL9.out.cell 4 _ rfl
  have f4 := HRL9.out.frozen 4
  refine ⟨fun _ _ => hHeld9, ?_⟩
  simp only [Act.put, List.setIfInBounds_toArray, List.set_cons_zero, List.set_cons_succ]
  refine wpAnyG_take' (i := 9) (oi := { dst := some 43, op := Go.Op.nilCheck (Go.Operand.tmp 34), type := 0, pos := "link.go:76", after := #[{ on := 0, ground := Go.Ground.data }, { on := 0, ground := Go.Ground.phase }, { on := 1, ground := Go.Ground.phase }, { on := 2, ground := Go.Ground.phase }, { on := 3, ground := Go.Ground.phase }, { on := 4, ground := Go.Ground.phase }, { on := 5, ground := Go.Ground.phase }, { on := 6, ground := Go.Ground.phase }, { on := 7, ground := Go.Ground.phase }, { on := 8, ground := Go.Ground.phase }], guard := none }) (v := ?v2_9) rfl (by kernel_rfl) (by kernel_rfl) (by kernel_rfl) (fun _ _ _ h => h) (Or.inl ⟨by kernel_rfl, ?h2_9⟩) ?r2_9
  case h2_9 => (intro wt hSw; clear hSw; go_simp; try with_reducible rfl)
  simp only [Act.put, List.setIfInBounds_toArray, List.set_cons_zero, List.set_cons_succ]
  refine wpAnyG_take' (i := 10) (oi := { dst := some 44, op := Go.Op.fieldAddr 82 (Go.Operand.tmp 43) 0, type := 0, pos := "link.go:76", after := #[{ on := 9, ground := Go.Ground.data }, { on := 0, ground := Go.Ground.phase }, { on := 1, ground := Go.Ground.phase }, { on := 2, ground := Go.Ground.phase }, { on := 3, ground := Go.Ground.phase }, { on := 4, ground := Go.Ground.phase }, { on := 5, ground := Go.Ground.phase }, { on := 6, ground := Go.Ground.phase }, { on := 7, ground := Go.Ground.phase }, { on := 8, ground := Go.Ground.phase }], guard := none }) (v := ?v2_10) rfl (by kernel_rfl) (by kernel_rfl) (by kernel_rfl) (fun _ _ _ h => h) (Or.inl ⟨by kernel_rfl, ?h2_10⟩) ?r2_10
  case h2_10 => (intro wt hSw; clear hSw; go_simp; try with_reducible rfl)
  simp only [Act.put, List.setIfInBounds_toArray, List.set_cons_zero, List.set_cons_succ]
  refine wpAnyG_take' (i := 11) (oi := { dst := some 45, op := Go.Op.fieldAddr 28 (Go.Operand.tmp 44) 4, type := 0, pos := "link.go:76", after := #[{ on := 10, ground := Go.Ground.data }, { on := 0, ground := Go.Ground.phase }, { on := 1, ground := Go.Ground.phase }, { on := 2, ground := Go.Ground.phase }, { on := 3, ground := Go.Ground.phase }, { on := 4, ground := Go.Ground.phase }, { on := 5, ground := Go.Ground.phase }, { on := 6, ground := Go.Ground.phase }, { on := 7, ground := Go.Ground.phase }, { on := 8, ground := Go.Ground.phase }], guard := none }) (v := ?v2_11) rfl (by kernel_rfl) (by kernel_rfl) (by kernel_rfl) (fun _ _ _ h => h) (Or.inl ⟨by kernel_rfl, ?h2_11⟩) ?r2_11
  case h2_11 => (intro wt hSw; clear hSw; go_simp; try with_reducible rfl)
  simp only [Act.put, List.setIfInBounds_toArray, List.set_cons_zero, List.set_cons_succ]
  refine wpAnyG_one (i := 12) (o := { dst := none, op := Go.Op.store 26 (Go.Operand.tmp 45) (Go.Operand.tmp 42), type := 0, pos := "link.go:76", after := #[{ on := 11, ground := Go.Ground.data }, { on := 8, ground := Go.Ground.data }, { on := 8, ground := Go.Ground.chain }, { on := 0, ground := Go.Ground.phase }, { on := 1, ground := Go.Ground.phase }, { on := 2, ground := Go.Ground.phase }, { on := 3, ground := Go.Ground.phase }, { on := 4, ground := Go.Ground.phase }, { on := 5, ground := Go.Ground.phase }, { on := 6, ground := Go.Ground.phase }, { on := 7, ground := Go.Ground.phase }, { on := 8, ground := Go.Ground.phase }], guard := none }) rfl (by kernel_rfl) (by kernel_rfl) ?_
  refine step_store1 (t := 26) (b := p) (k := 4) (av := a9) (n := jit.length) (c := c9) (.inr rfl) rfl rfl rfl q4 f4 ?_
  refine ⟨fun h => absurd (by simp) h, ?_⟩
  simp only [Act.put]
  refine wpAnyG_done (by kernel_rfl) ?_ _
  clear hHeld hHeld9 q4 f4
  go_upto_region 9 with fail
  refine wp_world fun w10 HW => ?_
  have HRLe : Hid (Row w10 p (rlk r d q (.slice a6 loss.length c6) (.slice a9 jit.length c9)) 82) := by show Row w10 _ _ _; rw [HW.out]; exact HRL9.out.set 4 _
  have HBe : Hid (Below w.heap.size w w10) := by
    show Below _ _ _
    rw [HW.out]
    exact below_two HBA.out ((below_two HB8.out (below_two (below_drewN (Below.refl _ _) 1) hB9 (Nat.le_refl _)) (Nat.le_refl _)).setCell (by have := HPP.out; show w2.heap.size ≤ p; omega) _) (Nat.le_refl _)
  clear HW HRL9 HRb9 HB8 HJ8 hO9 hB9 hx9 HRL8 HRb8 HBA HL2 HJ2 HPP HZL HZJ
  go_wp2_with fail
  go_ret2
  exact ⟨p, _, _, rfl, HRLe.out, HBe.out⟩
end Go.Proofs.Ytoeldomhkeancaa
