import Derived.Test.YtoeldomhkeancaaNl0
namespace Go.Proofs.Ytoeldomhkeancaa
open Go.RowKit Go.Maps
set_option maxRecDepth 100000

set_option maxHeartbeats 4000000 in
/-- A link. -/
theorem new_ok2 {w : World} {r d q : Int} {la ja : Option Addr} {lc jc : Nat} {loss : List Bool} {jit : List Int} (hlo : ElAt w la (loss.map Value.bool)) (hj : ElAt w ja (jit.map (Value.int .i64))) (hf : fitE r d q loss.length jit = 0) :
    Calls Try.prog 15 #[.agg (confC r d q (.slice la loss.length lc) (.slice ja jit.length jc)).toArray] w fun e w' => ∃ p lv jv, e = .returned (.tuple #[pt p 0, .int .i64 0]) ∧ LkAt w' p (Lk.fresh r d q loss jit lv jv) ∧ w.heap.size ≤ p ∧ (∀ g, lv.ownBlock = some g → w.heap.size ≤ g) ∧ (∀ g, jv.ownBlock = some g → w.heap.size ≤ g) ∧ Below w.heap.size w w' := by
  have hok := fresh_ok (lv := .slice none 0 0) (jv := .slice none 0 0) hf
  have hll : loss.length ≤ 65536 := hok.ln
  have hjl : jit.length ≤ 65536 := hok.jn
  have hb1 := below_new w (.cells #[.int .i64 r, .int .i64 d, .int .i64 q, .slice la loss.length lc, .slice ja jit.length jc] 28)
  have R := Row.new w (confC r d q (.slice la loss.length lc) (.slice ja jit.length jc)) 28
  have HF := hid (fit_any (r := r) (d := d) (q := q) (la := la) (lc := lc) (jc := jc) (hj.kept hb1) (by omega) (show loss.length ≤ _ by omega))
  rw [hf] at HF
  have x0 := R.cell 0 _ rfl
  have x1 := R.cell 1 _ rfl
  have x2 := R.cell 2 _ rfl
  have x3 := R.cell 3 _ rfl
  have x4 := R.cell 4 _ rfl
  have HB := hid hb1
  have HLO := hid (hlo.kept hb1)
  have HJI := hid (hj.kept hb1)
  have HR := hid R
  simp only [confC] at *
  clear hj hlo R hb1 hok
  go_enter Try.func15, Try.ntmps15
  go_upto_region 1 with fail
  revert HF x0 x1 x2 x3 x4 HB HLO HJI HR
  generalize w.alloc (.cells #[.int .i64 r, .int .i64 d, .int .i64 q, .slice la loss.length lc, .slice ja jit.length jc] 28) = w1
  intro HF x0 x1 x2 x3 x4 HB HLO HJI HR
  obtain ⟨b, hb⟩ : ∃ b, w.heap.size = b := ⟨_, rfl⟩
  rw [hb] at x0 x1 x2 x3 x4 HR ⊢
  have HBB := hid hb
  clear hb
  go_upto_region 4 with (go_at_call 25; refine HF.out.mono ?_; rintro e w2 ⟨rfl, hb2⟩; have HB2 := hid hb2; clear hb2)
  have y0 := cell_kept HB2.out x0
  have y1 := cell_kept HB2.out x1
  have y2 := cell_kept HB2.out x2
  have y3 := cell_kept HB2.out x3
  have y4 := cell_kept HB2.out x4
  have HL2 := hid (HLO.out.kept HB2.out)
  have HJ2 := hid (HJI.out.kept HB2.out)
  have HR2 := hid (HR.out.kept HB2.out HR.out.lt)
  have HBA := hid (below_two HB.out HB2.out (Nat.le_refl _))
  clear x0 x1 x2 x3 x4 HLO HJI HR HB HB2 HF
  have HC1 : Hid (∀ w', Below w2.heap.size w2 w' → Calls Try.prog 26 #[.slice la loss.length lc] w' fun e w3 => ∃ v, e = .returned v ∧ (w3.ownsRow w'.heap.size 4 1 v loss.length (loss.map Value.bool) ∧ Below w'.heap.size w' w3)) := fun w' hb => clone_b (HL2.out.kept hb) (by simp) (by intro u hu; obtain ⟨x, _, rfl⟩ := List.mem_map.1 hu; rfl) hll
  have HC2 : Hid (∀ w', Below w2.heap.size w2 w' → Calls Try.prog 27 #[.slice ja jit.length jc] w' fun e w3 => ∃ v, e = .returned v ∧ (w3.ownsRow w'.heap.size 3 1 v jit.length (jit.map (Value.int .i64)) ∧ Below w'.heap.size w' w3)) := fun w' hb => clone_i (HJ2.out.kept hb) (by simp) (by intro u hu; obtain ⟨x, _, rfl⟩ := List.mem_map.1 hu; rfl) hjl
  refine wp_region_some (fun w' => w'.cell? ⟨b, 3, none⟩ = some (.slice la loss.length lc) ∧ w'.cell? ⟨b, 4, none⟩ = some (.slice ja jit.length jc)) [7, 9] (by kernel_rfl) ?_
  have hHeld := (show (fun w' => w'.cell? ⟨b, 3, none⟩ = some (.slice la loss.length lc) ∧ w'.cell? ⟨b, 4, none⟩ = some (.slice ja jit.length jc)) w2.drew from ⟨y3, y4⟩)
  refine wpAnyG_take' (i := 0) (oi := { dst := some 10, op := Go.Op.fieldAddr 28 (Go.Operand.tmp 1) 3, type := 0, pos := "link.go:25", after := #[], guard := none }) (v := ?v1_0) rfl (by kernel_rfl) (by kernel_rfl) (by kernel_rfl) (fun _ _ _ h => h) (Or.inl ⟨by kernel_rfl, ?h1_0⟩) ?r1_0
  case h1_0 => (intro wt hSw; clear hSw; go_simp; try with_reducible rfl)
  simp only [Act.put, List.setIfInBounds_toArray, List.set_cons_zero, List.set_cons_succ]
  refine wpAnyG_take (i := 1) (oi := { dst := some 11, op := Go.Op.load 25 (Go.Operand.tmp 10), type := 25, pos := "link.go:25", after := #[{ on := 0, ground := Go.Ground.data }], guard := none }) (v := ?v1_1) (by kernel_rfl) rfl (by kernel_rfl) (by kernel_rfl) (by kernel_rfl) (by kernel_rfl) (fun _ _ _ h => h) (Or.inl ⟨by kernel_rfl, ?h1_1⟩) (by assumption) ?r1_1
  case h1_1 => (intro wt hSw; (try dsimp only at hSw); obtain ⟨s0, s1⟩ := hSw; go_simp; try rfl)
  simp only [Act.put, List.setIfInBounds_toArray, List.set_cons_zero, List.set_cons_succ]
  refine wpAnyG_take' (i := 3) (oi := { dst := some 13, op := Go.Op.fieldAddr 28 (Go.Operand.tmp 1) 4, type := 0, pos := "link.go:25", after := #[], guard := none }) (v := ?v1_3) rfl (by kernel_rfl) (by kernel_rfl) (by kernel_rfl) (fun _ _ _ h => h) (Or.inl ⟨by kernel_rfl, ?h1_3⟩) ?r1_3
  case h1_3 => (intro wt hSw; clear hSw; go_simp; try with_reducible rfl)
  simp only [Act.put, List.setIfInBounds_toArray, List.set_cons_zero, List.set_cons_succ]
  refine wpAnyG_take (i := 4) (oi := { dst := some 14, op := Go.Op.load 26 (Go.Operand.tmp 13), type := 26, pos := "link.go:25", after := #[{ on := 3, ground := Go.Ground.data }], guard := none }) (v := ?v1_4) (by kernel_rfl) rfl (by kernel_rfl) (by kernel_rfl) (by kernel_rfl) (by kernel_rfl) (fun _ _ _ h => h) (Or.inl ⟨by kernel_rfl, ?h1_4⟩) (by assumption) ?r1_4
  case h1_4 => (intro wt hSw; (try dsimp only at hSw); obtain ⟨s0, s1⟩ := hSw; go_simp; try rfl)
  simp only [Act.put, List.setIfInBounds_toArray, List.set_cons_zero, List.set_cons_succ]
  refine wpAnyG_one (i := 2) (o := { dst := some 12, op := Go.Op.call { callee := Go.Callee.value (Go.Operand.func 26), args := #[Go.Operand.tmp 11], argTypes := #[25] }, type := 25, pos := "link.go:25", after := #[{ on := 1, ground := Go.Ground.data }], guard := none }) rfl (by kernel_rfl) (by kernel_rfl) ?_
  refine step_callxi (f := 26) (args := #[.slice la loss.length lc]) (by first | kernel_rfl | go_simp) (HC1.out _ (below_drewN (Below.refl _ _) 1)) ?_
  rintro v3 w3 ⟨hO3, hB3⟩
  have hHeld3 := (show (fun w' => w'.cell? ⟨b, 3, none⟩ = some (.slice la loss.length lc) ∧ w'.cell? ⟨b, 4, none⟩ = some (.slice ja jit.length jc)) w3 from ⟨cell_kept hB3 hHeld.1, cell_kept hB3 hHeld.2⟩)
  have hBB3 : Below w2.heap.size w2 w3 := below_two (below_drewN (Below.refl _ _) 1) hB3 (Nat.le_refl _)
  obtain ⟨a3, c3, rfl, -⟩ := own1 hO3
  refine ⟨fun _ _ => hHeld3, ?_⟩
  simp only [Act.put, List.setIfInBounds_toArray, List.set_cons_zero, List.set_cons_succ]
  refine wpAnyG_take' (i := 6) (oi := { dst := some 16, op := Go.Op.fieldAddr 28 (Go.Operand.tmp 1) 3, type := 0, pos := "link.go:25", after := #[{ on := 0, ground := Go.Ground.phase }, { on := 1, ground := Go.Ground.phase }, { on := 2, ground := Go.Ground.phase }, { on := 3, ground := Go.Ground.phase }, { on := 4, ground := Go.Ground.phase }, { on := 5, ground := Go.Ground.textOnly Go.Departure.lateStoresUnsure }], guard := none }) (v := ?v1_6) rfl (by kernel_rfl) (by kernel_rfl) (by kernel_rfl) (fun _ _ _ h => h) (Or.inl ⟨by kernel_rfl, ?h1_6⟩) ?r1_6
  case h1_6 => (intro wt hSw; clear hSw; go_simp; try with_reducible rfl)
  simp only [Act.put, List.setIfInBounds_toArray, List.set_cons_zero, List.set_cons_succ]
  refine wpAnyG_one (i := 5) (o := { dst := some 15, op := Go.Op.call { callee := Go.Callee.value (Go.Operand.func 27), args := #[Go.Operand.tmp 14], argTypes := #[26] }, type := 26, pos := "link.go:25", after := #[{ on := 4, ground := Go.Ground.data }, { on := 2, ground := Go.Ground.chain }], guard := none }) rfl (by kernel_rfl) (by kernel_rfl) ?_
  refine step_callxi (f := 27) (args := #[.slice ja jit.length jc]) (by first | kernel_rfl | go_simp) (HC2.out _ hBB3) ?_
  rintro v4 w4 ⟨hO4, hB4⟩
  have hHeld4 := (show (fun w' => w'.cell? ⟨b, 3, none⟩ = some (.slice la loss.length lc) ∧ w'.cell? ⟨b, 4, none⟩ = some (.slice ja jit.length jc)) w4 from ⟨cell_kept hB4 hHeld3.1, cell_kept hB4 hHeld3.2⟩)
  obtain ⟨a4, c4, rfl, -⟩ := own1 hO4
  have hBB4 : Below w2.heap.size w2 w4 := below_two hBB3 hB4 (Nat.le_refl _)
  have HR4 := hid (HR2.out.kept hBB4 HR2.out.lt)
  have HO3 := hid (own_less (own_below hO3 hB4) (Nat.zero_le _))
  have HGa := hid (fun g e => Nat.le_trans (Nat.le_trans HBA.out.size (Nat.le_refl _)) (own_ge hO3 e) : ∀ g : Nat, (Value.slice a3 loss.length c3).ownBlock = some g → w.heap.size ≤ g)
  have HGb := hid (fun g e => Nat.le_trans (Nat.le_trans HBA.out.size hBB3.size) (own_ge hO4 e) : ∀ g : Nat, (Value.slice a4 jit.length c4).ownBlock = some g → w.heap.size ≤ g)
  have HO4 := hid (own_less hO4 (Nat.zero_le _))
  have HG3 := hid (fun g e => Nat.le_trans hBB3.size (Nat.le_refl _) : ∀ g : Nat, (Value.slice a3 loss.length c3).ownBlock = some g → w2.heap.size ≤ w3.heap.size)
  have q3 := HR4.out.cell 3 _ rfl
  have f3 := HR4.out.frozen 3
  have HR5 := hid (HR4.out.set 3 (.slice a3 loss.length c3))
  have q4 := HR5.out.cell 4 _ rfl
  have f4 := HR5.out.frozen 4
  refine ⟨fun _ _ => hHeld4, ?_⟩
  simp only [Act.put, List.setIfInBounds_toArray, List.set_cons_zero, List.set_cons_succ]
  refine wpAnyG_one (i := 7) (o := { dst := none, op := Go.Op.store 25 (Go.Operand.tmp 16) (Go.Operand.tmp 12), type := 0, pos := "link.go:25", after := #[{ on := 6, ground := Go.Ground.data }, { on := 2, ground := Go.Ground.data }, { on := 5, ground := Go.Ground.chain }, { on := 0, ground := Go.Ground.phase }, { on := 1, ground := Go.Ground.phase }, { on := 2, ground := Go.Ground.phase }, { on := 3, ground := Go.Ground.phase }, { on := 4, ground := Go.Ground.phase }, { on := 5, ground := Go.Ground.textOnly Go.Departure.lateStoresUnsure }], guard := none }) rfl (by kernel_rfl) (by kernel_rfl) ?_
  refine step_store1 (t := 25) (b := b) (k := 3) (av := a3) (n := loss.length) (c := c3) (.inl rfl) rfl rfl rfl q3 f3 ?_
  refine ⟨fun h => absurd (by simp) h, ?_⟩
  simp only [Act.put]
  refine wpAnyG_take' (i := 8) (oi := { dst := some 17, op := Go.Op.fieldAddr 28 (Go.Operand.tmp 1) 4, type := 0, pos := "link.go:25", after := #[{ on := 0, ground := Go.Ground.phase }, { on := 1, ground := Go.Ground.phase }, { on := 2, ground := Go.Ground.phase }, { on := 3, ground := Go.Ground.phase }, { on := 4, ground := Go.Ground.phase }, { on := 5, ground := Go.Ground.phase }, { on := 6, ground := Go.Ground.phase }, { on := 7, ground := Go.Ground.phase }], guard := none }) (v := ?v1_8) rfl (by kernel_rfl) (by kernel_rfl) (by kernel_rfl) (fun _ _ _ h => h) (Or.inl ⟨by kernel_rfl, ?h1_8⟩) ?r1_8
  case h1_8 => (intro wt hSw; clear hSw; go_simp; try with_reducible rfl)
  simp only [Act.put, List.setIfInBounds_toArray, List.set_cons_zero, List.set_cons_succ]
  refine wpAnyG_one (i := 9) (o := { dst := none, op := Go.Op.store 26 (Go.Operand.tmp 17) (Go.Operand.tmp 15), type := 0, pos := "link.go:25", after := #[{ on := 8, ground := Go.Ground.data }, { on := 5, ground := Go.Ground.data }, { on := 7, ground := Go.Ground.chain }, { on := 0, ground := Go.Ground.phase }, { on := 1, ground := Go.Ground.phase }, { on := 2, ground := Go.Ground.phase }, { on := 3, ground := Go.Ground.phase }, { on := 4, ground := Go.Ground.phase }, { on := 5, ground := Go.Ground.phase }, { on := 6, ground := Go.Ground.phase }, { on := 7, ground := Go.Ground.phase }], guard := none }) rfl (by kernel_rfl) (by kernel_rfl) ?_
  refine step_store1 (t := 26) (b := b) (k := 4) (av := a4) (n := jit.length) (c := c4) (.inr rfl) rfl rfl rfl q4 f4 ?_
  refine ⟨fun h => absurd (by simp) h, ?_⟩
  simp only [Act.put]
  refine wpAnyG_done (by kernel_rfl) ?_ _
  have HR6 := hid (HR5.out.set 4 (.slice a4 jit.length c4))
  have hF6 : Fr (fun k => k = b) w4 ((w4.setCell ⟨b, 3, none⟩ (.slice a3 loss.length c3)).setCell ⟨b, 4, none⟩ (.slice a4 jit.length c4)) := ((Fr.refl (fun k => k = b) w4).setCell b 3 _ (.inl rfl)).setCell b 4 _ (.inl rfl)
  have HO6 := hid (hF6.own HO3.out (fun g e e' => own_row HO3.out HR4.out (by decide) (e' ▸ e)))
  have HO7 := hid (hF6.own HO4.out (fun g e e' => own_row HO4.out HR4.out (by decide) (e' ▸ e)))
  have hBA4 : Below w.heap.size w w4 := below_two HBA.out hBB4 (Nat.le_refl _)
  have HB6 := hid (hBA4.trans (hF6.below (fun x e => by have := HBB.out; omega) hBA4.size))
  clear hBA4 hF6 HO3 HO4 hBB3 hBB4 HBA HR4 HR5 HR2 q3 q4 f3 f4 hHeld hHeld3 hHeld4 hO3 hO4 hB3 hB4 HC1 HC2 HL2 HJ2 HG3 y0 y1 y2 y3 y4
  revert HR6 HO6 HO7 HB6
  generalize (w4.setCell ⟨b, 3, none⟩ (.slice a3 loss.length c3)).setCell ⟨b, 4, none⟩ (.slice a4 jit.length c4) = w6
  intro HR6 HO6 HO7 HB6
  have z0 := HR6.out.cell 0 _ rfl
  have z1 := HR6.out.cell 1 _ rfl
  have z2 := HR6.out.cell 2 _ rfl
  have z3 := HR6.out.cell 3 _ rfl
  have z4 := HR6.out.cell 4 _ rfl
  have hba := hid (below_new w6 (.cells (Lk.fresh r d q loss jit (.slice a3 loss.length c3) (.slice a4 jit.length c4)).cells.toArray 38))
  have HRL := hid (Row.new w6 (Lk.fresh r d q loss jit (.slice a3 loss.length c3) (.slice a4 jit.length c4)).cells 38)
  have HEND := hid (fresh_at HRL.out (own_below HO6.out hba.out) (own_below HO7.out hba.out))
  have HS6 := hid HB6.out.size
  have HBE := hid (HB6.out.trans (hba.out.mono HB6.out.size))
  clear HRL hba HO6 HO7 HR6 HB6 w1
  go_wp2_with fail
  go_ret2
  exact ⟨w6.heap.size, _, _, rfl, HEND.out, HS6.out, HGa.out, HGb.out, HBE.out⟩
end Go.Proofs.Ytoeldomhkeancaa
