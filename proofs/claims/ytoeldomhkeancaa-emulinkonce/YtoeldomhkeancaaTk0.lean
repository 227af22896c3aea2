import Derived.Test.YtoeldomhkeancaaGo0
namespace Go.Proofs.Ytoeldomhkeancaa
open Go.RowKit Go.Maps
set_option maxRecDepth 100000

theorem info_55 : (Try.prog.info? 55).map (·.size) = some 3 := by kernel_rfl
/-- What takeOne comes to. -/
def TkC (p : Nat) (K : Lk) (w : World) (x : It Value) (ok : Bool) (w' : World) : Prop :=
  (ok = true ∧ x ∈ K.Fl ∧ x.at_ ≤ K.now ∧ (∀ y ∈ K.Fl, Le x.key y.key) ∧ ∃ L' fv', (x :: L').Perm K.Fl ∧ fv'.ownBlock = K.fv.ownBlock ∧ Lm p K w { K with Fl := L', fv := fv', come := K.come + 1 } w') ∨ (ok = false ∧ x = zIb ∧ (∀ y ∈ K.Fl, K.now < y.at_) ∧ Below w.heap.size w w')
theorem TkC.ahead {p : Nat} {K : Lk} {w w1 w2 : World} {x : It Value} {ok : Bool} (h : TkC p K w1 x ok w2) (hb : Below w.heap.size w w1) : TkC p K w x ok w2 := by
  rcases h with ⟨h1, h2, h3, h4, L', fv', h5, h6, h7⟩ | ⟨h1, h2, h3, h4⟩
  · exact .inl ⟨h1, h2, h3, h4, L', fv', h5, h6, h7.ahead hb⟩
  · exact .inr ⟨h1, h2, h3, below_two hb h4 (Nat.le_refl _)⟩
theorem fr_row (w : World) (b : Nat) (cs : Array Value) : Fr (fun j => j = b) w (w.setRow b cs) := by
  have := Only.setRow (S := [b]) (Only.refl [b] w) b cs (.inl (by simp))
  exact ⟨this.os, this.tape, this.output, this.size, fun k hk hne => this.block k hk (fun e => hne (by simpa using e))⟩
theorem TkC.fresh {p b : Nat} {K : Lk} {w w2 w3 : World} {x : It Value} {ok : Bool} (h : TkC p K w x ok w2) (hf : Fr (fun j => j = b) w2 w3) (hb : w.heap.size ≤ b) (hm : ∀ k, Mem p K k → k < w.heap.size) : TkC p K w x ok w3 := by
  rcases h with ⟨h1, h2, h3, h4, L', fv', h5, h6, h7⟩ | ⟨h1, h2, h3, h4⟩
  · refine .inl ⟨h1, h2, h3, h4, L', fv', h5, h6, h7.fresh hf hb (fun k hk e => ?_)⟩
    subst e
    have hk' : Mem p K k := by
      rcases hk with (hk | hk | hk) | hk | hk | ⟨y, hy, hk⟩
      · exact .inl (.inl hk)
      · exact .inl (.inr (.inl hk))
      · exact .inl (.inr (.inr (h6 ▸ hk)))
      · exact .inr (.inl hk)
      · exact .inr (.inr (.inl hk))
      · exact .inr (.inr (.inr ⟨y, h5.mem_iff.1 (by simp [show y ∈ L' from hy]), hk⟩))
    have := hm k hk'
    omega
  · exact .inr ⟨h1, h2, h3, h4.trans (hf.below (fun x e => by omega) h4.size)⟩
theorem mem_least {L : List (It Value)} (hh : Hp L.length (kat L)) {x : It Value} (hx : L[0]? = some x) : ∀ y ∈ L, Le x.key y.key := fun y hy => by
  obtain ⟨j, hj, e⟩ := List.getElem_of_mem hy
  have h1 := hh.least j hj
  rw [kat_get hx, kat_get (List.getElem?_eq_getElem hj), e] at h1
  exact h1
def TkP (p : Nat) (K : Lk) (w : World) (e : Ending) (w' : World) : Prop := ∃ x ok, e = .returned (.tuple #[.agg (icells x).toArray, .bool ok]) ∧ x.what.oneCell' = true ∧ TkC p K w x ok w'
set_option maxHeartbeats 4000000 in
/-- One frame is taken, if one has come. -/
theorem takeOne_any {w : World} {p : Nat} {K : Lk} (h : LkAt w p K) (hl : K.Fl.length ≤ 2932031007402) (hc : K.come + 1 ≤ 18446744073709551615) (hc0 : 0 ≤ K.come) :
    Calls Try.prog 24 #[pt p 0] w fun e w' => TkP p K w e w' := by
  have hb1 := below_new w (.cells #[.int .u64 0, .int .u64 0, .slice none 0 0] 55)
  have R2 := Row.new w (icells zIb) 55
  have hml := hid (fun k hk => h.lt hk : ∀ k, Mem p K k → k < w.heap.size)
  have h1 := h.below hb1
  clear h
  go_enter Try.func24, Try.ntmps24
  go_upto_region 1 with fail
  change Row (w.alloc (.cells #[.int .u64 0, .int .u64 0, .slice none 0 0] 55)) w.heap.size (icells zIb) 55 at R2
  have HB1 := hid hb1
  have HR2 := hid R2
  clear hb1 R2
  revert h1 HB1 HR2
  generalize w.alloc (.cells #[.int .u64 0, .int .u64 0, .slice none 0 0] 55) = w1
  intro h1 HB1 HR2
  obtain ⟨b0, hb0⟩ : ∃ b0, w.heap.size = b0 := ⟨_, rfl⟩
  rw [hb0] at HR2 ⊢
  have HB0 := hid hb0
  clear hb0
  obtain ⟨t, ht⟩ : ∃ t, K.now = t := ⟨_, rfl⟩
  have c5 := h1.row.cell 5 _ rfl
  rw [ht] at c5
  have HT := hid ht
  have HL := hid h1
  have HD : Hid (∀ w', Below w1.heap.size w1 w' → Calls Try.prog 38 #[pt p 14, .int .u64 t] w' fun e w2 => ∃ v, e = .returned v ∧ ∃ x ok, v = .tuple #[.agg (icells x).toArray, .bool ok] ∧ x.what.oneCell' = true ∧ DueCb p 14 K.cells K.fv K.Fl t w' x ok w2) := fun w' hb =>
    (due_anyb (h1.hf.below hb) h1.pf t hl).mono fun e w2 ⟨x, ok, h1, h2, h3⟩ => ⟨_, h1, x, ok, rfl, h2, h3⟩
  have HMr := hid h1.hf
  clear h1 ht
  go_cut [4, 5] from 6 to 17 (fun v4 v5 wx => DueRb p 14 K.cells K.fv K.Fl t w1 v4 v5 wx)
  case first =>
    refine wp_region_some (fun w' => w'.cell? ⟨p, 5, none⟩ = some (.int .u64 t)) [8, 13] (by kernel_rfl) ?_
    have hHeld := (show (fun w' => w'.cell? ⟨p, 5, none⟩ = some (.int .u64 t)) w1.drew from c5)
    refine wpAnyG_take' (i := 0) (oi := { dst := some 7, op := Go.Op.move (Go.Operand.tmp 0), type := 24, pos := "link.go:137", after := #[], guard := none }) (v := ?v2_0_1) rfl (by kernel_rfl) (by kernel_rfl) (by kernel_rfl) (fun _ _ _ h => h) (Or.inl ⟨by kernel_rfl, ?h2_0_1⟩) ?r2_0_1
    case h2_0_1 => (intro wt hSw; clear hSw; go_simp; try with_reducible rfl)
    simp only [Act.put, List.setIfInBounds_toArray, List.set_cons_zero, List.set_cons_succ]
    refine wpAnyG_take' (i := 1) (oi := { dst := some 8, op := Go.Op.nilCheck (Go.Operand.tmp 7), type := 0, pos := "link.go:137", after := #[{ on := 0, ground := Go.Ground.data }], guard := none }) (v := ?v2_1_2) rfl (by kernel_rfl) (by kernel_rfl) (by kernel_rfl) (fun _ _ _ h => h) (Or.inl ⟨by kernel_rfl, ?h2_1_2⟩) ?r2_1_2
    case h2_1_2 => (intro wt hSw; clear hSw; go_simp; try with_reducible rfl)
    simp only [Act.put, List.setIfInBounds_toArray, List.set_cons_zero, List.set_cons_succ]
    refine wpAnyG_take' (i := 2) (oi := { dst := some 9, op := Go.Op.fieldAddr 38 (Go.Operand.tmp 8) 3, type := 0, pos := "link.go:137", after := #[{ on := 1, ground := Go.Ground.data }], guard := none }) (v := ?v2_2_3) rfl (by kernel_rfl) (by kernel_rfl) (by kernel_rfl) (fun _ _ _ h => h) (Or.inl ⟨by kernel_rfl, ?h2_2_3⟩) ?r2_2_3
    case h2_2_3 => (intro wt hSw; clear hSw; go_simp; try with_reducible rfl)
    simp only [Act.put, List.setIfInBounds_toArray, List.set_cons_zero, List.set_cons_succ]
    refine wpAnyG_take' (i := 3) (oi := { dst := some 10, op := Go.Op.move (Go.Operand.tmp 0), type := 24, pos := "link.go:137", after := #[], guard := none }) (v := ?v2_3_4) rfl (by kernel_rfl) (by kernel_rfl) (by kernel_rfl) (fun _ _ _ h => h) (Or.inl ⟨by kernel_rfl, ?h2_3_4⟩) ?r2_3_4
    case h2_3_4 => (intro wt hSw; clear hSw; go_simp; try with_reducible rfl)
    simp only [Act.put, List.setIfInBounds_toArray, List.set_cons_zero, List.set_cons_succ]
    refine wpAnyG_take' (i := 4) (oi := { dst := some 11, op := Go.Op.nilCheck (Go.Operand.tmp 10), type := 0, pos := "link.go:137", after := #[{ on := 3, ground := Go.Ground.data }], guard := none }) (v := ?v2_4_5) rfl (by kernel_rfl) (by kernel_rfl) (by kernel_rfl) (fun _ _ _ h => h) (Or.inl ⟨by kernel_rfl, ?h2_4_5⟩) ?r2_4_5
    case h2_4_5 => (intro wt hSw; clear hSw; go_simp; try with_reducible rfl)
    simp only [Act.put, List.setIfInBounds_toArray, List.set_cons_zero, List.set_cons_succ]
    refine wpAnyG_take' (i := 5) (oi := { dst := some 12, op := Go.Op.fieldAddr 38 (Go.Operand.tmp 11) 1, type := 0, pos := "link.go:137", after := #[{ on := 4, ground := Go.Ground.data }], guard := none }) (v := ?v2_5_6) rfl (by kernel_rfl) (by kernel_rfl) (by kernel_rfl) (fun _ _ _ h => h) (Or.inl ⟨by kernel_rfl, ?h2_5_6⟩) ?r2_5_6
    case h2_5_6 => (intro wt hSw; clear hSw; go_simp; try with_reducible rfl)
    simp only [Act.put, List.setIfInBounds_toArray, List.set_cons_zero, List.set_cons_succ]
    refine wpAnyG_take' (i := 6) (oi := { dst := some 13, op := Go.Op.fieldAddr 30 (Go.Operand.tmp 12) 0, type := 0, pos := "link.go:137", after := #[{ on := 5, ground := Go.Ground.data }], guard := none }) (v := ?v2_6_7) rfl (by kernel_rfl) (by kernel_rfl) (by kernel_rfl) (fun _ _ _ h => h) (Or.inl ⟨by kernel_rfl, ?h2_6_7⟩) ?r2_6_7
    case h2_6_7 => (intro wt hSw; clear hSw; go_simp; try with_reducible rfl)
    simp only [Act.put, List.setIfInBounds_toArray, List.set_cons_zero, List.set_cons_succ]
    refine wpAnyG_take (i := 7) (oi := { dst := some 14, op := Go.Op.load 22 (Go.Operand.tmp 13), type := 22, pos := "link.go:137", after := #[{ on := 6, ground := Go.Ground.data }], guard := none }) (v := .int .u64 t) (by kernel_rfl) rfl (by kernel_rfl) (by kernel_rfl) (by kernel_rfl) (by kernel_rfl) (fun _ _ _ h => h) (Or.inl ⟨by kernel_rfl, ?h2_7_8⟩) (by assumption) ?r2_7_8
    case h2_7_8 => (intro wt hSw; (try dsimp only at hSw); go_simp; try with_reducible rfl)
    simp only [Act.put, List.setIfInBounds_toArray, List.set_cons_zero, List.set_cons_succ]
    refine wpAnyG_all (rs := [8, 12]) (by kernel_rfl) (by simp) ?_
    intro i hi
    simp only [List.mem_cons, List.not_mem_nil, or_false] at hi
    rcases hi with rfl | rfl
    · refine wpOpG_of (o := { dst := some 15, op := Go.Op.call { callee := Go.Callee.value (Go.Operand.func 38), args := #[Go.Operand.tmp 9, Go.Operand.tmp 14], argTypes := #[99, 22] }, type := 97, pos := "link.go:137", after := #[{ on := 2, ground := Go.Ground.data }, { on := 7, ground := Go.Ground.data }], guard := none }) rfl (by kernel_rfl) ?_
      refine step_callxb (f := 38) (args := #[pt p 14, .int .u64 t]) (by first | kernel_rfl | go_simp) (HD.out _ (below_drewN (Below.refl _ _) 1)) ?_
      rintro v7 w7 ⟨x, ok, rfl, hx1, hC⟩
      refine ⟨fun h => absurd (by simp) h, ?_⟩
      simp only [Act.put, List.setIfInBounds_toArray, List.set_cons_zero, List.set_cons_succ]
      refine wpAnyG_take' (i := 9) (oi := { dst := some 6, op := Go.Op.move (Go.Operand.tmp 15), type := 97, pos := "link.go:137", after := #[{ on := 8, ground := Go.Ground.data }], guard := none }) (v := ?v2_9_9) rfl (by kernel_rfl) (by kernel_rfl) (by kernel_rfl) (fun _ _ _ h => h) (Or.inl ⟨by kernel_rfl, ?h2_9_9⟩) ?r2_9_9
      case h2_9_9 => (intro wt hSw; clear hSw; go_simp; try with_reducible rfl)
      simp only [Act.put, List.setIfInBounds_toArray, List.set_cons_zero, List.set_cons_succ]
      refine wpAnyG_take' (i := 10) (oi := { dst := some 16, op := Go.Op.extract (Go.Operand.tmp 6) 0, type := 70, pos := "link.go:137", after := #[{ on := 9, ground := Go.Ground.data }], guard := none }) (v := .agg (icells x).toArray) rfl (by kernel_rfl) (by kernel_rfl) (by kernel_rfl) (fun _ _ _ h => h) (Or.inl ⟨by kernel_rfl, ?h2_10_10⟩) ?r2_10_10
      case h2_10_10 => (intro wt hSw; clear hSw; rfl)
      simp only [Act.put, List.setIfInBounds_toArray, List.set_cons_zero, List.set_cons_succ]
      refine wpAnyG_take' (i := 11) (oi := { dst := some 17, op := Go.Op.extract (Go.Operand.tmp 6) 1, type := 4, pos := "link.go:137", after := #[{ on := 9, ground := Go.Ground.data }, { on := 13, ground := Go.Ground.gcOnly Go.Departure.lateStores }], guard := none }) (v := .bool ok) rfl (by kernel_rfl) (by kernel_rfl) (by kernel_rfl) (fun _ _ _ h => h) (Or.inl ⟨by kernel_rfl, ?h2_11_11⟩) ?r2_11_11
      case h2_11_11 => (intro wt hSw; clear hSw; rfl)
      simp only [Act.put, List.setIfInBounds_toArray, List.set_cons_zero, List.set_cons_succ]
      refine wpAnyG_one (i := 12) (o := { dst := some 4, op := Go.Op.alloc 70, type := 0, pos := "link.go:137", after := #[], guard := none }) rfl (by kernel_rfl) (by kernel_rfl) ?_
      refine step_allocI_b (n := w7.heap.size) rfl rfl ?_
      refine ⟨fun _ h => cell_kept (below_new _ _) h, ?_⟩
      simp only [Act.put, List.setIfInBounds_toArray, List.set_cons_zero, List.set_cons_succ]
      refine wpAnyG_one (i := 13) (o := { dst := none, op := Go.Op.store 70 (Go.Operand.tmp 4) (Go.Operand.tmp 16), type := 0, pos := "link.go:137", after := #[{ on := 12, ground := Go.Ground.data }, { on := 10, ground := Go.Ground.data }, { on := 8, ground := Go.Ground.chain }, { on := 0, ground := Go.Ground.phase }, { on := 1, ground := Go.Ground.phase }, { on := 2, ground := Go.Ground.phase }, { on := 3, ground := Go.Ground.phase }, { on := 4, ground := Go.Ground.phase }, { on := 5, ground := Go.Ground.phase }, { on := 6, ground := Go.Ground.phase }, { on := 7, ground := Go.Ground.phase }, { on := 8, ground := Go.Ground.phase }, { on := 9, ground := Go.Ground.phase }, { on := 10, ground := Go.Ground.phase }, { on := 11, ground := Go.Ground.textOnly Go.Departure.lateStores }, { on := 12, ground := Go.Ground.phase }], guard := none }) rfl (by kernel_rfl) (by kernel_rfl) ?_
      obtain ⟨hT, hR⟩ := dueR_twob HMr.out (below_drewN (Below.refl _ _) 1) hC (below_new w7 _) (Row.new w7 (icells zIb) 70) (Nat.le_refl _)
      refine step_storeI_b (it := x) (b := w7.heap.size) (j := 0) rfl rfl rfl hT hx1 ?_
      refine ⟨fun h => absurd (by simp) h, ?_⟩
      simp only [Act.put]
      refine wpAnyG_take' (i := 14) (oi := { dst := some 5, op := Go.Op.assign (Go.Operand.tmp 17), type := 4, pos := "link.go:137", after := #[{ on := 11, ground := Go.Ground.data }, { on := 13, ground := Go.Ground.chain }, { on := 0, ground := Go.Ground.phase }, { on := 1, ground := Go.Ground.phase }, { on := 2, ground := Go.Ground.phase }, { on := 3, ground := Go.Ground.phase }, { on := 4, ground := Go.Ground.phase }, { on := 5, ground := Go.Ground.phase }, { on := 6, ground := Go.Ground.phase }, { on := 7, ground := Go.Ground.phase }, { on := 8, ground := Go.Ground.phase }, { on := 9, ground := Go.Ground.phase }, { on := 10, ground := Go.Ground.phase }, { on := 11, ground := Go.Ground.phase }, { on := 12, ground := Go.Ground.phase }, { on := 13, ground := Go.Ground.phase }], guard := none }) (v := .bool ok) rfl (by kernel_rfl) (by kernel_rfl) (by kernel_rfl) (fun _ _ _ h => h) (Or.inl ⟨by kernel_rfl, ?h2_14_12⟩) ?r2_14_12
      case h2_14_12 => (intro wt hSw; clear hSw; go_simp; try with_reducible rfl)
      simp only [Act.put, List.setIfInBounds_toArray, List.set_cons_zero, List.set_cons_succ]
      refine wpAnyG_done (by kernel_rfl) ?_ _
      clear hHeld HD
      go_wp2_with fail
      go_meet
      exact hR
    · refine wpOpG_of (o := { dst := some 4, op := Go.Op.alloc 70, type := 0, pos := "link.go:137", after := #[], guard := none }) rfl (by kernel_rfl) ?_
      refine step_allocI_b (n := w1.heap.size) rfl rfl ?_
      refine ⟨fun _ h => cell_kept (below_new _ _) h, ?_⟩
      simp only [Act.put, List.setIfInBounds_toArray, List.set_cons_zero, List.set_cons_succ]
      refine wpAnyG_one (i := 8) (o := { dst := some 15, op := Go.Op.call { callee := Go.Callee.value (Go.Operand.func 38), args := #[Go.Operand.tmp 9, Go.Operand.tmp 14], argTypes := #[99, 22] }, type := 97, pos := "link.go:137", after := #[{ on := 2, ground := Go.Ground.data }, { on := 7, ground := Go.Ground.data }], guard := none }) rfl (by kernel_rfl) (by kernel_rfl) ?_
      refine step_callxb (f := 38) (args := #[pt p 14, .int .u64 t]) (by first | kernel_rfl | go_simp) (HD.out _ (Below.alloc (below_drewN (Below.refl _ _) 1) (Nat.le_refl _) _)) ?_
      rintro v7 w7 ⟨x, ok, rfl, hx1, hC⟩
      refine ⟨fun h => absurd (by simp) h, ?_⟩
      simp only [Act.put, List.setIfInBounds_toArray, List.set_cons_zero, List.set_cons_succ]
      refine wpAnyG_take' (i := 9) (oi := { dst := some 6, op := Go.Op.move (Go.Operand.tmp 15), type := 97, pos := "link.go:137", after := #[{ on := 8, ground := Go.Ground.data }], guard := none }) (v := ?v2_9_13) rfl (by kernel_rfl) (by kernel_rfl) (by kernel_rfl) (fun _ _ _ h => h) (Or.inl ⟨by kernel_rfl, ?h2_9_13⟩) ?r2_9_13
      case h2_9_13 => (intro wt hSw; clear hSw; go_simp; try with_reducible rfl)
      simp only [Act.put, List.setIfInBounds_toArray, List.set_cons_zero, List.set_cons_succ]
      refine wpAnyG_take' (i := 10) (oi := { dst := some 16, op := Go.Op.extract (Go.Operand.tmp 6) 0, type := 70, pos := "link.go:137", after := #[{ on := 9, ground := Go.Ground.data }], guard := none }) (v := .agg (icells x).toArray) rfl (by kernel_rfl) (by kernel_rfl) (by kernel_rfl) (fun _ _ _ h => h) (Or.inl ⟨by kernel_rfl, ?h2_10_14⟩) ?r2_10_14
      case h2_10_14 => (intro wt hSw; clear hSw; rfl)
      simp only [Act.put, List.setIfInBounds_toArray, List.set_cons_zero, List.set_cons_succ]
      refine wpAnyG_take' (i := 11) (oi := { dst := some 17, op := Go.Op.extract (Go.Operand.tmp 6) 1, type := 4, pos := "link.go:137", after := #[{ on := 9, ground := Go.Ground.data }, { on := 13, ground := Go.Ground.gcOnly Go.Departure.lateStores }], guard := none }) (v := .bool ok) rfl (by kernel_rfl) (by kernel_rfl) (by kernel_rfl) (fun _ _ _ h => h) (Or.inl ⟨by kernel_rfl, ?h2_11_15⟩) ?r2_11_15
      case h2_11_15 => (intro wt hSw; clear hSw; rfl)
      simp only [Act.put, List.setIfInBounds_toArray, List.set_cons_zero, List.set_cons_succ]
      refine wpAnyG_one (i := 13) (o := { dst := none, op := Go.Op.store 70 (Go.Operand.tmp 4) (Go.Operand.tmp 16), type := 0, pos := "link.go:137", after := #[{ on := 12, ground := Go.Ground.data }, { on := 10, ground := Go.Ground.data }, { on := 8, ground := Go.Ground.chain }, { on := 0, ground := Go.Ground.phase }, { on := 1, ground := Go.Ground.phase }, { on := 2, ground := Go.Ground.phase }, { on := 3, ground := Go.Ground.phase }, { on := 4, ground := Go.Ground.phase }, { on := 5, ground := Go.Ground.phase }, { on := 6, ground := Go.Ground.phase }, { on := 7, ground := Go.Ground.phase }, { on := 8, ground := Go.Ground.phase }, { on := 9, ground := Go.Ground.phase }, { on := 10, ground := Go.Ground.phase }, { on := 11, ground := Go.Ground.textOnly Go.Departure.lateStores }, { on := 12, ground := Go.Ground.phase }], guard := none }) rfl (by kernel_rfl) (by kernel_rfl) ?_
      obtain ⟨hT, hR⟩ := dueR_oneb (w := w1) (b := w1.heap.size) HMr.out (Below.alloc (below_drewN (Below.refl _ _) 1) (Nat.le_refl _) _) (Row.new w1.drew (icells zIb) 70) (Nat.le_refl _) hC
      refine step_storeI_b (it := x) (b := w1.heap.size) (j := 0) rfl rfl rfl hT hx1 ?_
      refine ⟨fun h => absurd (by simp) h, ?_⟩
      simp only [Act.put]
      refine wpAnyG_take' (i := 14) (oi := { dst := some 5, op := Go.Op.assign (Go.Operand.tmp 17), type := 4, pos := "link.go:137", after := #[{ on := 11, ground := Go.Ground.data }, { on := 13, ground := Go.Ground.chain }, { on := 0, ground := Go.Ground.phase }, { on := 1, ground := Go.Ground.phase }, { on := 2, ground := Go.Ground.phase }, { on := 3, ground := Go.Ground.phase }, { on := 4, ground := Go.Ground.phase }, { on := 5, ground := Go.Ground.phase }, { on := 6, ground := Go.Ground.phase }, { on := 7, ground := Go.Ground.phase }, { on := 8, ground := Go.Ground.phase }, { on := 9, ground := Go.Ground.phase }, { on := 10, ground := Go.Ground.phase }, { on := 11, ground := Go.Ground.phase }, { on := 12, ground := Go.Ground.phase }, { on := 13, ground := Go.Ground.phase }], guard := none }) (v := .bool ok) rfl (by kernel_rfl) (by kernel_rfl) (by kernel_rfl) (fun _ _ _ h => h) (Or.inl ⟨by kernel_rfl, ?h2_14_16⟩) ?r2_14_16
      case h2_14_16 => (intro wt hSw; clear hSw; go_simp; try with_reducible rfl)
      simp only [Act.put, List.setIfInBounds_toArray, List.set_cons_zero, List.set_cons_succ]
      refine wpAnyG_done (by kernel_rfl) ?_ _
      clear hHeld HD
      go_wp2_with fail
      go_meet
      exact hR
  case rest =>
    obtain ⟨b, x, ok, rfl, rfl, hb, hR, hC⟩ := hcut
    have hbb : b0 < b := by have := HR2.out.lt; omega
    have hbf : K.fv.ownBlock ≠ some b0 := fun e => by have := hml.out b0 (.inl (.inr (.inr e))); have := HB0.out; omega
    have hbp : p ≠ b0 := fun e => by have := hml.out p (.inl (.inl rfl)); have := HB0.out; omega
    have HR3 := hid (hC.row HR2.out hbp hbf)
    rcases hC with ⟨rfl, hx0, hxt, fv', L', e1, e2, e3, e4, e5⟩ | ⟨rfl, rfl, hy, hB⟩
    · have hsep : Sep (x :: L') := HL.out.sep.perm e2.symm
      have M1 : Lm p K w1 { K with Fl := L', fv := fv' } wc := HL.out.turnF (D' := K.D) e1 e3 e4 (fun g e => .inl (e5 ▸ e)) (fun y hy => HL.out.by_ y (e2.mem_iff.1 (by simp [hy]))) (List.pairwise_cons.1 hsep).2
      have c10 := M1.at_.row.cell 10 _ rfl
      have f10 := M1.at_.row.frozen 10
      have M2 : Lm p K w1 { K with Fl := L', fv := fv', come := K.come + 1 } (wc.setCell ⟨p, 10, none⟩ (.int .u64 (K.come + 1))) := M1.trans (M1.at_.set 10 _ rfl (by decide) (by decide) rfl rfl rfl rfl rfl rfl rfl rfl rfl)
      have hpb : b ≠ p := fun e => by have := HL.out.row.lt; omega
      have R4 := hR.setOther ⟨p, 10, none⟩ hpb (.int .u64 (K.come + 1))
      have d0 := R4.cell 0 _ rfl
      have d1 := R4.cell 1 _ rfl
      have d2 := R4.cell 2 _ rfl
      obtain ⟨xa, xc, hxw, -⟩ := ownBy_shape (HL.out.by_ x (List.mem_of_getElem? hx0))
      obtain ⟨xl, hxl⟩ : ∃ xl, (K.D x.num).length = xl := ⟨_, rfl⟩
      rw [hxl] at hxw
      rw [hxw] at d2
      have HIC : Hid (icells x = [.int .u64 x.at_, .int .u64 x.num, .slice xa xl xc]) := by show _ = _; rw [icells, hxw]
      have HR5 := hid (HR3.out.setOther ⟨p, 10, none⟩ (fun e => hbp e.symm) (.int .u64 (K.come + 1)))
      have ox : x.what.oneCell' = true := HL.out.hf.one x (List.mem_of_getElem? hx0)
      have HTC : Hid (TkC p K w1 x true (wc.setCell ⟨p, 10, none⟩ (.int .u64 (K.come + 1)))) := hid (.inl ⟨rfl, List.mem_of_getElem? hx0, by rw [HT.out]; exact hxt, mem_least HL.out.pf hx0, L', fv', e2, e5, M2⟩)
      clear hR hx0 hxt e1 e2 e3 e4 e5 hsep M1 M2 R4 HR3 HMr HD HT hxw hxl
      go_wp2_with (show wpList _ _ _ (Oper.mk none (.store 55 (.tmp 2) (.tmp 36)) _ _ _ _ :: _) _ _; refine HR5.out.wpStore' 55 (.tmp 2) (.tmp 36) [.int .u64 x.at_, .int .u64 x.num, .slice xa xl xc] rfl rfl rfl rfl rfl (by intro u hu; simp only [List.mem_cons, List.not_mem_nil, or_false] at hu; rcases hu with rfl | rfl | rfl <;> rfl) info_55 ?_; intro w8 HW8)
      have R8 : Row w8 b0 (icells x) 55 := by rw [HW8.out, HIC.out]; exact HR5.out.row _
      have hF8 : Fr (fun j => j = b0) (wc.setCell ⟨p, 10, none⟩ (.int .u64 (K.come + 1))) w8 := by rw [HW8.out]; exact fr_row _ _ _
      refine bodyPost_ret (R8.result2 Try.results24 _ rfl _ Try.underlying55 rfl info_55) rfl ?_
      exact ⟨x, true, rfl, ox, (HTC.out.ahead HB1.out).fresh hF8 (Nat.le_of_eq HB0.out) hml.out⟩
    · have HTC : Hid (TkC p K w1 zIb false wc) := hid (.inr ⟨rfl, rfl, by rw [HT.out]; exact lat_all HL.out.pf hy, hB⟩)
      clear hR hB HMr HD HT
      go_wp2_with (show wpList _ _ _ (Oper.mk none (.store 55 (.tmp 2) (.tmp 20)) _ _ _ _ :: _) _ _; refine HR3.out.wpStore' 55 (.tmp 2) (.tmp 20) (icells zIb) rfl rfl rfl rfl rfl (icells_one rfl) info_55 ?_; intro w8 HW8)
      have R8 : Row w8 b0 (icells zIb) 55 := by rw [HW8.out]; exact HR3.out.row _
      have hF8 : Fr (fun j => j = b0) wc w8 := by rw [HW8.out]; exact fr_row _ _ _
      exact bodyPost_ret (R8.result2 Try.results24 _ rfl _ Try.underlying55 rfl info_55) rfl ⟨zIb, false, rfl, rfl, (HTC.out.ahead HB1.out).fresh hF8 (Nat.le_of_eq HB0.out) hml.out⟩
end Go.Proofs.Ytoeldomhkeancaa
