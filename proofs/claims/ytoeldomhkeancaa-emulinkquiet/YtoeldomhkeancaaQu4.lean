import Derived.Test.YtoeldomhkeancaaQu5
namespace Go.Proofs.Ytoeldomhkeancaa
open Go.RowKit Go.Maps
set_option maxRecDepth 100000

theorem qui_fresh {r d q : Int} {loss : List Bool} {jit : List Int} {lv jv lv2 jv2 : Value} : QuI (Lk.fresh r d q loss jit lv jv) (Lk.fresh r d q loss jit lv2 jv2) [] 0 :=
  ⟨rfl, rfl, rfl, rfl, rfl, rfl, rfl, rfl, rfl, .refl _, rfl, .refl _, fun _ he => absurd he List.not_mem_nil⟩
theorem foot_fresh {r d q : Int} {loss : List Bool} {jit : List Int} {lv jv : Value} {p k : Nat} (h : Foot p (Lk.fresh r d q loss jit lv jv) k) : k = p := by
  rcases h with e | e | e
  · exact e
  · exact absurd e (by simp [Lk.fresh, Value.ownBlock])
  · exact absurd e (by simp [Lk.fresh, Value.ownBlock])
set_option maxHeartbeats 8000000 in
/-- How often a link is asked changes nothing. -/
theorem quiet_law {w : World} {r d q : Int} {la ja sa : Option Addr} {lc jc sc : Nat} {loss : List Bool} {jit : List Int} {l : List Opv} (hlo : ElAt w la (loss.map Value.bool)) (hj : ElAt w ja (jit.map (Value.int .i64))) (hll : loss.length ≤ 140737488355328) (hjl : jit.length ≤ 140737488355328) (hS : OpsAt w w.heap.size sa l) (hl : l.length ≤ 2932031007402) :
    Calls Try.prog 7 #[.agg (confC r d q (.slice la loss.length lc) (.slice ja jit.length jc)).toArray, .slice sa l.length sc] w fun e w' => e = .returned (.bool true) ∧ Below w.heap.size w w' := by
  have HA : Hid (∀ w, Calls Try.prog 13 #[] w fun e w' => e = .returned (.bool true) ∧ Below w.heap.size w w') := alive_any
  have hb1 := below_new w (.cells #[.int .i64 r, .int .i64 d, .int .i64 q, .slice la loss.length lc, .slice ja jit.length jc] 28)
  have R := Row.new w (confC r d q (.slice la loss.length lc) (.slice ja jit.length jc)) 28
  have HF := hid (fitc_any (r := r) (d := d) (q := q) (lc := lc) (jc := jc) (hlo.kept hb1) (hj.kept hb1) hll hjl)
  have x0 := R.cell 0 _ rfl
  have x1 := R.cell 1 _ rfl
  have x2 := R.cell 2 _ rfl
  have x3 := R.cell 3 _ rfl
  have x4 := R.cell 4 _ rfl
  have HB1 := hid hb1
  have HR := hid R
  have HS := hid hS
  simp only [confC] at *
  clear hj hlo R hb1 hS hll hjl
  go_enter Try.func7, Try.ntmps7
  go_upto_region 1 with fail
  revert HF x0 x1 x2 x3 x4 HB1 HR
  generalize w.alloc (.cells #[.int .i64 r, .int .i64 d, .int .i64 q, .slice la loss.length lc, .slice ja jit.length jc] 28) = w1
  intro HF x0 x1 x2 x3 x4 HB1 HR
  obtain ⟨b, hb⟩ : ∃ b, w.heap.size = b := ⟨_, rfl⟩
  rw [hb] at x0 x1 x2 x3 x4 HR ⊢
  have HBB := hid hb
  clear hb
  go_upto_region 2 with (first
    | (go_at_call 14; refine HF.out.mono ?_; rintro e w2 ⟨r', d', q', loss', jit', v3, v4, rfl, hf', hO3, hO4, hB2⟩; obtain ⟨a3, c3, rfl, -⟩ := own1 hO3; obtain ⟨a4, c4, rfl, -⟩ := own1 hO4; have HR2 := hid (HR.out.kept hB2 HR.out.lt); have HF2 := hid hf'; have HO3 := hid hO3; have HO4 := hid hO4; have HB2 := hid hB2; clear hf' hO3 hO4 hB2 HF)
    | (show wpList _ _ _ (Oper.mk none (.store 28 (.tmp 2) (.tmp 18)) _ _ _ _ :: _) _ _; refine HR2.out.wpStore' 28 (.tmp 2) (.tmp 18) (confC r' d' q' (.slice a3 loss'.length c3) (.slice a4 jit'.length c4)) rfl rfl rfl rfl rfl conf_one info_28 ?_; intro w3 HW3; simp only [Act.put]))
  have hR3 : Row w3 b (confC r' d' q' (.slice a3 loss'.length c3) (.slice a4 jit'.length c4)) 28 := by rw [HW3.out]; exact HR2.out.row _
  have hF3 : Fr (fun j => j = b) w2 w3 := by rw [HW3.out]; exact fr_row _ _ _
  have hO3 := hF3.own HO3.out (fun g e e' => own_row HO3.out HR2.out (by decide) (e' ▸ e))
  have hO4 := hF3.own HO4.out (fun g e e' => own_row HO4.out HR2.out (by decide) (e' ▸ e))
  have HB3 : Hid (Below w.heap.size w w3) := by
    have h1 : Below w.heap.size w w2 := below_two HB1.out HB2.out (Nat.le_refl _)
    exact h1.trans (hF3.below (fun x e => by have := HBB.out; omega) h1.size)
  have HE3 := hid (el_own hO3)
  have HE4 := hid (el_own hO4)
  have HR3 := hid hR3
  clear x0 x1 x2 x3 x4 HW3 HR2 HO3 HO4 hR3 hF3 hO3 hO4 HB2 HR
  have y0 := HR3.out.cell 0 _ rfl
  have y1 := HR3.out.cell 1 _ rfl
  have y2 := HR3.out.cell 2 _ rfl
  have y3 := HR3.out.cell 3 _ rfl
  have y4 := HR3.out.cell 4 _ rfl
  have HN := hid (new_ok (r := r') (d := d') (q := q') (lc := c3) (jc := c4) HE3.out HE4.out HF2.out)
  go_upto_region 3 with (go_at_call 15; refine HN.out.mono ?_; rintro e w4 ⟨p, lv, jv, rfl, hA, hp, hB4⟩; have HA4 := hid hA; have HP := hid hp; have HB4 := hid hB4; clear hA hp hB4 HN)
  have HR4 := hid (HR3.out.kept HB4.out HR3.out.lt)
  have z0 := HR4.out.cell 0 _ rfl
  have z1 := HR4.out.cell 1 _ rfl
  have z2 := HR4.out.cell 2 _ rfl
  have z3 := HR4.out.cell 3 _ rfl
  have z4 := HR4.out.cell 4 _ rfl
  have HN := hid (new_ok (r := r') (d := d') (q := q') (lc := c3) (jc := c4) (HE3.out.kept HB4.out) (HE4.out.kept HB4.out) HF2.out)
  clear y0 y1 y2 y3 y4
  go_upto_region 4 with (go_at_call 15; refine HN.out.mono ?_; rintro e w5 ⟨p2, lv2, jv2, rfl, hA, hp, hB5⟩; have HA5 := hid hA; have HP5 := hid hp; have HB5 := hid hB5; clear hA hp hB5 HN)
  have HQ0 : Hid (Qm w.heap.size 0 p p2 (Lk.fresh r' d' q' loss' jit' lv jv) (Lk.fresh r' d' q' loss' jit' lv2 jv2) (.slice none 0 0) [] 0 w5) := by
    have s3 := HB3.out.size
    have s4 := HB4.out.size
    have s5 := HB5.out.size
    have hp := HP.out
    have hp5 := HP5.out
    have hlt := HA4.out.row.lt
    refine ⟨Lw.fresh (HA4.out.below HB5.out) HF2.out (by omega) (by omega), Lw.fresh HA5.out HF2.out (by omega) (by omega), fun k h1 h2 => ?_, qui_fresh, ⟨rfl, .inl ⟨rfl, rfl⟩⟩, fun x hx => absurd hx List.not_mem_nil⟩
    have e1 := foot_fresh h1
    have e2 := foot_fresh h2
    omega
  have HBW : Hid (Below w.heap.size w w5) := below_two (below_two HB3.out HB4.out (Nat.le_refl _)) HB5.out (Nat.le_refl _)
  clear z0 z1 z2 z3 z4 HR3 HR4 HE3 HE4 HB3 HB4 HB5 HA4 HA5 HP HP5 HF2 HB1
  go_upto_region 6 with fail
  generalize hbase : w.heap.size = base at *
  have HBE := hid hbase
  clear hbase
  generalize Lk.fresh r' d' q' loss' jit' lv jv = K0 at *
  generalize Lk.fresh r' d' q' loss' jit' lv2 jv2 = M0 at *
  go_wp2_with fail
  go_loopw [9, 10, 11] (fun s v t wr => ∃ (tt : Int) (i : Nat) (K M : Lk) (xs : List (It Value)), s = .int .u64 tt ∧ t = .int .i64 i ∧ i ≤ l.length ∧ 0 ≤ tt ∧ tt ≤ 4611686018427387904 ∧ Qm base i p p2 K M v xs tt wr ∧ Below base w wr) (fun _ _ t _ => l.length - (intOf t).toNat)
  case atStart => exact ⟨0, 0, K0, M0, [], by go_num, by go_num, Nat.zero_le _, by omega, by omega, HQ0.out, HBW.out⟩
  case round =>
    obtain ⟨tt, i, K, M, xs, rfl, rfl, hi, ht0, ht1, hQ, hBw⟩ := hrel
    have HBw := hid hBw
    have HQ := hid hQ
    have hli : (l.length : Int) ≤ 2932031007402 := by omega
    have hi0 : (0 : Int) ≤ (i : Int) := by omega
    clear hQ hBw HQ0 HBW
    by_cases hlt : i < l.length
    · have hlti : (i : Int) < (l.length : Int) := by omega
      obtain ⟨o, ho⟩ : ∃ o, l[i]? = some o := ⟨_, List.getElem?_eq_getElem hlt⟩
      obtain ⟨⟨g, f, rfl, hg, c0, c1, c2, c3⟩, hB, hbl, hfa⟩ := (HS.out.kept HBw.out) i o ho
      obtain ⟨kind, sec, now, fa, fc, bs⟩ := o
      dsimp only at c0 c1 c2 c3 hB hbl hfa
      obtain ⟨B, hBs⟩ : ∃ B, wr.heap.size = B := ⟨_, rfl⟩
      go_upto_region 12 with fail
      refine wp_world fun wq HWq => ?_
      have hRq : Row wq wr.heap.size [.int .i64 kind, .bool sec, .int .u64 now, .slice fa bs.length fc] 53 := by rw [HWq.out]; exact Row.new wr _ 53
      have hbq : Below wr.heap.size wr wq := by rw [HWq.out]; exact below_new wr _
      rw [hBs] at hRq
      have HQq := hid (HQ.out.below hbq)
      have HBq := hid (below_two HBw.out hbq (by have := HBE.out; omega))
      have HBy := hid (hB.kept hbq)
      have d0 := hRq.cell 0 _ rfl
      have d2 := hRq.cell 2 _ rfl
      have d3 := hRq.cell 3 _ rfl
      have HRq := hid hRq
      clear c0 c1 c2 c3 hB HWq hbq hRq HQ HBw hBs
      by_cases hk : kind = 1
      · subst hk
        go_upto_region 15 with (go_at_call 16; refine (tlate_any _ tt now).mono ?_; rintro e w8 ⟨rfl, rfl⟩)
        have HTM : Hid (tm K.now (tm tt now) = tm tt now) := by show tm K.now _ = _; rw [HQq.out.two.nowK]; exact tm_max ht1
        have HTN : Hid (tm M.now (tm tt now) = tm tt now) := by show tm M.now _ = _; rw [HQq.out.two.nowM]; exact tm_max ht1
        have ht2 : tt ≤ tm tt now := by unfold tm; omega
        have ht3 : tm tt now ≤ 4611686018427387904 := by unfold tm; omega
        have ht4 : 0 ≤ tm tt now := by omega
        have HQd := hid (HQq.out.below (below_drewN (Below.refl _ _) 1))
        have HPU := hid (HQd.out.l.put_any (by omega) (tm tt now) (cap := fc) (HBy.out.kept (below_drewN (Below.refl _ _) 1)) rfl hbl hfa)
        rw [HTM.out] at HPU
        have HRd := hid (HRq.out.drew 1)
        have HBy6 : Hid (∀ {K1 K' : Lk} {ok : Bool} (w6 : World), Hf base i p p2 K M K1 K' (tm tt now) bs ok w8.drew w6 → BytesAt w6 fa bs) := fun w6 hH => bytes_below (HBy.out.kept (below_drewN (Below.refl _ _) 1)) (hH.lm.fr.below (B := base) (fun x hx => HQd.out.l.foot x hx) HQd.out.l.bw) hfa
        clear HTM d0 d2
        generalize tm tt now = t2 at *
        refine wp_region_some (fun w' => w'.cell? ⟨B, 3, none⟩ = some (.slice fa bs.length fc)) [] (by kernel_rfl) ?_
        have hHeld := (show (fun w' => w'.cell? ⟨B, 3, none⟩ = some (.slice fa bs.length fc)) w8.drew from d3)
        refine wpAnyG_take' (i := 0) (oi := { dst := some 61, op := Go.Op.move (Go.Operand.tmp 5), type := 24, pos := "link_own.go:176", after := #[], guard := none }) (v := ?v1_0) rfl (by kernel_rfl) (by kernel_rfl) (by kernel_rfl) (fun _ _ _ h => h) (Or.inl ⟨by kernel_rfl, ?h1_0⟩) ?r1_0
        case h1_0 => (intro wt hSw; clear hSw; go_simp; try with_reducible rfl)
        simp only [Act.put, List.setIfInBounds_toArray, List.set_cons_zero, List.set_cons_succ]
        refine wpAnyG_take' (i := 1) (oi := { dst := some 62, op := Go.Op.move (Go.Operand.tmp 9), type := 22, pos := "link_own.go:176", after := #[], guard := none }) (v := ?v1_1) rfl (by kernel_rfl) (by kernel_rfl) (by kernel_rfl) (fun _ _ _ h => h) (Or.inl ⟨by kernel_rfl, ?h1_1⟩) ?r1_1
        case h1_1 => (intro wt hSw; clear hSw; go_simp; try with_reducible rfl)
        simp only [Act.put, List.setIfInBounds_toArray, List.set_cons_zero, List.set_cons_succ]
        refine wpAnyG_take' (i := 2) (oi := { dst := some 63, op := Go.Op.fieldAddr 53 (Go.Operand.tmp 12) 3, type := 0, pos := "link_own.go:176", after := #[], guard := none }) (v := ?v1_2) rfl (by kernel_rfl) (by kernel_rfl) (by kernel_rfl) (fun _ _ _ h => h) (Or.inl ⟨by kernel_rfl, ?h1_2⟩) ?r1_2
        case h1_2 => (intro wt hSw; clear hSw; go_simp; try with_reducible rfl)
        simp only [Act.put, List.setIfInBounds_toArray, List.set_cons_zero, List.set_cons_succ]
        refine wpAnyG_take (i := 3) (oi := { dst := some 64, op := Go.Op.load 23 (Go.Operand.tmp 63), type := 23, pos := "link_own.go:176", after := #[{ on := 2, ground := Go.Ground.data }], guard := none }) (v := ?v1_3) (by kernel_rfl) rfl (by kernel_rfl) (by kernel_rfl) (by kernel_rfl) (by kernel_rfl) (fun _ _ _ h => h) (Or.inl ⟨by kernel_rfl, ?h1_3⟩) (by assumption) ?r1_3
        case h1_3 => (intro wt hSw; (try dsimp only at hSw); go_simp; try rfl)
        simp only [Act.put, List.setIfInBounds_toArray, List.set_cons_zero, List.set_cons_succ]
        refine wpAnyG_take' (i := 5) (oi := { dst := some 66, op := Go.Op.move (Go.Operand.tmp 7), type := 24, pos := "link_own.go:176", after := #[], guard := none }) (v := ?v1_5) rfl (by kernel_rfl) (by kernel_rfl) (by kernel_rfl) (fun _ _ _ h => h) (Or.inl ⟨by kernel_rfl, ?h1_5⟩) ?r1_5
        case h1_5 => (intro wt hSw; clear hSw; go_simp; try with_reducible rfl)
        simp only [Act.put, List.setIfInBounds_toArray, List.set_cons_zero, List.set_cons_succ]
        refine wpAnyG_take' (i := 6) (oi := { dst := some 67, op := Go.Op.move (Go.Operand.tmp 9), type := 22, pos := "link_own.go:176", after := #[], guard := none }) (v := ?v1_6) rfl (by kernel_rfl) (by kernel_rfl) (by kernel_rfl) (fun _ _ _ h => h) (Or.inl ⟨by kernel_rfl, ?h1_6⟩) ?r1_6
        case h1_6 => (intro wt hSw; clear hSw; go_simp; try with_reducible rfl)
        simp only [Act.put, List.setIfInBounds_toArray, List.set_cons_zero, List.set_cons_succ]
        refine wpAnyG_take' (i := 7) (oi := { dst := some 68, op := Go.Op.fieldAddr 53 (Go.Operand.tmp 12) 3, type := 0, pos := "link_own.go:176", after := #[], guard := none }) (v := ?v1_7) rfl (by kernel_rfl) (by kernel_rfl) (by kernel_rfl) (fun _ _ _ h => h) (Or.inl ⟨by kernel_rfl, ?h1_7⟩) ?r1_7
        case h1_7 => (intro wt hSw; clear hSw; go_simp; try with_reducible rfl)
        simp only [Act.put, List.setIfInBounds_toArray, List.set_cons_zero, List.set_cons_succ]
        refine wpAnyG_take (i := 8) (oi := { dst := some 69, op := Go.Op.load 23 (Go.Operand.tmp 68), type := 23, pos := "link_own.go:176", after := #[{ on := 7, ground := Go.Ground.data }], guard := none }) (v := ?v1_8) (by kernel_rfl) rfl (by kernel_rfl) (by kernel_rfl) (by kernel_rfl) (by kernel_rfl) (fun _ _ _ h => h) (Or.inl ⟨by kernel_rfl, ?h1_8⟩) (by assumption) ?r1_8
        case h1_8 => (intro wt hSw; (try dsimp only at hSw); go_simp; try rfl)
        simp only [Act.put, List.setIfInBounds_toArray, List.set_cons_zero, List.set_cons_succ]
        refine wpAnyG_one (i := 4) (o := { dst := some 65, op := Go.Op.call { callee := Go.Callee.value (Go.Operand.func 9), args := #[Go.Operand.tmp 61, Go.Operand.tmp 62, Go.Operand.tmp 64], argTypes := #[24, 22, 23] }, type := 4, pos := "link_own.go:176", after := #[{ on := 0, ground := Go.Ground.data }, { on := 1, ground := Go.Ground.data }, { on := 3, ground := Go.Ground.data }], guard := none }) rfl (by kernel_rfl) (by kernel_rfl) ?_
        refine step_callxi (f := 9) (args := #[pt p 0, .int .u64 t2, .slice fa bs.length fc]) (G := fun v w2 => ∃ K1 K' ok, v = .bool ok ∧ Hf base i p p2 K M K1 K' t2 bs ok w8.drew w2) (by first | kernel_rfl | go_simp) (HPU.out.mono (fun e w2 h => (by obtain ⟨K1, K', ok, he, hh⟩ := half HQd.out.l HQd.out.m HQd.out.ap h; exact ⟨_, he, K1, K', ok, rfl, hh⟩))) ?_
        rintro v6 w6 ⟨K1, K', ok, rfl, hH⟩
        have hR6 : Row w6 B [.int .i64 1, .bool sec, .int .u64 now, .slice fa bs.length fc] 53 := hH.lm.fr.row HRd.out (row_apart HQd.out.l.at_ HRd.out (by decide) (by decide) (by decide))
        have hHeld6 := (show (fun w' => w'.cell? ⟨B, 3, none⟩ = some (.slice fa bs.length fc)) w6 from hR6.cell 3 _ rfl)
        have HPV := hid (hH.m.put_any (by omega) t2 (cap := fc) (HBy6.out _ hH) rfl hbl hfa)
        rw [HTN.out] at HPV
        refine ⟨fun _ _ => hHeld6, ?_⟩
        simp only [Act.put, List.setIfInBounds_toArray, List.set_cons_zero, List.set_cons_succ]
        refine wpAnyG_one (i := 9) (o := { dst := some 70, op := Go.Op.call { callee := Go.Callee.value (Go.Operand.func 9), args := #[Go.Operand.tmp 66, Go.Operand.tmp 67, Go.Operand.tmp 69], argTypes := #[24, 22, 23] }, type := 4, pos := "link_own.go:176", after := #[{ on := 5, ground := Go.Ground.data }, { on := 6, ground := Go.Ground.data }, { on := 8, ground := Go.Ground.data }, { on := 4, ground := Go.Ground.chain }], guard := none }) rfl (by kernel_rfl) (by kernel_rfl) ?_
        refine step_callxi (f := 9) (args := #[pt p2 0, .int .u64 t2, .slice fa bs.length fc]) (by first | kernel_rfl | go_simp) (HPV.out.mono (fun e w2 h => putR_all h)) ?_
        rintro v7 w7 ⟨M1, M', ok2, rfl, hML, hMB, hMM, hMG, hMC⟩
        obtain rfl : ok = ok2 := (HQd.out.put_lm ht2 hH hML hMG hMC hMM).1
        have hR7 : Row w7 B [.int .i64 1, .bool sec, .int .u64 now, .slice fa bs.length fc] 53 := hMM.fr.row hR6 (row_apart hH.m.at_ hR6 (by decide) (by decide) (by decide))
        refine ⟨fun _ _ => hR7.cell 3 _ rfl, ?_⟩
        simp only [Act.put, List.setIfInBounds_toArray, List.set_cons_zero, List.set_cons_succ]
        refine wpAnyG_take' (i := 10) (oi := { dst := some 71, op := Go.Op.binOp Go.BinOp.neq 4 (Go.Operand.tmp 65) (Go.Operand.tmp 70) 4, type := 4, pos := "link_own.go:176", after := #[{ on := 4, ground := Go.Ground.data }, { on := 9, ground := Go.Ground.data }], guard := none }) (v := .bool false) rfl (by kernel_rfl) (by kernel_rfl) (by kernel_rfl) (fun _ _ _ h => h) (Or.inl ⟨by kernel_rfl, ?h1_10⟩) ?r1_10
        case h1_10 => (intro wt hSw; clear hSw; go_simp; try rfl)
        simp only [Act.put, List.setIfInBounds_toArray, List.set_cons_zero, List.set_cons_succ]
        refine wpAnyG_done (by kernel_rfl) ?_ _
        clear hHeld hHeld6
        have HQn := hid (HQd.out.put_lm ht2 hH hML hMG hMC hMM).2
        have HBn := hid (HBq.out.trans ((below_drewN (Below.refl _ _) 1).trans ((hH.lm.fr.below (fun x hx => HQd.out.l.foot x hx) HQd.out.l.bw).trans hMB)))
        clear hH hML hMB hMM hMG hMC hR6 hR7 HPU HPV HBy6 HQd HRd HRq HQq HBq HBy
        go_wp2_with fail
        go_roundw
        case rel => exact ⟨t2, i + 1, K', M', xs, by go_num, by go_num, by omega, by omega, by omega, HQn.out, HBn.out⟩
        case measure => simp [intOf]; omega
      · have hk1 : (kind == 1) = false := by simpa using hk
        by_cases hk2 : kind = 2
        · subst hk2
          have HTT : Hid (tm K.now tt = tt) := by show tm K.now _ = _; rw [HQq.out.two.nowK]; unfold tm; omega
          have HTA := hid (HQq.out.l.take_any2 (by omega) tt)
          rw [HTT.out] at HTA
          clear d2 d3 HBy hbl hfa
          go_wp2_with (first
            | (go_at_call 11; refine HTA.out.mono ?_; rintro e w6 hT; obtain ⟨K', u, ys, rfl, hO, hr, hB6, hone, hlen, hfin⟩ := HQq.out.take_step (by omega) hT; have HO6 := hid hO; have HR6 := hid hr; have HB6 := hid hB6; have HN6 := hid hone; have HL6 := hid hlen; have HF6 := hid hfin; clear hT hO hr hB6 hone hlen hfin HTA)
            | (at_builtin; refine wpAppendR (.tmp 74) (.tmp 77) rfl rfl rfl HR6.out (by have := HBq.out.size; have := HB6.out.size; have := HBE.out; omega) rfl HO6.out HN6.out (by have := HL6.out; omega) ?_; intro w7 v7 hO7 hF7))
          go_roundw
          case rel => exact ⟨tt, i + 1, K', M, xs ++ ys, by go_num, by go_num, by omega, by omega, by omega, (HF6.out w7 v7 (.inr hF7.out) hO7.out).more (by omega), HBq.out.trans (HB6.out.trans (hF7.out.below (fun x hx => own_ge HR6.out hx) (by have := HBq.out.size; have := HB6.out.size; have := HBE.out; omega)))⟩
          case measure => simp [intOf]; omega
        · have hk2' : (kind == 2) = false := by simpa using hk2
          by_cases hk3 : kind = 3
          · subst hk3
            have HNX := hid (next_any HQq.out.l.at_ HQq.out.l.ok (HQq.out.l.fl (by omega)))
            clear d2 d3 HBy hbl hfa
            go_wp2_with (go_at_call 10; refine HNX.out.mono ?_; rintro e w6 ⟨⟨u, rfl⟩, rfl⟩)
            go_roundw
            case rel => exact ⟨tt, i + 1, K, M, xs, by go_num, by go_num, by omega, by omega, by omega, HQq.out.more (by omega), HBq.out⟩
            case measure => simp [intOf]; omega
          · have hk3' : (kind == 3) = false := by simpa using hk3
            by_cases hk4 : kind = 4
            · subst hk4
              have HST := hid (stat_any HQq.out.l.at_ HQq.out.l.ok.q0)
              clear d2 d3 HBy hbl hfa
              go_wp2_with (go_at_call 12; refine HST.out.mono ?_; rintro e w6 ⟨rfl, hB6⟩)
              go_roundw
              case rel => exact ⟨tt, i + 1, K, M, xs, by go_num, by go_num, by omega, by omega, by omega, (HQq.out.below hB6).more (by omega), below_two HBq.out hB6 (by have := HBE.out; omega)⟩
              case measure => simp [intOf]; omega
            · have hk4' : (kind == 4) = false := by simpa using hk4
              clear d2 d3 HBy hbl hfa
              go_wp2_with fail
              go_roundw
              case rel => exact ⟨tt, i + 1, K, M, xs, by go_num, by go_num, by omega, by omega, by omega, HQq.out.more (by omega), HBq.out⟩
              case measure => simp [intOf]; omega
    · obtain rfl : i = l.length := by omega
      have hlti : ¬ (l.length : Int) < (l.length : Int) := by omega
      have HTK : Hid (tm K.now 18446744073709551615 = 4611686018427387904) := by show tm K.now _ = _; rw [HQ.out.two.nowK]; unfold tm; omega
      have HTM : Hid (tm M.now 18446744073709551615 = 4611686018427387904) := by show tm M.now _ = _; rw [HQ.out.two.nowM]; unfold tm; omega
      have HTA := hid (HQ.out.l.take_any2 (by omega) 18446744073709551615)
      rw [HTK.out] at HTA
      have hs0 : base ≤ wr.heap.size := by have := HBw.out.size; have := HBE.out; omega
      go_upto_region 24 with (first
        | (go_at_call 11; refine HTA.out.mono ?_; rintro e w6 hT; obtain ⟨u, ys, rfl, hO, hr, hB6, hone, hlen, hfin⟩ := HQ.out.last_step (by omega) ht1 hT; have HO6 := hid hO; have HR6 := hid hr; have HB6 := hid hB6; have HN6 := hid hone; have HL6 := hid hlen; have HF6 := hid hfin; clear hT hO hr hB6 hone hlen hfin HTA)
        | (at_builtin; refine wpAppendR (.tmp 87) (.tmp 89) rfl rfl rfl HR6.out (by have := HB6.out.size; omega) rfl HO6.out HN6.out (by have := HL6.out; omega) ?_; intro w7 v7 hO7 hF7))
      have HLS := hid (HF6.out w7 v7 hF7.out hO7.out)
      have HB7 : Hid (Below base w w7) := HBw.out.trans (HB6.out.trans (hF7.out.below (fun x hx => own_ge HR6.out hx) (by have := HB6.out.size; omega)))
      have HEL : Hid ((xs ++ ys).length ≤ 2932031007402) := by have := HL6.out; show (xs ++ ys).length ≤ _; simp; omega
      clear hO7 hF7 HF6 HN6 HO6 HR6 HL6 HB6 HQ HBw
      have HTB := hid (HLS.out.m.take_any2 (by omega) 18446744073709551615)
      rw [HTM.out] at HTB
      generalize xs ++ ys = E at *
      go_upto_region 25 with (go_at_call 11; refine HTB.out.mono ?_; rintro e w8 hT; obtain ⟨u2, zs, rfl, hB8, hOz, hOx, hbx, hbz, hpm⟩ := HLS.out.both hT; have HB8 := hid (HB7.out.trans hB8); have HOX := hid hOx; have HOZ := hid hOz; have HBX := hid hbx; have HBZ := hid hbz; have HPM := hid hpm; clear hT hB8 hOz hOx hbx hbz hpm HTB)
      clear HB7 HLS HTK HTM
      obtain ⟨n, hn⟩ : ∃ n, zs.length = n := ⟨_, rfl⟩
      have hEn : E.length = n := by have := HPM.out.length_eq; simp at this; omega
      obtain ⟨xa, xc, rfl, hxx⟩ := own3 HOX.out
      obtain ⟨za, zc, rfl, hzz⟩ := own3 HOZ.out
      have HXX := hid hxx
      have HZZ := hid hzz
      have hn1 : n ≤ 2932031007402 := by have := HEL.out; omega
      clear hxx hzz HOX HOZ
      rw [hEn, hn]
      clear hlt hlti hli hi hi0 ht0 ht1 hs0 HS
      obtain ⟨wo, hwo⟩ : ∃ wo, wo = w8 := ⟨_, rfl⟩
      subst hwo
      generalize M.D = D at *
      go_wp2_with fail
      go_loopw [14] (fun s wx => ∃ m : Nat, s = .int .i64 m ∧ m ≤ n ∧ wx.heap = wo.heap ∧ Below base w wx) (fun s _ => n - (intOf s).toNat)
      case atStart => exact ⟨0, by go_num, Nat.zero_le _, rfl, HB8.out⟩
      case round =>
        obtain ⟨m, rfl, hm, hh1, hbl1⟩ := hrel
        by_cases hmn : m < n
        · have hmi : (m : Int) < (n : Int) := by omega
          obtain ⟨y, hy⟩ : ∃ y, zs[m]? = some y := ⟨_, List.getElem?_eq_getElem (by omega)⟩
          obtain ⟨gz, rfl, z0, z1, z2⟩ := HZZ.out m y hy
          obtain ⟨j, x0, hj, hja, hjn⟩ := key_found HPM.out hy
          have hjl : j < n := by have := (List.getElem?_eq_some_iff.1 hj).1; omega
          obtain ⟨ya, yc, hyw, hyB, -⟩ := ownBy_shape (HBZ.out y (List.mem_of_getElem? hy))
          rw [hyw] at z2
          have HYB := hid hyB
          have HJ := hid hj
          have HZ0 := hid z0
          have HZ1 := hid z1
          have HZ2 := hid z2
          have HH1 := hid hh1
          have HBL1 := hid hbl1
          clear hyB hj hy hyw z0 z1 z2 hh1 hbl1
          go_wp2_with fail
          go_loopw [15, 16] (fun b s wx => ∃ (f : Bool) (k : Nat), b = .bool f ∧ s = .int .i64 k ∧ k ≤ n ∧ (j < k → f = true) ∧ wx.heap = wo.heap ∧ Below base w wx) (fun _ s _ => n - (intOf s).toNat)
          case atStart => exact ⟨false, 0, by go_num, by go_num, Nat.zero_le _, fun h => absurd h (Nat.not_lt_zero _), HH1.out, HBL1.out⟩
          case round =>
            obtain ⟨f, k, rfl, rfl, hk, hf, hh, hbl⟩ := hrel
            have HBL := hid hbl
            have HH := hid hh
            clear hbl
            by_cases hkn : k < n
            · have hki : (k : Int) < (n : Int) := by omega
              obtain ⟨x, hx⟩ : ∃ x, E[k]? = some x := ⟨_, List.getElem?_eq_getElem (by omega)⟩
              obtain ⟨gx, rfl, x0c, x1c, x2c⟩ := HXX.out k x hx
              obtain ⟨ax, cx, hxw, hxB, -⟩ := ownBy_shape (HBX.out x (List.mem_of_getElem? hx))
              rw [hxw] at x2c
              have hjk : k = j → x.at_ = y.at_ ∧ x.num = y.num := fun e => by
                subst e
                have := HJ.out
                rw [hx] at this
                injection this with this
                rw [this]
                exact ⟨hja, hjn⟩
              have q0 := (cell_heap hh ⟨gz, m * 3, none⟩).trans HZ0.out
              have q1 := (cell_heap hh ⟨gz, m * 3 + 1, none⟩).trans HZ1.out
              have q2 := (cell_heap hh ⟨gz, m * 3 + 2, none⟩).trans HZ2.out
              have p0 := (cell_heap hh ⟨gx, k * 3, none⟩).trans x0c
              have p1 := (cell_heap hh ⟨gx, k * 3 + 1, none⟩).trans x1c
              have p2 := (cell_heap hh ⟨gx, k * 3 + 2, none⟩).trans x2c
              have hcx : ∀ q, (convert 23 9 (.slice ax (D x.num).length cx)).run Try.prog (wr.drewN q) = .ok (.string (strOf (D x.num))) (wr.drewN q) := fun q => convert_any (bytes_heap (show (wr.drewN q).heap = wo.heap from hh) hxB) rfl
              have hcy : ∀ q, (convert 23 9 (.slice ya (D y.num).length yc)).run Try.prog (wr.drewN q) = .ok (.string (strOf (D y.num))) (wr.drewN q) := fun q => convert_any (bytes_heap (show (wr.drewN q).heap = wo.heap from hh) HYB.out) rfl
              have HJK := hid hjk
              have HF := hid hf
              clear x0c x1c x2c hxB hx hxw hjk hja hjn hh hf
              cases f with
              | true =>
                go_wp2_with (go_quiet (fail))
                go_roundw
                case rel => exact ⟨true, k + 1, by go_num, by go_num, by omega, fun _ => rfl, HH.out, below_drewN HBL.out _⟩
                case measure => simp [intOf]; omega
              | false =>
                by_cases e1 : x.num = y.num
                · rw [e1] at hcx p1 p2
                  by_cases e2 : x.at_ = y.at_
                  · rw [e2] at p0
                    clear e1 e2 HJK HF
                    generalize strOf (D y.num) = sy at *
                    generalize (D y.num).length = ln at *
                    generalize y.num = yn at *
                    generalize y.at_ = yt at *
                    go_wp2_with (go_quiet (fail))
                    go_roundw
                    case rel => exact ⟨true, k + 1, by go_num, by go_num, by omega, fun _ => rfl, HH.out, below_drewN HBL.out _⟩
                    case measure => simp [intOf]; omega
                  · have h2a : (x.at_ == y.at_) = false := by simpa using e2
                    have h2b : decide (x.at_ = y.at_) = false := decide_eq_false e2
                    have HE : Hid (j < k + 1 → false = true) := fun h => by
                      rcases Nat.lt_or_eq_of_le (Nat.le_of_lt_succ h) with h | h
                      · exact HF.out h
                      · exact absurd (HJK.out h.symm).1 e2
                    clear e1 hcx hcy HJK HF
                    generalize y.num = yn at *
                    generalize y.at_ = yt at *
                    generalize x.at_ = xt at *
                    go_wp2_with (go_quiet (fail))
                    go_roundw
                    case rel => exact ⟨false, k + 1, by go_num, by go_num, by omega, HE.out, HH.out, below_drewN HBL.out _⟩
                    case measure => simp [intOf]; omega
                · have h1a : (x.num == y.num) = false := by simpa using e1
                  have h1b : decide (x.num = y.num) = false := decide_eq_false e1
                  have HE : Hid (j < k + 1 → false = true) := fun h => by
                    rcases Nat.lt_or_eq_of_le (Nat.le_of_lt_succ h) with h | h
                    · exact HF.out h
                    · exact absurd (HJK.out h.symm).2 e1
                  clear hcx hcy HJK HF
                  generalize y.num = yn at *
                  generalize x.num = xn at *
                  go_wp2_with (go_quiet (fail))
                  go_roundw
                  case rel => exact ⟨false, k + 1, by go_num, by go_num, by omega, HE.out, HH.out, below_drewN HBL.out _⟩
                  case measure => simp [intOf]; omega
            · obtain rfl : k = n := by omega
              obtain rfl : f = true := hf hjl
              go_wp2_with fail
              go_roundw
              case rel => exact ⟨m + 1, by go_num, by omega, HH.out, HBL.out⟩
              case measure => simp [intOf]; omega
        · have hmi : ¬ (m : Int) < (n : Int) := by omega
          go_wp2_with (go_at_call 13; refine (HA.out _).mono ?_; rintro e w9 ⟨rfl, hb9⟩; have HB9 := hid hb9; clear hb9)
          go_ret
          refine ⟨rfl, ?_⟩
          rw [HBE.out]
          exact hbl1.trans (HB9.out.mono (by have := hbl1.size; have := HBE.out; omega))
end Go.Proofs.Ytoeldomhkeancaa
