import Derived.Test.YtoeldomhkeancaaTu0
namespace Go.Proofs.Ytoeldomhkeancaa
open Go.RowKit Go.Maps
set_option maxRecDepth 100000

theorem fit_nojit {r d q : Int} {n : Nat} {jit : List Int} (h : fitE r d q n jit = 0) : fitE r d q n [] = 0 := by
  unfold fitE at h ⊢
  by_cases h1 : r < 0 ∨ 1099511627776 < r
  · rw [if_pos h1] at h; omega
  rw [if_neg h1] at h ⊢
  by_cases h2 : d < 0 ∨ 1099511627776 < d
  · rw [if_pos h2] at h; omega
  rw [if_neg h2] at h ⊢
  by_cases h3 : q < 1 ∨ 1073741824 < q
  · rw [if_pos h3] at h; omega
  rw [if_neg h3] at h ⊢
  by_cases h4 : 65536 < n ∨ 65536 < jit.length ∨ jit.any badJ = true
  · rw [if_pos h4] at h; omega
  rw [if_neg (by simp; omega)]
theorem el_own {w : World} {base : Nat} {t : TypeId} {a : Option Addr} {n m c : Nat} {xs : List Value} (h : w.ownsRow base t 1 (.slice a m c) n xs) : ElAt w a xs := fun k x hx => by
  obtain ⟨a', cap, e, _, _, _, hc⟩ := own1 h
  injection e with e1
  subst e1
  obtain ⟨g, e, hg⟩ := hc k x hx
  exact ⟨g, 0, e, by rw [Nat.zero_add]; exact hg⟩
theorem conf_one {r d q : Int} {a b : Option Addr} {n m c e : Nat} : ∀ u ∈ confC r d q (.slice a n c) (.slice b m e), u.oneCell' = true := by
  intro u hu
  simp only [confC, List.mem_cons, List.not_mem_nil, or_false] at hu
  rcases hu with rfl | rfl | rfl | rfl | rfl <;> rfl
/-- A Put answers. -/
theorem putR_ret {base i p : Nat} {K : Lk} {t : Int} {bs : List (BitVec 8)} {w w' : World} {e : Ending} (h : PutR base i p K t bs w e w') :
    ∃ v, e = .returned v ∧ ∃ K1 K' ok, v = .bool ok ∧ Lw base (i + 1) p K' w' ∧ Below base w w' ∧ GoE K t K1 ∧ K1.Ok ∧ PutQ K K1 K' bs ok := by
  obtain ⟨K1, K', h1, h2, h3, h4, h5, h6, hc⟩ := h
  rcases hc with h | h | h
  · exact ⟨_, h.1, K1, K', _, rfl, h1, h2, h4, h5, .inl ⟨rfl, h.2⟩⟩
  · exact ⟨_, h.1, K1, K', _, rfl, h1, h2, h4, h5, .inr (.inl ⟨rfl, h.2⟩)⟩
  · exact ⟨_, h.1, K1, K', _, rfl, h1, h2, h4, h5, .inr (.inr ⟨rfl, h.2⟩)⟩
set_option maxHeartbeats 8000000 in
/-- Without jitter frames come in the order in which they were put. -/
theorem turn_law {w : World} {r d q : Int} {la ja sa : Option Addr} {lc jc sc : Nat} {loss : List Bool} {jit : List Int} {l : List Opv} (hlo : ElAt w la (loss.map Value.bool)) (hj : ElAt w ja (jit.map (Value.int .i64))) (hll : loss.length ≤ 140737488355328) (hjl : jit.length ≤ 140737488355328) (hS : OpsAt w w.heap.size sa l) (hl : l.length ≤ 2932031007402) :
    Calls Try.prog 4 #[.agg (confC r d q (.slice la loss.length lc) (.slice ja jit.length jc)).toArray, .slice sa l.length sc] w fun e w' => e = .returned (.bool true) ∧ Below w.heap.size w w' := by
  have HA : Hid (∀ w, Calls Try.prog 13 #[] w fun e w' => e = .returned (.bool true) ∧ Below w.heap.size w w') := alive_any
  have hb1 := below_new w (.cells #[.int .i64 r, .int .i64 d, .int .i64 q, .slice la loss.length lc, .slice ja jit.length jc] 28)
  have R := Row.new w (confC r d q (.slice la loss.length lc) (.slice ja jit.length jc)) 28
  have HF := hid (fitc_any (r := r) (d := d) (q := q) (lc := lc) (jc := jc) (hlo.kept hb1) (hj.kept hb1) hll hjl)
  have x0 := R.cell 0 _ rfl
  have x1 := R.cell 1 _ rfl
  have x2 := R.cell 2 _ rfl
  have x3 := R.cell 3 _ rfl
  have x4 := R.cell 4 _ rfl
  have HB1 := hid hb1
  have HR := hid R
  have HS := hid hS
  simp only [confC] at *
  clear hj hlo R hb1 hS hll hjl
  go_enter Try.func4, Try.ntmps4
  go_upto_region 1 with fail
  revert HF x0 x1 x2 x3 x4 HB1 HR
  generalize w.alloc (.cells #[.int .i64 r, .int .i64 d, .int .i64 q, .slice la loss.length lc, .slice ja jit.length jc] 28) = w1
  intro HF x0 x1 x2 x3 x4 HB1 HR
  obtain ⟨b, hb⟩ : ∃ b, w.heap.size = b := ⟨_, rfl⟩
  rw [hb] at x0 x1 x2 x3 x4 HR ⊢
  have HBB := hid hb
  clear hb
  go_upto_region 2 with (first
    | (go_at_call 14; refine HF.out.mono ?_; rintro e w2 ⟨r', d', q', loss', jit', v3, v4, rfl, hf', hO3, hO4, hB2⟩; obtain ⟨a3, c3, rfl, -⟩ := own1 hO3; obtain ⟨a4, c4, rfl, -⟩ := own1 hO4; have HR2 := hid (HR.out.kept hB2 HR.out.lt); have HF2 := hid hf'; have HO3 := hid hO3; have HB2 := hid hB2; clear hf' hO3 hO4 hB2 HF)
    | (show wpList _ _ _ (Oper.mk none (.store 28 (.tmp 2) (.tmp 12)) _ _ _ _ :: _) _ _; refine HR2.out.wpStore' 28 (.tmp 2) (.tmp 12) (confC r' d' q' (.slice a3 loss'.length c3) (.slice a4 jit'.length c4)) rfl rfl rfl rfl rfl conf_one info_28 ?_; intro w3 HW3; simp only [Act.put]))
  have hR3 : Row w3 b (confC r' d' q' (.slice a3 loss'.length c3) (.slice a4 jit'.length c4)) 28 := by rw [HW3.out]; exact HR2.out.row _
  have hF3 : Fr (fun j => j = b) w2 w3 := by rw [HW3.out]; exact fr_row _ _ _
  have hO3 := hF3.own HO3.out (fun g e e' => own_row HO3.out HR2.out (by decide) (e' ▸ e))
  have q4 := hR3.cell 4 _ rfl
  have f4 := hR3.frozen 4
  have hR4 := hR3.set 4 (.slice none 0 0)
  have hF4 : Fr (fun j => j = b) w2 (w3.setCell ⟨b, 4, none⟩ (.slice none 0 0)) := hF3.setCell b 4 _ (.inl rfl)
  have hO4 := hF4.own HO3.out (fun g e e' => own_row HO3.out HR2.out (by decide) (e' ▸ e))
  have HB4 : Hid (Below w.heap.size w (w3.setCell ⟨b, 4, none⟩ (.slice none 0 0))) := by
    have h1 : Below w.heap.size w w2 := below_two HB1.out HB2.out (Nat.le_refl _)
    exact h1.trans (hF4.below (fun x e => by have := HBB.out; omega) h1.size)
  clear x0 x1 x2 x3 x4
  go_upto_region 3 with fail
  clear q4 f4 hF4 hF3 hO3 hR3
  have HR4 := hid hR4
  have HO4 := hid hO4
  clear hR4 hO4 HW3 HR2 HO3
  revert HR4 HO4 HB4
  generalize w3.setCell ⟨b, 4, none⟩ (.slice none 0 0) = w4
  intro HB4 HR4 HO4
  have y0 := HR4.out.cell 0 _ rfl
  have y1 := HR4.out.cell 1 _ rfl
  have y2 := HR4.out.cell 2 _ rfl
  have y3 := HR4.out.cell 3 _ rfl
  have y4 := HR4.out.cell 4 _ rfl
  have HN := hid (new_ok (w := w4) (r := r') (d := d') (q := q') (lc := c3) (jc := 0) (jit := []) (ja := none) (el_own HO4.out) (el_nil _ _) (fit_nojit HF2.out))
  go_upto_region 6 with (go_at_call 15; refine HN.out.mono ?_; rintro e w5 ⟨p, lv, jv, rfl, hA, hp, hB5⟩; have HA5 := hid hA; have HP := hid hp; have HB5 := hid hB5; clear hA hp hB5)
  have HL0 : Hid (Lw w.heap.size 0 p (Lk.fresh r' d' q' loss' [] lv jv) w5) := Lw.fresh HA5.out (fit_nojit HF2.out) (Nat.le_trans HB4.out.size HP.out) (Nat.le_trans HB4.out.size HB5.out.size)
  have HT0 : Hid (TuI (Lk.fresh r' d' q' loss' [] lv jv) 0) := ⟨rfl, fun x hx => absurd hx List.not_mem_nil, fun x hx => absurd hx List.not_mem_nil, Int.le_refl _, Int.le_refl _, fun x hx => absurd hx List.not_mem_nil⟩
  have HBW : Hid (Below w.heap.size w w5) := below_two HB4.out HB5.out (Nat.le_refl _)
  clear y0 y1 y2 y3 y4 HN HR4 HO4 HB4 HA5 HP HB5 HF2 HB1 HB2 HBB HR
  generalize hbase : w.heap.size = base at *
  have HBE := hid hbase
  clear hbase
  generalize Lk.fresh r' d' q' loss' [] lv jv = K0 at *
  go_wp2_with fail
  go_loopw [7, 8] (fun s t wr => ∃ (nx : Int) (i : Nat) (K : Lk), s = .int .u64 nx ∧ t = .int .i64 i ∧ i ≤ l.length ∧ Lw base i p K wr ∧ TuI K nx ∧ Below base w wr) (fun _ t _ => l.length - (intOf t).toNat)
  case atStart => exact ⟨0, 0, K0, by go_num, by go_num, Nat.zero_le _, HL0.out, HT0.out, HBW.out⟩
  case round =>
    obtain ⟨nx, i, K, rfl, rfl, hi, hL, hT, hBw⟩ := hrel
    have HL := hid hL
    have HT := hid hT
    have HBw := hid hBw
    have hli : (l.length : Int) ≤ 2932031007402 := by omega
    have hi0 : (0 : Int) ≤ (i : Int) := by omega
    clear hL hT hBw HL0 HT0 HBW
    by_cases hlt : i < l.length
    · have hlti : (i : Int) < (l.length : Int) := by omega
      obtain ⟨o, ho⟩ : ∃ o, l[i]? = some o := ⟨_, List.getElem?_eq_getElem hlt⟩
      obtain ⟨⟨g, f, rfl, hg, c0, c1, c2, c3⟩, hB, hbl, hfa⟩ := (HS.out.kept HBw.out) i o ho
      obtain ⟨kind, sec, now, fa, fc, bs⟩ := o
      dsimp only at c0 c1 c2 c3 hB hbl hfa
      have hNM : Hid (∀ x ∈ K.Fl, x.num < K.put) := fun x hx => (HL.out.nums x hx).2
      by_cases hk : kind = 1
      · subst hk
        have HPU := hid (HL.out.below (below_drewN (Below.refl _ _) 1) |>.put_any (by omega) now (cap := fc) (hB.kept (below_drewN (Below.refl _ _) 1)) rfl hbl hfa)
        have HHB := hid hB
        clear hB
        go_upto_region 11 with fail
        refine wp_region_some (fun w' => w' = wr.drew) [11] (by kernel_rfl) ?_
        have hHeld := (show (fun w' => w' = wr.drew) wr.drew from rfl)
        refine wpAnyG_take' (i := 0) (oi := { dst := some 37, op := Go.Op.move (Go.Operand.tmp 5), type := 24, pos := "link_own.go:102", after := #[], guard := none }) (v := ?v1_0) rfl (by kernel_rfl) (by kernel_rfl) (by kernel_rfl) (fun _ _ _ h => h) (Or.inl ⟨by kernel_rfl, ?h1_0⟩) ?r1_0
        case h1_0 => (intro wt hSw; clear hSw; go_simp; try with_reducible rfl)
        simp only [Act.put, List.setIfInBounds_toArray, List.set_cons_zero, List.set_cons_succ]
        refine wpAnyG_take' (i := 1) (oi := { dst := some 38, op := Go.Op.move (Go.Operand.tmp 1), type := 47, pos := "link_own.go:102", after := #[], guard := none }) (v := ?v1_1) rfl (by kernel_rfl) (by kernel_rfl) (by kernel_rfl) (fun _ _ _ h => h) (Or.inl ⟨by kernel_rfl, ?h1_1⟩) ?r1_1
        case h1_1 => (intro wt hSw; clear hSw; go_simp; try with_reducible rfl)
        simp only [Act.put, List.setIfInBounds_toArray, List.set_cons_zero, List.set_cons_succ]
        refine wpAnyG_take' (i := 2) (oi := { dst := some 39, op := Go.Op.move (Go.Operand.tmp 8), type := 3, pos := "link_own.go:102", after := #[], guard := none }) (v := ?v1_2) rfl (by kernel_rfl) (by kernel_rfl) (by kernel_rfl) (fun _ _ _ h => h) (Or.inl ⟨by kernel_rfl, ?h1_2⟩) ?r1_2
        case h1_2 => (intro wt hSw; clear hSw; go_simp; try with_reducible rfl)
        simp only [Act.put, List.setIfInBounds_toArray, List.set_cons_zero, List.set_cons_succ]
        refine wpAnyG_take' (i := 3) (oi := { dst := some 40, op := Go.Op.indexAddr 47 (Go.Operand.tmp 38) (Go.Operand.tmp 39), type := 0, pos := "link_own.go:102", after := #[{ on := 1, ground := Go.Ground.data }, { on := 2, ground := Go.Ground.data }], guard := none }) (v := ?v1_3) rfl (by kernel_rfl) (by kernel_rfl) (by kernel_rfl) (fun _ _ _ h => h) (Or.inl ⟨by kernel_rfl, ?h1_3⟩) ?r1_3
        case h1_3 => (intro wt hSw; clear hSw; go_simp; try with_reducible rfl)
        simp only [Act.put, List.setIfInBounds_toArray, List.set_cons_zero, List.set_cons_succ]
        refine wpAnyG_take' (i := 4) (oi := { dst := some 41, op := Go.Op.fieldAddr 53 (Go.Operand.tmp 40) 2, type := 0, pos := "link_own.go:102", after := #[{ on := 3, ground := Go.Ground.data }], guard := none }) (v := ?v1_4) rfl (by kernel_rfl) (by kernel_rfl) (by kernel_rfl) (fun _ _ _ h => h) (Or.inl ⟨by kernel_rfl, ?h1_4⟩) ?r1_4
        case h1_4 => (intro wt hSw; clear hSw; go_simp; try with_reducible rfl)
        simp only [Act.put, List.setIfInBounds_toArray, List.set_cons_zero, List.set_cons_succ]
        refine wpAnyG_take (i := 5) (oi := { dst := some 42, op := Go.Op.load 22 (Go.Operand.tmp 41), type := 22, pos := "link_own.go:102", after := #[{ on := 4, ground := Go.Ground.data }], guard := none }) (v := .int .u64 now) (by kernel_rfl) rfl (by kernel_rfl) (by kernel_rfl) (by kernel_rfl) (by kernel_rfl) (fun _ _ _ h => h) (Or.inl ⟨by kernel_rfl, ?h1_5⟩) (by assumption) ?r1_5
        case h1_5 => (intro wt hSw; (try dsimp only at hSw); subst hSw; go_simp; try rfl)
        simp only [Act.put, List.setIfInBounds_toArray, List.set_cons_zero, List.set_cons_succ]
        refine wpAnyG_take' (i := 6) (oi := { dst := some 43, op := Go.Op.move (Go.Operand.tmp 1), type := 47, pos := "link_own.go:102", after := #[], guard := none }) (v := ?v1_6) rfl (by kernel_rfl) (by kernel_rfl) (by kernel_rfl) (fun _ _ _ h => h) (Or.inl ⟨by kernel_rfl, ?h1_6⟩) ?r1_6
        case h1_6 => (intro wt hSw; clear hSw; go_simp; try with_reducible rfl)
        simp only [Act.put, List.setIfInBounds_toArray, List.set_cons_zero, List.set_cons_succ]
        refine wpAnyG_take' (i := 7) (oi := { dst := some 44, op := Go.Op.move (Go.Operand.tmp 8), type := 3, pos := "link_own.go:102", after := #[], guard := none }) (v := ?v1_7) rfl (by kernel_rfl) (by kernel_rfl) (by kernel_rfl) (fun _ _ _ h => h) (Or.inl ⟨by kernel_rfl, ?h1_7⟩) ?r1_7
        case h1_7 => (intro wt hSw; clear hSw; go_simp; try with_reducible rfl)
        simp only [Act.put, List.setIfInBounds_toArray, List.set_cons_zero, List.set_cons_succ]
        refine wpAnyG_take' (i := 8) (oi := { dst := some 45, op := Go.Op.indexAddr 47 (Go.Operand.tmp 43) (Go.Operand.tmp 44), type := 0, pos := "link_own.go:102", after := #[{ on := 6, ground := Go.Ground.data }, { on := 7, ground := Go.Ground.data }], guard := none }) (v := ?v1_8) rfl (by kernel_rfl) (by kernel_rfl) (by kernel_rfl) (fun _ _ _ h => h) (Or.inl ⟨by kernel_rfl, ?h1_8⟩) ?r1_8
        case h1_8 => (intro wt hSw; clear hSw; go_simp; try with_reducible rfl)
        simp only [Act.put, List.setIfInBounds_toArray, List.set_cons_zero, List.set_cons_succ]
        refine wpAnyG_take' (i := 9) (oi := { dst := some 46, op := Go.Op.fieldAddr 53 (Go.Operand.tmp 45) 3, type := 0, pos := "link_own.go:102", after := #[{ on := 8, ground := Go.Ground.data }], guard := none }) (v := ?v1_9) rfl (by kernel_rfl) (by kernel_rfl) (by kernel_rfl) (fun _ _ _ h => h) (Or.inl ⟨by kernel_rfl, ?h1_9⟩) ?r1_9
        case h1_9 => (intro wt hSw; clear hSw; go_simp; try with_reducible rfl)
        simp only [Act.put, List.setIfInBounds_toArray, List.set_cons_zero, List.set_cons_succ]
        refine wpAnyG_take (i := 10) (oi := { dst := some 47, op := Go.Op.load 23 (Go.Operand.tmp 46), type := 23, pos := "link_own.go:102", after := #[{ on := 9, ground := Go.Ground.data }], guard := none }) (v := .slice fa bs.length fc) (by kernel_rfl) rfl (by kernel_rfl) (by kernel_rfl) (by kernel_rfl) (by kernel_rfl) (fun _ _ _ h => h) (Or.inl ⟨by kernel_rfl, ?h1_10⟩) (by assumption) ?r1_10
        case h1_10 => (intro wt hSw; (try dsimp only at hSw); subst hSw; go_simp; try rfl)
        simp only [Act.put, List.setIfInBounds_toArray, List.set_cons_zero, List.set_cons_succ]
        refine wpAnyG_one (i := 11) (o := { dst := some 48, op := Go.Op.call { callee := Go.Callee.value (Go.Operand.func 9), args := #[Go.Operand.tmp 37, Go.Operand.tmp 42, Go.Operand.tmp 47], argTypes := #[24, 22, 23] }, type := 4, pos := "link_own.go:102", after := #[{ on := 0, ground := Go.Ground.data }, { on := 5, ground := Go.Ground.data }, { on := 10, ground := Go.Ground.data }], guard := none }) rfl (by kernel_rfl) (by kernel_rfl) ?_
        refine step_callxi (f := 9) (args := #[pt p 0, .int .u64 now, .slice fa bs.length fc]) (by first | kernel_rfl | go_simp) (HPU.out.mono (fun e w2 h => (putR_ret h))) ?_
        rintro v6 w6 ⟨K1, K', ok, rfl, hPL, hPB, hPG, hPO, hPC⟩
        refine ⟨fun h => absurd (by simp) h, ?_⟩
        simp only [Act.put, List.setIfInBounds_toArray, List.set_cons_zero, List.set_cons_succ]
        refine wpAnyG_done (by kernel_rfl) ?_ _
        clear hHeld HHB
        go_wp2_with fail
        go_roundw
        case rel => exact ⟨nx, i + 1, K', by go_num, by go_num, by omega, hPL, HT.out.put hPO hNM.out hPG hPC, HBw.out.trans ((below_drewN (Below.refl _ _) 1).trans hPB)⟩
        case measure => simp [intOf]; omega
      · have hk1 : (kind == 1) = false := by simpa using hk
        have HTA := hid (HL.out.take_any (by omega) now)
        have hnx0 := HT.out.n0
        have hput := HL.out.put
        go_upto_region 13 with (go_at_call 11; refine HTA.out.mono ?_; rintro e w6 ⟨K1, K', v, xs, rfl, hPL, hPB, hPG, hPO, hPT, hPY, hPX, hPZ⟩)
        obtain ⟨HSQ, hT2⟩ := HT.out.take hNM.out HL.out.nd hPG hPT
        have HT2 := hid hT2
        have HSE := hid HSQ
        have HPL := hid hPL
        have HPB := hid (HBw.out.trans hPB)
        obtain ⟨xa, xc, rfl, hxx⟩ := own3 hPX
        have HXX := hid hxx
        have hxl : (xs.length : Int) ≤ 2932031007402 := by
          have h1 := hPT.perm.length_eq
          have h2 : K1.Fl = K.Fl := by
            have := hPG.eq
            generalize K1.S = q1 at this
            generalize K1.sv = q2 at this
            generalize K1.wait = q3 at this
            rw [this]
          have h3 := HL.out.fl (by omega)
          simp at h1
          rw [h2] at h1
          omega
        clear hPL hPB hPG hPO hPT hPY hPX hPZ HTA hT2 HSQ HL HT HBw hxx hNM c0 c1 c2 c3 hB hbl hfa
        obtain ⟨wo, hwo⟩ : ∃ wo, wo = w6 := ⟨_, rfl⟩
        subst hwo
        go_wp2_with fail
        go_loopw [7, 10] (fun s t wx => ∃ m : Nat, s = .int .u64 (nxt nx (xs.take m)) ∧ t = .int .i64 m ∧ m ≤ xs.length ∧ wx = wo) (fun _ t _ => xs.length - (intOf t).toNat)
        case atStart => exact ⟨0, by go_num, by go_num, Nat.zero_le _, rfl⟩
        case round =>
          obtain ⟨m, rfl, rfl, hm, rfl⟩ := hrel
          have hm0 : (0 : Int) ≤ (m : Int) := by omega
          by_cases hml : m < xs.length
          · have hmi : (m : Int) < (xs.length : Int) := by omega
            obtain ⟨x, hx⟩ : ∃ x, xs[m]? = some x := ⟨_, List.getElem?_eq_getElem hml⟩
            obtain ⟨gx, rfl, z0, z1, z2⟩ := HXX.out m x hx
            have hst := HSE.out.step hx
            have hx1 := HSE.out.low x (List.mem_of_getElem? hx)
            have hx2 := HSE.out.hi x (List.mem_of_getElem? hx)
            have hnl : ¬ x.num < nxt nx (xs.take m) := by omega
            have HNX : Hid (nxt nx (xs.take (m + 1)) = x.num + 1) := by
              show _ = _
              rw [List.take_succ_eq_append_getElem hml, nxt_snoc, (List.getElem?_eq_some_iff.1 hx).2]
            have hx3 : 0 ≤ x.num := by omega
            have hx4 : x.num ≤ 2932031007402 := by omega
            clear z0 z2 hx hst
            generalize x.num = xn at *
            generalize nxt nx (xs.take m) = nn at *
            go_wp2_with fail
            go_roundw
            case rel => exact ⟨m + 1, by rw [HNX.out], by go_num, by omega, by first | rfl | trivial⟩
            case measure => simp [intOf]; omega
          · obtain rfl : m = xs.length := by omega
            have hmi : ¬ (xs.length : Int) < (xs.length : Int) := by omega
            rw [List.take_length]
            have hnn := HT2.out.n0
            go_wp2_with fail
            go_roundw
            case rel => exact ⟨nxt nx xs, i + 1, K', by go_num, by go_num, by omega, ⟨HPL.out.at_, HPL.out.ok, HPL.out.foot, HPL.out.bw, by have := HPL.out.put; omega, HPL.out.l0, HPL.out.f0, HPL.out.c0, HPL.out.cons, HPL.out.nums, HPL.out.nd⟩, HT2.out, HPB.out⟩
            case measure => simp [intOf]; omega
    · have hlti : ¬ (i : Int) < (l.length : Int) := by omega
      go_wp2_with (go_at_call 13; refine (HA.out _).mono ?_; rintro e w7 ⟨rfl, hb7⟩; have HB7 := hid hb7; clear hb7)
      go_ret
      refine ⟨rfl, ?_⟩
      rw [HBE.out]
      exact HBw.out.trans (HB7.out.mono (by have := HBw.out.size; have := HBE.out; omega))
end Go.Proofs.Ytoeldomhkeancaa
