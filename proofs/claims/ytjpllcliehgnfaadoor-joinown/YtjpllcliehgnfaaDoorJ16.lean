import Derived.Test.YtjpllcliehgnfaaDoorJ15
namespace Go.Proofs.YtjpllcliehgnfaaDoor
open Go.RowKit Go.Sort
set_option maxRecDepth 100000

theorem bne_u {x y : BitVec 32} (h : ¬ x = y) : (u x != u y) = true := by
  simp only [bne_iff_ne, ne_eq]
  exact fun e => h (u_inj e)
theorem bne_i {x y : Int} (h : ¬ x = y) : (x != y) = true := by simpa using h
theorem beq_i {x y : Int} (h : ¬ x = y) : (x == y) = false := by simpa using h
/-! What a frame that is heard says. -/
def FrIn (w : World) (f : Fo) (c : List Value) : Prop := ∃ x2 x3 x4 x5 x6 x11 a n, c = [.int .i64 f.k, .int .i64 f.p, x2, x3, x4, x5, x6, .int .u32 (u f.tok), .int .u32 (u f.non), .slice a f.bs.length n, .bool f.bk, x11] ∧ BytesAt w a f.bs
theorem FrIn.kept {w w' : World} {f : Fo} {c : List Value} (h : FrIn w f c) (hb : Below w.heap.size w w') : FrIn w' f c := by
  obtain ⟨x2, x3, x4, x5, x6, x11, a, n, e, b⟩ := h
  exact ⟨x2, x3, x4, x5, x6, x11, a, n, e, b.kept hb⟩

set_option maxHeartbeats 4000000 in
/-- A JOIN that is not for this Half, or not now. -/
theorem hearJoin_no {w : World} {p : Nat} {F : Hf} {f : Fo} {c : List Value} (hH : HfAt w p F) (hf : FrIn w f c) (hn : ¬ (F.side = 1 ∧ (F.st = 0 ∨ F.st = 2) ∧ f.tok = tok F.own)) (ho : F.own < 18446744073709551616) (hK : KTab w) (h2 : 1 ≤ w.heap.size) (now : Nat) :
    Calls Tryd.prog 32 #[.pointer (some ⟨p, 0, none⟩), .int .u64 (now : Int), .agg c.toArray] w (Ans w p F Fo.zero false) := by
  obtain ⟨x2, x3, x4, x5, x6, x11, a, n, rfl, hby⟩ := hf
  have H := hid hH
  have HK := hid hK
  have H2 := hid h2
  have HY := hid hby
  have HN := hid hn
  have HO := hid ho
  clear hH hK h2 hby hn ho
  have HLT : Hid (p < w.heap.size) := Row.lt H.out
  go_enter Tryd.func32, Tryd.ntmps32
  go_upto_region 1 with fail
  refine wp_world fun wa HW => ?_
  have HI : Hid (Row wa w.heap.size [.int .i64 f.k, .int .i64 f.p, x2, x3, x4, x5, x6, .int .u32 (u f.tok), .int .u32 (u f.non), .slice a f.bs.length n, .bool f.bk, x11] 29) := by show Row _ _ _ _; rw [HW.out]; exact (Row.new' _ _ _ _ _ rfl rfl).alloc _
  have HX : Hid (Row wa (w.heap.size + 1) frZ 29) := by show Row _ _ _ _; rw [HW.out]; exact Row.new' _ _ _ _ _ (by simp) rfl
  have HB : Hid (Below w.heap.size w wa) := by show Below _ _ _; rw [HW.out]; exact ((Below.refl _ _).alloc (Nat.le_refl _) _).alloc (by simp) _
  have HR := hid (H.out.kept HB.out)
  have HKa := hid (HK.out.kept HB.out)
  have H2a : Hid (1 ≤ wa.heap.size) := Nat.le_trans H2.out HB.out.size
  clear HW
  have c0 := cell_regrown (Row.cell HR.out 0 _ rfl)
  have c5 := cell_regrown (Row.cell HR.out 5 _ rfl)
  have c2 := cell_regrown (Row.cell HR.out 2 _ rfl)
  have t7 := cell_regrown (HI.out.cell 7 _ rfl)
  have HT := hid (toK (w := wa) fun w' hb => token_any F.own HO.out (HKa.out.kept hb) (Nat.le_trans H2a.out hb.size))
  have HTK : Hid (tokenOf (sha (eightL F.own)) = tok F.own) := rfl
  rw [HTK.out] at HT
  clear HTK
  by_cases s0 : F.side = 1
  · rw [s0] at c0
    by_cases s1 : F.st = 0
    · rw [s1] at c5
      have ht : (u f.tok != u (tok F.own)) = true := bne_u (fun e => HN.out ⟨s0, .inl s1, e⟩)
      clear s0 s1 HN
      refine wp_region_quiet_below (by kernel_rfl) (by decide +kernel) ?_
      repeat (go_big_quiet_step (first | (go_at_call 38; exact HT.out _ _)))
      refine wpQuiet_nil ?_
      intro _ hw'
      obtain ⟨⟨dq, osq⟩, hw''⟩ := hw'
      subst hw''
      have HBq : Hid (Below wa.heap.size wa (grow (redrawn wa dq) osq)) := below_regrown wa dq osq
      show Exit.then _ _ _ _ (grow (redrawn wa dq) osq)
      generalize grow (redrawn wa dq) osq = wq at *
      have HXq := hid (HX.out.kept HBq.out HX.out.lt)
      have HRq := hid (HR.out.kept HBq.out)
      have HIq := hid (HI.out.kept HBq.out HI.out.lt)
      have HBw := hid (HB.out.trans (HBq.out.mono HB.out.size))
      clear c0 c5 c2 t7 HT
      go_wp2_with (first
        | (show wpList _ _ _ (Oper.mk none (.store 29 (.tmp 6) (.tmp 37)) _ _ _ _ :: _) _ _; refine HXq.out.wpStore' 29 (.tmp 6) (.tmp 37) frZ rfl rfl rfl rfl rfl frZ_one i29 ?_; intro wz HZ))
      have hz : Row wz (w.heap.size + 1) frZ 29 := by rw [HZ.out]; exact HXq.out.row _
      have hb : Below w.heap.size w wz := by rw [HZ.out]; exact Go.below_setRow HBw.out (Nat.le_succ _) _
      exact bodyPost_ret (hz.result2 Tryd.results32 _ rfl rfl _ Tryd.underlying29 rfl i29) rfl (ans_no H.out hb)
    · by_cases s2 : F.st = 2
      · rw [s2] at c5
        have ht : (u f.tok != u (tok F.own)) = true := bne_u (fun e => HN.out ⟨s0, .inr s2, e⟩)
        clear s0 s1 s2 HN
        refine wp_region_quiet_below (by kernel_rfl) (by decide +kernel) ?_
        repeat (go_big_quiet_step (first | (go_at_call 38; exact HT.out _ _)))
        refine wpQuiet_nil ?_
        intro _ hw'
        obtain ⟨⟨dq, osq⟩, hw''⟩ := hw'
        subst hw''
        have HBq : Hid (Below wa.heap.size wa (grow (redrawn wa dq) osq)) := below_regrown wa dq osq
        show Exit.then _ _ _ _ (grow (redrawn wa dq) osq)
        generalize grow (redrawn wa dq) osq = wq at *
        have HXq := hid (HX.out.kept HBq.out HX.out.lt)
        have HRq := hid (HR.out.kept HBq.out)
        have HIq := hid (HI.out.kept HBq.out HI.out.lt)
        have HBw := hid (HB.out.trans (HBq.out.mono HB.out.size))
        clear c0 c5 c2 t7 HT
        go_wp2_with (first
          | (show wpList _ _ _ (Oper.mk none (.store 29 (.tmp 6) (.tmp 37)) _ _ _ _ :: _) _ _; refine HXq.out.wpStore' 29 (.tmp 6) (.tmp 37) frZ rfl rfl rfl rfl rfl frZ_one i29 ?_; intro wz HZ))
        have hz : Row wz (w.heap.size + 1) frZ 29 := by rw [HZ.out]; exact HXq.out.row _
        have hb : Below w.heap.size w wz := by rw [HZ.out]; exact Go.below_setRow HBw.out (Nat.le_succ _) _
        exact bodyPost_ret (hz.result2 Tryd.results32 _ rfl rfl _ Tryd.underlying29 rfl i29) rfl (ans_no H.out hb)
      · have b1 := bne_i s1
        have b2 := bne_i s2
        clear s0 s1 s2 HN
        generalize F.st = sx at c5 b1 b2
        refine wp_region_quiet_below (by kernel_rfl) (by decide +kernel) ?_
        repeat (go_big_quiet_step (first | (go_at_call 38; exact HT.out _ _)))
        refine wpQuiet_nil ?_
        intro _ hw'
        obtain ⟨⟨dq, osq⟩, hw''⟩ := hw'
        subst hw''
        have HBq : Hid (Below wa.heap.size wa (grow (redrawn wa dq) osq)) := below_regrown wa dq osq
        show Exit.then _ _ _ _ (grow (redrawn wa dq) osq)
        generalize grow (redrawn wa dq) osq = wq at *
        have HXq := hid (HX.out.kept HBq.out HX.out.lt)
        have HRq := hid (HR.out.kept HBq.out)
        have HIq := hid (HI.out.kept HBq.out HI.out.lt)
        have HBw := hid (HB.out.trans (HBq.out.mono HB.out.size))
        clear c0 c5 c2 t7 HT
        go_wp2_with (first
          | (show wpList _ _ _ (Oper.mk none (.store 29 (.tmp 6) (.tmp 37)) _ _ _ _ :: _) _ _; refine HXq.out.wpStore' 29 (.tmp 6) (.tmp 37) frZ rfl rfl rfl rfl rfl frZ_one i29 ?_; intro wz HZ))
        have hz : Row wz (w.heap.size + 1) frZ 29 := by rw [HZ.out]; exact HXq.out.row _
        have hb : Below w.heap.size w wz := by rw [HZ.out]; exact Go.below_setRow HBw.out (Nat.le_succ _) _
        exact bodyPost_ret (hz.result2 Tryd.results32 _ rfl rfl _ Tryd.underlying29 rfl i29) rfl (ans_no H.out hb)
  · have b1 := bne_i s0
    clear s0 HN
    generalize F.side = sx at c0 b1
    refine wp_region_quiet_below (by kernel_rfl) (by decide +kernel) ?_
    repeat (go_big_quiet_step (first | (go_at_call 38; exact HT.out _ _)))
    refine wpQuiet_nil ?_
    intro _ hw'
    obtain ⟨⟨dq, osq⟩, hw''⟩ := hw'
    subst hw''
    have HBq : Hid (Below wa.heap.size wa (grow (redrawn wa dq) osq)) := below_regrown wa dq osq
    show Exit.then _ _ _ _ (grow (redrawn wa dq) osq)
    generalize grow (redrawn wa dq) osq = wq at *
    have HXq := hid (HX.out.kept HBq.out HX.out.lt)
    have HRq := hid (HR.out.kept HBq.out)
    have HIq := hid (HI.out.kept HBq.out HI.out.lt)
    have HBw := hid (HB.out.trans (HBq.out.mono HB.out.size))
    clear c0 c5 c2 t7 HT
    go_wp2_with (first
      | (show wpList _ _ _ (Oper.mk none (.store 29 (.tmp 6) (.tmp 37)) _ _ _ _ :: _) _ _; refine HXq.out.wpStore' 29 (.tmp 6) (.tmp 37) frZ rfl rfl rfl rfl rfl frZ_one i29 ?_; intro wz HZ))
    have hz : Row wz (w.heap.size + 1) frZ 29 := by rw [HZ.out]; exact HXq.out.row _
    have hb : Below w.heap.size w wz := by rw [HZ.out]; exact Go.below_setRow HBw.out (Nat.le_succ _) _
    exact bodyPost_ret (hz.result2 Tryd.results32 _ rfl rfl _ Tryd.underlying29 rfl i29) rfl (ans_no H.out hb)
set_option maxHeartbeats 4000000 in
/-- A JOIN that is heard. -/
theorem hearJoin_yes {w : World} {p : Nat} {F : Hf} {f : Fo} {c : List Value} (hH : HfAt w p F) (hf : FrIn w f c) (s0 : F.side = 1) (s1 : F.st = 0 ∨ F.st = 2) (ht : f.tok = tok F.own) (ho : F.own < 18446744073709551616) (hpp : 1 ≤ p) (hK : KTab w) (h2 : 1 ≤ w.heap.size) (now : Nat) :
    Calls Tryd.prog 32 #[.pointer (some ⟨p, 0, none⟩), .int .u64 (now : Int), .agg c.toArray] w (Ans w p { F with hd := f.non, st := 2, bk := f.bk, ag := 0, mrk := now } ({ F with hd := f.non, st := 2, bk := f.bk, ag := 0, mrk := now } : Hf).answer true) := by
  obtain ⟨x2, x3, x4, x5, x6, x11, a, n, rfl, hby⟩ := hf
  have H := hid hH
  have HK := hid hK
  have H2 := hid h2
  have HY := hid hby
  have HO := hid ho
  have HPP := hid hpp
  have HS0 := hid s0
  have HS1 := hid s1
  have HTT := hid ht
  clear hH hK h2 hby ho hpp s0 s1 ht
  have HLT : Hid (p < w.heap.size) := Row.lt H.out
  go_enter Tryd.func32, Tryd.ntmps32
  go_upto_region 1 with fail
  refine wp_world fun wa HW => ?_
  have HI : Hid (Row wa w.heap.size [.int .i64 f.k, .int .i64 f.p, x2, x3, x4, x5, x6, .int .u32 (u f.tok), .int .u32 (u f.non), .slice a f.bs.length n, .bool f.bk, x11] 29) := by show Row _ _ _ _; rw [HW.out]; exact (Row.new' _ _ _ _ _ rfl rfl).alloc _
  have HX : Hid (Row wa (w.heap.size + 1) frZ 29) := by show Row _ _ _ _; rw [HW.out]; exact Row.new' _ _ _ _ _ (by simp) rfl
  have HB : Hid (Below w.heap.size w wa) := by show Below _ _ _; rw [HW.out]; exact ((Below.refl _ _).alloc (Nat.le_refl _) _).alloc (by simp) _
  have HR := hid (H.out.kept HB.out)
  have HKa := hid (HK.out.kept HB.out)
  have H2a : Hid (1 ≤ wa.heap.size) := Nat.le_trans H2.out HB.out.size
  clear HW
  have c0 := cell_regrown (Row.cell HR.out 0 _ rfl)
  have c5 := cell_regrown (Row.cell HR.out 5 _ rfl)
  have c2 := cell_regrown (Row.cell HR.out 2 _ rfl)
  have t7 := cell_regrown (HI.out.cell 7 _ rfl)
  have HT := hid (toK (w := wa) fun w' hb => token_any F.own HO.out (HKa.out.kept hb) (Nat.le_trans H2a.out hb.size))
  have HTK : Hid (tokenOf (sha (eightL F.own)) = tok F.own) := rfl
  rw [HTK.out] at HT
  clear HTK
  have s0 := HS0.out
  have s1 := HS1.out
  have ht := HTT.out
  rw [s0] at c0
  have t7' : ∀ d os, (grow (redrawn wa d) os).cell? ⟨w.heap.size, 7, none⟩ = some (.int .u32 (u (tok F.own))) := by intro d os; rw [← ht]; exact t7 d os
  clear t7 s0 ht
  have t7 := t7'
  clear t7'
  rcases s1 with s1 | s1
  · rw [s1] at c5
    clear s1
    refine wp_region_quiet_below (by kernel_rfl) (by decide +kernel) ?_
    repeat (go_big_quiet_step (first | (go_at_call 38; exact HT.out _ _)))
    refine wpQuiet_nil ?_
    intro _ hw'
    obtain ⟨⟨dq, osq⟩, hw''⟩ := hw'
    subst hw''
    have HBq : Hid (Below wa.heap.size wa (grow (redrawn wa dq) osq)) := below_regrown wa dq osq
    show Exit.then _ _ _ _ (grow (redrawn wa dq) osq)
    generalize grow (redrawn wa dq) osq = wq at *
    have HXq := hid (HX.out.kept HBq.out HX.out.lt)
    have HRq := hid (HR.out.kept HBq.out)
    have HIq := hid (HI.out.kept HBq.out HI.out.lt)
    have HBw := hid (HB.out.trans (HBq.out.mono HB.out.size))
    have HLx : Hid (p < w.heap.size) := HLT.out
    clear c0 c5 c2 t7 HT
    have d7 := HIq.out.cell 7 _ rfl
    have d8 := HIq.out.cell 8 _ rfl
    have d10 := HIq.out.cell 10 _ rfl
    have e7 := Row.cell HRq.out 7 _ rfl
    have g7 := Row.frozen HRq.out 7
    have HR7 := hid (show HfAt (wq.setCell ⟨p, 7, none⟩ (.int .u32 (u f.non))) p { F with hd := f.non } from Row.set HRq.out 7 (.int .u32 (u f.non)))
    have HI7 := hid (HIq.out.setOther ⟨p, 7, none⟩ (by have := HLx.out; show w.heap.size ≠ p; omega) (.int .u32 (u f.non)))
    have HX7 := hid (HXq.out.setOther ⟨p, 7, none⟩ (by have := HLx.out; show w.heap.size + 1 ≠ p; omega) (.int .u32 (u f.non)))
    have HO7 := hid ((below_only HBw.out p).setCell 7 (.int .u32 (u f.non)))
    clear HRq HIq HXq HBq
    go_upto_region 4 with fail
    generalize wq.setCell ⟨p, 7, none⟩ (.int .u32 (u f.non)) = w7 at *
    clear d7 d8 d10 e7 g7
    have d10 := HI7.out.cell 10 _ rfl
    go_wp2_with (first
      | (go_at_call 25; refine (begin_any HR7.out 2 now f.bk).mono ?_; rintro e w8 ⟨rfl, hr8, ho8⟩; have HR8 := hid hr8; have HO8 := hid ho8; clear hr8 ho8)
      | (go_at_call 29
         have o8 : Only p w w8 := HO7.out.trans HO8.out
         have HK8 := hid (HK.out.only o8 HPP.out)
         have HS8 : Hid (w.heap.size ≤ w8.heap.size) := o8.size
         have HX8 := hid (HO8.out.row HX7.out (by have := HLx.out; omega))
         have HOa := hid o8
         clear o8
         refine (joined_any HR8.out HK8.out (Nat.le_trans H2.out HS8.out)).mono ?_; rintro e w9 ⟨v, rfl, ⟨m, hv, om⟩, hb9⟩; obtain ⟨ma, mc, rfl, _, _⟩ := om.shape; have HB9 := hid hb9; have HM9 := hid om; have HV9 := hid hv; clear hb9 om hv)
      | (show wpList _ _ _ (Oper.mk none (.store 29 (.tmp 6) (.tmp 49)) _ _ _ _ :: _) _ _; refine (HX8.out.kept HB9.out HX8.out.lt).wpStore' 29 (.tmp 6) (.tmp 49) (frC 8 F.path 0#32 (nonceOf F.own F.path) (.slice ma ((proofL F.own F.peer (nonceOf F.own F.path) f.non).take 8).length mc) false) rfl rfl rfl HV9.out rfl (frC_one _ _ _ _ _ _ _ _) i29 ?_; intro wz HZ))
    have R9 : Row w9 (w.heap.size + 1) frZ 29 := HX8.out.kept HB9.out HX8.out.lt
    have hz : Row wz (w.heap.size + 1) (frC 8 F.path 0#32 (nonceOf F.own F.path) (.slice ma ((proofL F.own F.peer (nonceOf F.own F.path) f.non).take 8).length mc) false) 29 := by rw [HZ.out]; exact R9.row _
    have oz : Only p w wz := by rw [HZ.out]; exact (HOa.out.trans (below_only HB9.out p)).putRow (Nat.le_succ _) _
    have hpz : HfAt wz p { F with hd := f.non, st := 2, bk := f.bk, ag := 0, mrk := now } := by rw [HZ.out]; exact Row.rowOther (HR8.out.kept HB9.out) (by have := HLx.out; omega) _
    have omz : OwnB wz w.heap.size (.slice ma ((proofL F.own F.peer (nonceOf F.own F.path) f.non).take 8).length mc) ((proofL F.own F.peer (nonceOf F.own F.path) f.non).take 8) := by rw [HZ.out]; exact (ownB_set HM9.out HX8.out.lt _).less HS8.out
    exact bodyPost_ret (hz.result2 Tryd.results32 _ rfl rfl _ Tryd.underlying29 rfl i29) rfl ⟨_, rfl, ⟨_, rfl, omz⟩, hpz, oz⟩
  · rw [s1] at c5
    clear s1
    refine wp_region_quiet_below (by kernel_rfl) (by decide +kernel) ?_
    repeat (go_big_quiet_step (first | (go_at_call 38; exact HT.out _ _)))
    refine wpQuiet_nil ?_
    intro _ hw'
    obtain ⟨⟨dq, osq⟩, hw''⟩ := hw'
    subst hw''
    have HBq : Hid (Below wa.heap.size wa (grow (redrawn wa dq) osq)) := below_regrown wa dq osq
    show Exit.then _ _ _ _ (grow (redrawn wa dq) osq)
    generalize grow (redrawn wa dq) osq = wq at *
    have HXq := hid (HX.out.kept HBq.out HX.out.lt)
    have HRq := hid (HR.out.kept HBq.out)
    have HIq := hid (HI.out.kept HBq.out HI.out.lt)
    have HBw := hid (HB.out.trans (HBq.out.mono HB.out.size))
    have HLx : Hid (p < w.heap.size) := HLT.out
    clear c0 c5 c2 t7 HT
    have d7 := HIq.out.cell 7 _ rfl
    have d8 := HIq.out.cell 8 _ rfl
    have d10 := HIq.out.cell 10 _ rfl
    have e7 := Row.cell HRq.out 7 _ rfl
    have g7 := Row.frozen HRq.out 7
    have HR7 := hid (show HfAt (wq.setCell ⟨p, 7, none⟩ (.int .u32 (u f.non))) p { F with hd := f.non } from Row.set HRq.out 7 (.int .u32 (u f.non)))
    have HI7 := hid (HIq.out.setOther ⟨p, 7, none⟩ (by have := HLx.out; show w.heap.size ≠ p; omega) (.int .u32 (u f.non)))
    have HX7 := hid (HXq.out.setOther ⟨p, 7, none⟩ (by have := HLx.out; show w.heap.size + 1 ≠ p; omega) (.int .u32 (u f.non)))
    have HO7 := hid ((below_only HBw.out p).setCell 7 (.int .u32 (u f.non)))
    clear HRq HIq HXq HBq
    go_upto_region 4 with fail
    generalize wq.setCell ⟨p, 7, none⟩ (.int .u32 (u f.non)) = w7 at *
    clear d7 d8 d10 e7 g7
    have d10 := HI7.out.cell 10 _ rfl
    go_wp2_with (first
      | (go_at_call 25; refine (begin_any HR7.out 2 now f.bk).mono ?_; rintro e w8 ⟨rfl, hr8, ho8⟩; have HR8 := hid hr8; have HO8 := hid ho8; clear hr8 ho8)
      | (go_at_call 29
         have o8 : Only p w w8 := HO7.out.trans HO8.out
         have HK8 := hid (HK.out.only o8 HPP.out)
         have HS8 : Hid (w.heap.size ≤ w8.heap.size) := o8.size
         have HX8 := hid (HO8.out.row HX7.out (by have := HLx.out; omega))
         have HOa := hid o8
         clear o8
         refine (joined_any HR8.out HK8.out (Nat.le_trans H2.out HS8.out)).mono ?_; rintro e w9 ⟨v, rfl, ⟨m, hv, om⟩, hb9⟩; obtain ⟨ma, mc, rfl, _, _⟩ := om.shape; have HB9 := hid hb9; have HM9 := hid om; have HV9 := hid hv; clear hb9 om hv)
      | (show wpList _ _ _ (Oper.mk none (.store 29 (.tmp 6) (.tmp 49)) _ _ _ _ :: _) _ _; refine (HX8.out.kept HB9.out HX8.out.lt).wpStore' 29 (.tmp 6) (.tmp 49) (frC 8 F.path 0#32 (nonceOf F.own F.path) (.slice ma ((proofL F.own F.peer (nonceOf F.own F.path) f.non).take 8).length mc) false) rfl rfl rfl HV9.out rfl (frC_one _ _ _ _ _ _ _ _) i29 ?_; intro wz HZ))
    have R9 : Row w9 (w.heap.size + 1) frZ 29 := HX8.out.kept HB9.out HX8.out.lt
    have hz : Row wz (w.heap.size + 1) (frC 8 F.path 0#32 (nonceOf F.own F.path) (.slice ma ((proofL F.own F.peer (nonceOf F.own F.path) f.non).take 8).length mc) false) 29 := by rw [HZ.out]; exact R9.row _
    have oz : Only p w wz := by rw [HZ.out]; exact (HOa.out.trans (below_only HB9.out p)).putRow (Nat.le_succ _) _
    have hpz : HfAt wz p { F with hd := f.non, st := 2, bk := f.bk, ag := 0, mrk := now } := by rw [HZ.out]; exact Row.rowOther (HR8.out.kept HB9.out) (by have := HLx.out; omega) _
    have omz : OwnB wz w.heap.size (.slice ma ((proofL F.own F.peer (nonceOf F.own F.path) f.non).take 8).length mc) ((proofL F.own F.peer (nonceOf F.own F.path) f.non).take 8) := by rw [HZ.out]; exact (ownB_set HM9.out HX8.out.lt _).less HS8.out
    exact bodyPost_ret (hz.result2 Tryd.results32 _ rfl rfl _ Tryd.underlying29 rfl i29) rfl ⟨_, rfl, ⟨_, rfl, omz⟩, hpz, oz⟩
end Go.Proofs.YtjpllcliehgnfaaDoor
