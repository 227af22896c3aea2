import Derived.Test.YtjpllcliehgnfaaDoorJ16
namespace Go.Proofs.YtjpllcliehgnfaaDoor
open Go.RowKit Go.Sort
set_option maxRecDepth 100000

set_option maxHeartbeats 4000000 in
/-- A JOINED that is not for this Half, not now, or not right. -/
theorem hearJoined_no {w : World} {p : Nat} {F : Hf} {f : Fo} {c : List Value} (hH : HfAt w p F) (hf : FrIn w f c) (hn : ¬ (F.side = 0 ∧ (F.st = 1 ∨ F.st = 3) ∧ f.bs = (proofL F.peer F.own f.non (nonceOf F.own F.path)).take 8)) (hK : KTab w) (h2 : 1 ≤ w.heap.size) (now : Nat) :
    Calls Tryd.prog 33 #[.pointer (some ⟨p, 0, none⟩), .int .u64 (now : Int), .agg c.toArray] w (Ans w p F Fo.zero false) := by
  obtain ⟨x2, x3, x4, x5, x6, x11, a, n, rfl, hby⟩ := hf
  have H := hid hH
  have HK := hid hK
  have H2 := hid h2
  have HY := hid hby
  have HN := hid hn
  clear hH hK h2 hby hn
  have HLT : Hid (p < w.heap.size) := Row.lt H.out
  go_enter Tryd.func33, Tryd.ntmps33
  go_upto_region 1 with fail
  refine wp_world fun wa HW => ?_
  have HI : Hid (Row wa w.heap.size [.int .i64 f.k, .int .i64 f.p, x2, x3, x4, x5, x6, .int .u32 (u f.tok), .int .u32 (u f.non), .slice a f.bs.length n, .bool f.bk, x11] 29) := by show Row _ _ _ _; rw [HW.out]; exact (Row.new' _ _ _ _ _ rfl rfl).alloc _
  have HX : Hid (Row wa (w.heap.size + 1) frZ 29) := by show Row _ _ _ _; rw [HW.out]; exact Row.new' _ _ _ _ _ (by simp) rfl
  have HB : Hid (Below w.heap.size w wa) := by show Below _ _ _; rw [HW.out]; exact ((Below.refl _ _).alloc (Nat.le_refl _) _).alloc (by simp) _
  have HR := hid (H.out.kept HB.out)
  have HKa := hid (HK.out.kept HB.out)
  have H2a : Hid (1 ≤ wa.heap.size) := Nat.le_trans H2.out HB.out.size
  clear HW
  have c0 := Row.cell HR.out 0 _ rfl
  have c5 := Row.cell HR.out 5 _ rfl
  by_cases s0 : F.side = 0
  · rw [s0] at c0
    by_cases s1 : F.st = 1 ∨ F.st = 3
    · have hm : decide (f.bs = (proofL F.peer F.own f.non (nonceOf F.own F.path)).take 8) = false := by simp only [decide_eq_false_iff_not]; exact fun e => HN.out ⟨s0, s1, e⟩
      clear s0 HN
      have t8 := cell_regrown (HI.out.cell 8 _ rfl)
      have t9 := cell_regrown (HI.out.cell 9 _ rfl)
      have HT := hid (toK (w := wa) fun w' hb => peerProof_any (HR.out.kept hb) (HKa.out.kept hb) (Nat.le_trans H2a.out hb.size) f.non)
      have HG := hid (toK (w := wa) fun w' hb => begins_any (cap := n) (proofL_len F.peer F.own f.non (nonceOf F.own F.path)) ((HY.out.kept HB.out).kept hb) 8 (by decide))
      rw [hm] at HG
      clear hm
      generalize proofL F.peer F.own f.non (nonceOf F.own F.path) = PF at *
      rcases s1 with s1 | s1
      · rw [s1] at c5
        clear s1
        go_upto_region 3 with fail
        clear c0 c5
        refine wp_region_quiet_below (by kernel_rfl) (by decide +kernel) ?_
        repeat (go_big_quiet_step (first | (go_at_call 43; exact HT.out _ _) | (go_at_call 42; exact HG.out _ _)))
        refine wpQuiet_nil ?_
        intro _ hw'
        obtain ⟨⟨dq, osq⟩, hw''⟩ := hw'
        subst hw''
        have HBq : Hid (Below wa.heap.size wa (grow (redrawn wa dq) osq)) := below_regrown wa dq osq
        show Exit.then _ _ _ _ (grow (redrawn wa dq) osq)
        generalize grow (redrawn wa dq) osq = wq at *
        have HXq := hid (HX.out.kept HBq.out HX.out.lt)
        have HRq := hid (HR.out.kept HBq.out)
        have HIq := hid (HI.out.kept HBq.out HI.out.lt)
        have HBw := hid (HB.out.trans (HBq.out.mono HB.out.size))
        clear t8 t9 HT HG
        go_wp2_with (first
          | (show wpList _ _ _ (Oper.mk none (.store 29 (.tmp 6) (.tmp 36)) _ _ _ _ :: _) _ _; refine HXq.out.wpStore' 29 (.tmp 6) (.tmp 36) frZ rfl rfl rfl rfl rfl frZ_one i29 ?_; intro wz HZ))
        have hz : Row wz (w.heap.size + 1) frZ 29 := by rw [HZ.out]; exact HXq.out.row _
        have hb : Below w.heap.size w wz := by rw [HZ.out]; exact Go.below_setRow HBw.out (Nat.le_succ _) _
        exact bodyPost_ret (hz.result2 Tryd.results33 _ rfl rfl _ Tryd.underlying29 rfl i29) rfl (ans_no H.out hb)
      · rw [s1] at c5
        clear s1
        go_upto_region 3 with fail
        clear c0 c5
        refine wp_region_quiet_below (by kernel_rfl) (by decide +kernel) ?_
        repeat (go_big_quiet_step (first | (go_at_call 43; exact HT.out _ _) | (go_at_call 42; exact HG.out _ _)))
        refine wpQuiet_nil ?_
        intro _ hw'
        obtain ⟨⟨dq, osq⟩, hw''⟩ := hw'
        subst hw''
        have HBq : Hid (Below wa.heap.size wa (grow (redrawn wa dq) osq)) := below_regrown wa dq osq
        show Exit.then _ _ _ _ (grow (redrawn wa dq) osq)
        generalize grow (redrawn wa dq) osq = wq at *
        have HXq := hid (HX.out.kept HBq.out HX.out.lt)
        have HRq := hid (HR.out.kept HBq.out)
        have HIq := hid (HI.out.kept HBq.out HI.out.lt)
        have HBw := hid (HB.out.trans (HBq.out.mono HB.out.size))
        clear t8 t9 HT HG
        go_wp2_with (first
          | (show wpList _ _ _ (Oper.mk none (.store 29 (.tmp 6) (.tmp 36)) _ _ _ _ :: _) _ _; refine HXq.out.wpStore' 29 (.tmp 6) (.tmp 36) frZ rfl rfl rfl rfl rfl frZ_one i29 ?_; intro wz HZ))
        have hz : Row wz (w.heap.size + 1) frZ 29 := by rw [HZ.out]; exact HXq.out.row _
        have hb : Below w.heap.size w wz := by rw [HZ.out]; exact Go.below_setRow HBw.out (Nat.le_succ _) _
        exact bodyPost_ret (hz.result2 Tryd.results33 _ rfl rfl _ Tryd.underlying29 rfl i29) rfl (ans_no H.out hb)
    · have s2 : ¬ F.st = 1 := fun e => s1 (.inl e)
      have s3 : ¬ F.st = 3 := fun e => s1 (.inr e)
      have b1 := bne_i s2
      have b2 := bne_i s3
      clear s0 s1 s2 s3 HN
      generalize F.st = sx at c5 b1 b2
      go_wp2_with (first
        | (show wpList _ _ _ (Oper.mk none (.store 29 (.tmp 6) (.tmp 27)) _ _ _ _ :: _) _ _; refine HX.out.wpStore' 29 (.tmp 6) (.tmp 27) frZ rfl rfl rfl rfl rfl frZ_one i29 ?_; intro wz HZ))
      have hz : Row wz (w.heap.size + 1) frZ 29 := by rw [HZ.out]; exact HX.out.row _
      have hb : Below w.heap.size w wz := by rw [HZ.out]; exact Go.below_setRow HB.out (Nat.le_succ _) _
      exact bodyPost_ret (hz.result2 Tryd.results33 _ rfl rfl _ Tryd.underlying29 rfl i29) rfl (ans_no H.out hb)
  · have b1 := bne_i s0
    clear s0 HN
    generalize F.side = sx at c0 b1
    go_wp2_with (first
      | (show wpList _ _ _ (Oper.mk none (.store 29 (.tmp 6) (.tmp 27)) _ _ _ _ :: _) _ _; refine HX.out.wpStore' 29 (.tmp 6) (.tmp 27) frZ rfl rfl rfl rfl rfl frZ_one i29 ?_; intro wz HZ))
    have hz : Row wz (w.heap.size + 1) frZ 29 := by rw [HZ.out]; exact HX.out.row _
    have hb : Below w.heap.size w wz := by rw [HZ.out]; exact Go.below_setRow HB.out (Nat.le_succ _) _
    exact bodyPost_ret (hz.result2 Tryd.results33 _ rfl rfl _ Tryd.underlying29 rfl i29) rfl (ans_no H.out hb)
set_option maxHeartbeats 4000000 in
/-- A JOINED that is right. -/
theorem hearJoined_yes {w : World} {p : Nat} {F : Hf} {f : Fo} {c : List Value} (hH : HfAt w p F) (hf : FrIn w f c) (s0 : F.side = 0) (s1 : F.st = 1 ∨ F.st = 3) (hm : f.bs = (proofL F.peer F.own f.non (nonceOf F.own F.path)).take 8) (hpp : 1 ≤ p) (hK : KTab w) (h2 : 1 ≤ w.heap.size) (now : Nat) :
    Calls Tryd.prog 33 #[.pointer (some ⟨p, 0, none⟩), .int .u64 (now : Int), .agg c.toArray] w (Ans w p { F with st := 3 } (({ F with st := 3 } : Hf).proves f.non) true) := by
  obtain ⟨x2, x3, x4, x5, x6, x11, a, n, rfl, hby⟩ := hf
  have H := hid hH
  have HK := hid hK
  have H2 := hid h2
  have HY := hid hby
  have HPP := hid hpp
  have HS0 := hid s0
  have HS1 := hid s1
  have HMM := hid hm
  clear hH hK h2 hby hpp s0 s1 hm
  have HLT : Hid (p < w.heap.size) := Row.lt H.out
  go_enter Tryd.func33, Tryd.ntmps33
  go_upto_region 1 with fail
  refine wp_world fun wa HW => ?_
  have HI : Hid (Row wa w.heap.size [.int .i64 f.k, .int .i64 f.p, x2, x3, x4, x5, x6, .int .u32 (u f.tok), .int .u32 (u f.non), .slice a f.bs.length n, .bool f.bk, x11] 29) := by show Row _ _ _ _; rw [HW.out]; exact (Row.new' _ _ _ _ _ rfl rfl).alloc _
  have HX : Hid (Row wa (w.heap.size + 1) frZ 29) := by show Row _ _ _ _; rw [HW.out]; exact Row.new' _ _ _ _ _ (by simp) rfl
  have HB : Hid (Below w.heap.size w wa) := by show Below _ _ _; rw [HW.out]; exact ((Below.refl _ _).alloc (Nat.le_refl _) _).alloc (by simp) _
  have HR := hid (H.out.kept HB.out)
  have HKa := hid (HK.out.kept HB.out)
  have H2a : Hid (1 ≤ wa.heap.size) := Nat.le_trans H2.out HB.out.size
  clear HW
  have c0 := Row.cell HR.out 0 _ rfl
  have c5 := Row.cell HR.out 5 _ rfl
  have s0 := HS0.out
  have s1 := HS1.out
  have hm := HMM.out
  rw [s0] at c0
  have t8 := cell_regrown (HI.out.cell 8 _ rfl)
  have t9 := cell_regrown (HI.out.cell 9 _ rfl)
  have HT := hid (toK (w := wa) fun w' hb => peerProof_any (HR.out.kept hb) (HKa.out.kept hb) (Nat.le_trans H2a.out hb.size) f.non)
  have HG := hid (toK (w := wa) fun w' hb => begins_any (cap := n) (proofL_len F.peer F.own f.non (nonceOf F.own F.path)) ((HY.out.kept HB.out).kept hb) 8 (by decide))
  rw [decide_eq_true hm] at HG
  clear hm s0
  generalize proofL F.peer F.own f.non (nonceOf F.own F.path) = PF at *
  rcases s1 with s1 | s1
  · rw [s1] at c5
    clear s1
    go_upto_region 3 with fail
    clear c0 c5
    refine wp_region_quiet_below (by kernel_rfl) (by decide +kernel) ?_
    repeat (go_big_quiet_step (first | (go_at_call 43; exact HT.out _ _) | (go_at_call 42; exact HG.out _ _)))
    refine wpQuiet_nil ?_
    intro _ hw'
    obtain ⟨⟨dq, osq⟩, hw''⟩ := hw'
    subst hw''
    have HBq : Hid (Below wa.heap.size wa (grow (redrawn wa dq) osq)) := below_regrown wa dq osq
    show Exit.then _ _ _ _ (grow (redrawn wa dq) osq)
    generalize grow (redrawn wa dq) osq = wq at *
    have HXq := hid (HX.out.kept HBq.out HX.out.lt)
    have HRq := hid (HR.out.kept HBq.out)
    have HIq := hid (HI.out.kept HBq.out HI.out.lt)
    have HBw := hid (HB.out.trans (HBq.out.mono HB.out.size))
    clear t8 t9 HT HG
    have d8 := HIq.out.cell 8 _ rfl
    have e5 := Row.cell HRq.out 5 _ rfl
    have g5 := Row.frozen HRq.out 5
    have HR5 := hid (show HfAt (wq.setCell ⟨p, 5, none⟩ (.int .i64 3)) p { F with st := 3 } from Row.set HRq.out 5 (.int .i64 3))
    have HI5 := hid (HIq.out.setOther ⟨p, 5, none⟩ (by have := HLT.out; show w.heap.size ≠ p; omega) (.int .i64 3))
    have HX5 := hid (HXq.out.setOther ⟨p, 5, none⟩ (by have := HLT.out; show w.heap.size + 1 ≠ p; omega) (.int .i64 3))
    have HO5 := hid ((below_only HBw.out p).setCell 5 (.int .i64 3))
    clear HRq HIq HXq HBq
    go_upto_region 6 with fail
    generalize wq.setCell ⟨p, 5, none⟩ (.int .i64 3) = w5 at *
    clear d8 e5 g5
    have d8 := HI5.out.cell 8 _ rfl
    have HK5 := hid (HK.out.only HO5.out HPP.out)
    have HS5 : Hid (w.heap.size ≤ w5.heap.size) := HO5.out.size
    go_wp2_with (first
      | (go_at_call 44; refine (prove_any HR5.out HK5.out (Nat.le_trans H2.out HS5.out) f.non).mono ?_; rintro e w9 ⟨v, rfl, ⟨m, hv, om⟩, hb9⟩; obtain ⟨ma, mc, rfl, _, _⟩ := om.shape; have HB9 := hid hb9; have HM9 := hid om; have HV9 := hid hv; clear hb9 om hv)
      | (show wpList _ _ _ (Oper.mk none (.store 29 (.tmp 6) (.tmp 43)) _ _ _ _ :: _) _ _; refine (HX5.out.kept HB9.out HX5.out.lt).wpStore' 29 (.tmp 6) (.tmp 43) (frC 9 F.path 0#32 0#32 (.slice ma ((proofL F.own F.peer (nonceOf F.own F.path) f.non).take 20).length mc) false) rfl rfl rfl HV9.out rfl (frC_one _ _ _ _ _ _ _ _) i29 ?_; intro wz HZ))
    have R9 : Row w9 (w.heap.size + 1) frZ 29 := HX5.out.kept HB9.out HX5.out.lt
    have hz : Row wz (w.heap.size + 1) (frC 9 F.path 0#32 0#32 (.slice ma ((proofL F.own F.peer (nonceOf F.own F.path) f.non).take 20).length mc) false) 29 := by rw [HZ.out]; exact R9.row _
    have oz : Only p w wz := by rw [HZ.out]; exact (HO5.out.trans (below_only HB9.out p)).putRow (Nat.le_succ _) _
    have hpz : HfAt wz p { F with st := 3 } := by rw [HZ.out]; exact Row.rowOther (HR5.out.kept HB9.out) (by have := HLT.out; omega) _
    have omz : OwnB wz w.heap.size (.slice ma ((proofL F.own F.peer (nonceOf F.own F.path) f.non).take 20).length mc) ((proofL F.own F.peer (nonceOf F.own F.path) f.non).take 20) := by rw [HZ.out]; exact (ownB_set HM9.out HX5.out.lt _).less HS5.out
    exact bodyPost_ret (hz.result2 Tryd.results33 _ rfl rfl _ Tryd.underlying29 rfl i29) rfl ⟨_, rfl, ⟨_, rfl, omz⟩, hpz, oz⟩
  · rw [s1] at c5
    clear s1
    go_upto_region 3 with fail
    clear c0 c5
    refine wp_region_quiet_below (by kernel_rfl) (by decide +kernel) ?_
    repeat (go_big_quiet_step (first | (go_at_call 43; exact HT.out _ _) | (go_at_call 42; exact HG.out _ _)))
    refine wpQuiet_nil ?_
    intro _ hw'
    obtain ⟨⟨dq, osq⟩, hw''⟩ := hw'
    subst hw''
    have HBq : Hid (Below wa.heap.size wa (grow (redrawn wa dq) osq)) := below_regrown wa dq osq
    show Exit.then _ _ _ _ (grow (redrawn wa dq) osq)
    generalize grow (redrawn wa dq) osq = wq at *
    have HXq := hid (HX.out.kept HBq.out HX.out.lt)
    have HRq := hid (HR.out.kept HBq.out)
    have HIq := hid (HI.out.kept HBq.out HI.out.lt)
    have HBw := hid (HB.out.trans (HBq.out.mono HB.out.size))
    clear t8 t9 HT HG
    have d8 := HIq.out.cell 8 _ rfl
    have e5 := Row.cell HRq.out 5 _ rfl
    have g5 := Row.frozen HRq.out 5
    have HR5 := hid (show HfAt (wq.setCell ⟨p, 5, none⟩ (.int .i64 3)) p { F with st := 3 } from Row.set HRq.out 5 (.int .i64 3))
    have HI5 := hid (HIq.out.setOther ⟨p, 5, none⟩ (by have := HLT.out; show w.heap.size ≠ p; omega) (.int .i64 3))
    have HX5 := hid (HXq.out.setOther ⟨p, 5, none⟩ (by have := HLT.out; show w.heap.size + 1 ≠ p; omega) (.int .i64 3))
    have HO5 := hid ((below_only HBw.out p).setCell 5 (.int .i64 3))
    clear HRq HIq HXq HBq
    go_upto_region 6 with fail
    generalize wq.setCell ⟨p, 5, none⟩ (.int .i64 3) = w5 at *
    clear d8 e5 g5
    have d8 := HI5.out.cell 8 _ rfl
    have HK5 := hid (HK.out.only HO5.out HPP.out)
    have HS5 : Hid (w.heap.size ≤ w5.heap.size) := HO5.out.size
    go_wp2_with (first
      | (go_at_call 44; refine (prove_any HR5.out HK5.out (Nat.le_trans H2.out HS5.out) f.non).mono ?_; rintro e w9 ⟨v, rfl, ⟨m, hv, om⟩, hb9⟩; obtain ⟨ma, mc, rfl, _, _⟩ := om.shape; have HB9 := hid hb9; have HM9 := hid om; have HV9 := hid hv; clear hb9 om hv)
      | (show wpList _ _ _ (Oper.mk none (.store 29 (.tmp 6) (.tmp 43)) _ _ _ _ :: _) _ _; refine (HX5.out.kept HB9.out HX5.out.lt).wpStore' 29 (.tmp 6) (.tmp 43) (frC 9 F.path 0#32 0#32 (.slice ma ((proofL F.own F.peer (nonceOf F.own F.path) f.non).take 20).length mc) false) rfl rfl rfl HV9.out rfl (frC_one _ _ _ _ _ _ _ _) i29 ?_; intro wz HZ))
    have R9 : Row w9 (w.heap.size + 1) frZ 29 := HX5.out.kept HB9.out HX5.out.lt
    have hz : Row wz (w.heap.size + 1) (frC 9 F.path 0#32 0#32 (.slice ma ((proofL F.own F.peer (nonceOf F.own F.path) f.non).take 20).length mc) false) 29 := by rw [HZ.out]; exact R9.row _
    have oz : Only p w wz := by rw [HZ.out]; exact (HO5.out.trans (below_only HB9.out p)).putRow (Nat.le_succ _) _
    have hpz : HfAt wz p { F with st := 3 } := by rw [HZ.out]; exact Row.rowOther (HR5.out.kept HB9.out) (by have := HLT.out; omega) _
    have omz : OwnB wz w.heap.size (.slice ma ((proofL F.own F.peer (nonceOf F.own F.path) f.non).take 20).length mc) ((proofL F.own F.peer (nonceOf F.own F.path) f.non).take 20) := by rw [HZ.out]; exact (ownB_set HM9.out HX5.out.lt _).less HS5.out
    exact bodyPost_ret (hz.result2 Tryd.results33 _ rfl rfl _ Tryd.underlying29 rfl i29) rfl ⟨_, rfl, ⟨_, rfl, omz⟩, hpz, oz⟩
end Go.Proofs.YtjpllcliehgnfaaDoor
