import Derived.Test.YtjpllcliehgnfaaDoorJ16
namespace Go.Proofs.YtjpllcliehgnfaaDoor
open Go.RowKit Go.Sort
set_option maxRecDepth 100000

set_option maxHeartbeats 4000000 in
/-- A PROVE that is not for now, or not right. -/
theorem hearProve_no {w : World} {p : Nat} {F : Hf} {f : Fo} {c : List Value} (hH : HfAt w p F) (hf : FrIn w f c) (hn : ¬ (F.st = 2 ∧ f.bs = (proofL F.peer F.own F.hd (nonceOf F.own F.path)).take 20)) (hK : KTab w) (h2 : 1 ≤ w.heap.size) (now : Nat) :
    Calls Tryd.prog 34 #[.pointer (some ⟨p, 0, none⟩), .int .u64 (now : Int), .agg c.toArray] w (Ans w p F Fo.zero false) := by
  obtain ⟨x2, x3, x4, x5, x6, x11, a, n, rfl, hby⟩ := hf
  have H := hid hH
  have HK := hid hK
  have H2 := hid h2
  have HY := hid hby
  have HN := hid hn
  clear hH hK h2 hby hn
  have HLT : Hid (p < w.heap.size) := Row.lt H.out
  go_enter Tryd.func34, Tryd.ntmps34
  go_upto_region 1 with fail
  refine wp_world fun wa HW => ?_
  have HI : Hid (Row wa w.heap.size [.int .i64 f.k, .int .i64 f.p, x2, x3, x4, x5, x6, .int .u32 (u f.tok), .int .u32 (u f.non), .slice a f.bs.length n, .bool f.bk, x11] 29) := by show Row _ _ _ _; rw [HW.out]; exact (Row.new' _ _ _ _ _ rfl rfl).alloc _
  have HX : Hid (Row wa (w.heap.size + 1) frZ 29) := by show Row _ _ _ _; rw [HW.out]; exact Row.new' _ _ _ _ _ (by simp) rfl
  have HB : Hid (Below w.heap.size w wa) := by show Below _ _ _; rw [HW.out]; exact ((Below.refl _ _).alloc (Nat.le_refl _) _).alloc (by simp) _
  have HR := hid (H.out.kept HB.out)
  have HKa := hid (HK.out.kept HB.out)
  have H2a : Hid (1 ≤ wa.heap.size) := Nat.le_trans H2.out HB.out.size
  clear HW
  have c5 := cell_regrown (Row.cell HR.out 5 _ rfl)
  have c7 := cell_regrown (Row.cell HR.out 7 _ rfl)
  have t9 := cell_regrown (HI.out.cell 9 _ rfl)
  have HT := hid (toK (w := wa) fun w' hb => peerProof_any (HR.out.kept hb) (HKa.out.kept hb) (Nat.le_trans H2a.out hb.size) F.hd)
  have HG := hid (toK (w := wa) fun w' hb => begins_any (cap := n) (proofL_len F.peer F.own F.hd (nonceOf F.own F.path)) ((HY.out.kept HB.out).kept hb) 20 (by decide))
  by_cases s0 : F.st = 2
  · rw [s0] at c5
    have hm : decide (f.bs = (proofL F.peer F.own F.hd (nonceOf F.own F.path)).take 20) = false := by simp only [decide_eq_false_iff_not]; exact fun e => HN.out ⟨s0, e⟩
    rw [hm] at HG
    clear hm s0 HN
    generalize proofL F.peer F.own F.hd (nonceOf F.own F.path) = PF at *
    refine wp_region_quiet_below (by kernel_rfl) (by decide +kernel) ?_
    repeat (go_big_quiet_step (first | (go_at_call 43; exact HT.out _ _) | (go_at_call 42; exact HG.out _ _)))
    refine wpQuiet_nil ?_
    intro _ hw'
    obtain ⟨⟨dq, osq⟩, hw''⟩ := hw'
    subst hw''
    have HBq : Hid (Below wa.heap.size wa (grow (redrawn wa dq) osq)) := below_regrown wa dq osq
    show Exit.then _ _ _ _ (grow (redrawn wa dq) osq)
    generalize grow (redrawn wa dq) osq = wq at *
    have HXq := hid (HX.out.kept HBq.out HX.out.lt)
    have HRq := hid (HR.out.kept HBq.out)
    have HIq := hid (HI.out.kept HBq.out HI.out.lt)
    have HBw := hid (HB.out.trans (HBq.out.mono HB.out.size))
    clear c5 c7 t9 HT HG
    go_wp2_with (first
      | (show wpList _ _ _ (Oper.mk none (.store 29 (.tmp 6) (.tmp 27)) _ _ _ _ :: _) _ _; refine HXq.out.wpStore' 29 (.tmp 6) (.tmp 27) frZ rfl rfl rfl rfl rfl frZ_one i29 ?_; intro wz HZ))
    have hz : Row wz (w.heap.size + 1) frZ 29 := by rw [HZ.out]; exact HXq.out.row _
    have hb : Below w.heap.size w wz := by rw [HZ.out]; exact Go.below_setRow HBw.out (Nat.le_succ _) _
    exact bodyPost_ret (hz.result2 Tryd.results34 _ rfl rfl _ Tryd.underlying29 rfl i29) rfl (ans_no H.out hb)
  · have b1 := beq_i s0
    clear s0 HN
    generalize F.st = sx at c5 b1
    generalize proofL F.peer F.own F.hd (nonceOf F.own F.path) = PF at *
    refine wp_region_quiet_below (by kernel_rfl) (by decide +kernel) ?_
    repeat (go_big_quiet_step (first | (go_at_call 43; exact HT.out _ _) | (go_at_call 42; exact HG.out _ _)))
    refine wpQuiet_nil ?_
    intro _ hw'
    obtain ⟨⟨dq, osq⟩, hw''⟩ := hw'
    subst hw''
    have HBq : Hid (Below wa.heap.size wa (grow (redrawn wa dq) osq)) := below_regrown wa dq osq
    show Exit.then _ _ _ _ (grow (redrawn wa dq) osq)
    generalize grow (redrawn wa dq) osq = wq at *
    have HXq := hid (HX.out.kept HBq.out HX.out.lt)
    have HRq := hid (HR.out.kept HBq.out)
    have HIq := hid (HI.out.kept HBq.out HI.out.lt)
    have HBw := hid (HB.out.trans (HBq.out.mono HB.out.size))
    clear c5 c7 t9 HT HG
    go_wp2_with (first
      | (show wpList _ _ _ (Oper.mk none (.store 29 (.tmp 6) (.tmp 27)) _ _ _ _ :: _) _ _; refine HXq.out.wpStore' 29 (.tmp 6) (.tmp 27) frZ rfl rfl rfl rfl rfl frZ_one i29 ?_; intro wz HZ))
    have hz : Row wz (w.heap.size + 1) frZ 29 := by rw [HZ.out]; exact HXq.out.row _
    have hb : Below w.heap.size w wz := by rw [HZ.out]; exact Go.below_setRow HBw.out (Nat.le_succ _) _
    exact bodyPost_ret (hz.result2 Tryd.results34 _ rfl rfl _ Tryd.underlying29 rfl i29) rfl (ans_no H.out hb)
set_option maxHeartbeats 4000000 in
/-- A PROVE that is right. -/
theorem hearProve_yes {w : World} {p : Nat} {F : Hf} {f : Fo} {c : List Value} (hH : HfAt w p F) (hf : FrIn w f c) (s0 : F.st = 2) (hm : f.bs = (proofL F.peer F.own F.hd (nonceOf F.own F.path)).take 20) (hK : KTab w) (h2 : 1 ≤ w.heap.size) (now : Nat) :
    Calls Tryd.prog 34 #[.pointer (some ⟨p, 0, none⟩), .int .u64 (now : Int), .agg c.toArray] w (Ans w p { F with st := 3 } Fo.zero false) := by
  obtain ⟨x2, x3, x4, x5, x6, x11, a, n, rfl, hby⟩ := hf
  have H := hid hH
  have HK := hid hK
  have H2 := hid h2
  have HY := hid hby
  have HS0 := hid s0
  have HMM := hid hm
  clear hH hK h2 hby s0 hm
  have HLT : Hid (p < w.heap.size) := Row.lt H.out
  go_enter Tryd.func34, Tryd.ntmps34
  go_upto_region 1 with fail
  refine wp_world fun wa HW => ?_
  have HI : Hid (Row wa w.heap.size [.int .i64 f.k, .int .i64 f.p, x2, x3, x4, x5, x6, .int .u32 (u f.tok), .int .u32 (u f.non), .slice a f.bs.length n, .bool f.bk, x11] 29) := by show Row _ _ _ _; rw [HW.out]; exact (Row.new' _ _ _ _ _ rfl rfl).alloc _
  have HX : Hid (Row wa (w.heap.size + 1) frZ 29) := by show Row _ _ _ _; rw [HW.out]; exact Row.new' _ _ _ _ _ (by simp) rfl
  have HB : Hid (Below w.heap.size w wa) := by show Below _ _ _; rw [HW.out]; exact ((Below.refl _ _).alloc (Nat.le_refl _) _).alloc (by simp) _
  have HR := hid (H.out.kept HB.out)
  have HKa := hid (HK.out.kept HB.out)
  have H2a : Hid (1 ≤ wa.heap.size) := Nat.le_trans H2.out HB.out.size
  clear HW
  have c5 := cell_regrown (Row.cell HR.out 5 _ rfl)
  have c7 := cell_regrown (Row.cell HR.out 7 _ rfl)
  have t9 := cell_regrown (HI.out.cell 9 _ rfl)
  have HT := hid (toK (w := wa) fun w' hb => peerProof_any (HR.out.kept hb) (HKa.out.kept hb) (Nat.le_trans H2a.out hb.size) F.hd)
  have HG := hid (toK (w := wa) fun w' hb => begins_any (cap := n) (proofL_len F.peer F.own F.hd (nonceOf F.own F.path)) ((HY.out.kept HB.out).kept hb) 20 (by decide))
  have s0 := HS0.out
  have hm := HMM.out
  rw [s0] at c5
  rw [decide_eq_true hm] at HG
  clear hm s0
  generalize proofL F.peer F.own F.hd (nonceOf F.own F.path) = PF at *
  refine wp_region_quiet_below (by kernel_rfl) (by decide +kernel) ?_
  repeat (go_big_quiet_step (first | (go_at_call 43; exact HT.out _ _) | (go_at_call 42; exact HG.out _ _)))
  refine wpQuiet_nil ?_
  intro _ hw'
  obtain ⟨⟨dq, osq⟩, hw''⟩ := hw'
  subst hw''
  have HBq : Hid (Below wa.heap.size wa (grow (redrawn wa dq) osq)) := below_regrown wa dq osq
  show Exit.then _ _ _ _ (grow (redrawn wa dq) osq)
  generalize grow (redrawn wa dq) osq = wq at *
  have HXq := hid (HX.out.kept HBq.out HX.out.lt)
  have HRq := hid (HR.out.kept HBq.out)
  have HIq := hid (HI.out.kept HBq.out HI.out.lt)
  have HBw := hid (HB.out.trans (HBq.out.mono HB.out.size))
  clear c5 c7 t9 HT HG
  have e5 := Row.cell HRq.out 5 _ rfl
  have g5 := Row.frozen HRq.out 5
  have HR5 := hid (show HfAt (wq.setCell ⟨p, 5, none⟩ (.int .i64 3)) p { F with st := 3 } from Row.set HRq.out 5 (.int .i64 3))
  have HX5 := hid (HXq.out.setOther ⟨p, 5, none⟩ (by have := HLT.out; show w.heap.size + 1 ≠ p; omega) (.int .i64 3))
  have HO5 := hid ((below_only HBw.out p).setCell 5 (.int .i64 3))
  clear HRq HIq HXq HBq
  go_upto_region 3 with fail
  generalize wq.setCell ⟨p, 5, none⟩ (.int .i64 3) = w5 at *
  clear e5 g5
  go_wp2_with (first
    | (show wpList _ _ _ (Oper.mk none (.store 29 (.tmp 6) (.tmp 27)) _ _ _ _ :: _) _ _; refine HX5.out.wpStore' 29 (.tmp 6) (.tmp 27) frZ rfl rfl rfl rfl rfl frZ_one i29 ?_; intro wz HZ))
  have hz : Row wz (w.heap.size + 1) frZ 29 := by rw [HZ.out]; exact HX5.out.row _
  have oz : Only p w wz := by rw [HZ.out]; exact HO5.out.putRow (Nat.le_succ _) _
  have hpz : HfAt wz p { F with st := 3 } := by rw [HZ.out]; exact Row.rowOther HR5.out (by have := HLT.out; omega) _
  exact bodyPost_ret (hz.result2 Tryd.results34 _ rfl rfl _ Tryd.underlying29 rfl i29) rfl ⟨_, rfl, ⟨_, rfl, OwnB.nil _ _⟩, hpz, oz⟩
end Go.Proofs.YtjpllcliehgnfaaDoor
