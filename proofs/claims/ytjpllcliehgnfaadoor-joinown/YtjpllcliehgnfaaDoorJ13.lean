import Derived.Test.YtjpllcliehgnfaaDoorJ12
namespace Go.Proofs.YtjpllcliehgnfaaDoor
open Go.RowKit Go.Sort
set_option maxRecDepth 100000

theorem Only.putRow {p : Nat} {w w' : World} (h : Only p w w') {g : Nat} (hg : w.heap.size ≤ g) (cs : Array Value) : Only p w (w'.setRow g cs) :=
  ⟨h.os, h.tape, h.output, Nat.le_trans h.size (by simp [World.setRow]), fun k hk hp => by rw [setRow_other w' g k cs (by omega)]; exact h.block k hk hp⟩
/-- A contract, as a drawn statement wants it. -/
theorem toK {n : Nat} {args : Array Value} {v : Value} {w : World} (h : ∀ w', Below w.heap.size w w' → Calls Tryd.prog n args w' fun e w'' => e = .returned v ∧ Below w'.heap.size w' w'') (d : Nat) (os : Array Obj) : Calls Tryd.prog n args (grow (redrawn w d) os) fun e w'' => e = .returned v ∧ ∃ p : Regrown, w'' = grow (redrawn w p.d) p.os :=
  Calls.regrown_of (h _ (below_regrown w d os))
theorem calls_same {n : Nat} {args : Array Value} {v : Value} {w : World} (h : Calls Tryd.prog n args w fun e w' => e = .returned v ∧ w' = w) : Calls Tryd.prog n args w fun e w' => e = .returned v ∧ Below w.heap.size w w' :=
  h.mono fun _ _ ⟨e, hw⟩ => ⟨e, by rw [hw]; exact Below.refl _ _⟩

set_option maxHeartbeats 2000000 in
theorem tick_early {w : World} {p : Nat} {F : Hf} (hH : HfAt w p F) (ha : F.ag ≤ 16) (now : Nat) (h64 : now < 18446744073709551616) (hn : ¬ (F.waits = true ∧ F.mrk ≤ now ∧ F.wt ≤ now - F.mrk)) :
    Calls Tryd.prog 11 #[.pointer (some ⟨p, 0, none⟩), .int .u64 (now : Int)] w (Ans w p F Fo.zero false) := by
  have H := hid hH
  have HA := hid ha
  have HN := hid hn
  clear hH ha hn
  go_enter Tryd.func11, Tryd.ntmps11
  go_upto_region 1 with fail
  refine wp_world fun wa HW => ?_
  have HX : Hid (Row wa w.heap.size frZ 29) := by show Row _ _ _ _; rw [HW.out]; exact Row.new' _ _ _ _ _ rfl rfl
  have HB : Hid (Below w.heap.size w wa) := by show Below _ _ _; rw [HW.out]; exact below_new _ _
  have HR := hid (H.out.kept HB.out)
  clear HW
  have c9 := cell_regrown (Row.cell HR.out 9 _ rfl)
  have HK1 := hid (toK (w := wa) fun w' hb => calls_same (waits_any (HR.out.kept hb)))
  have HK2 := hid (toK (w := wa) fun w' hb => calls_same (wait_any (HR.out.kept hb) HA.out))
  by_cases hw : F.waits = true
  · rw [hw] at HK1
    by_cases hm : F.mrk ≤ now
    · have hlt : ¬ ((now : Int) < (F.mrk : Int)) := by omega
      have hl2 : ((now - F.mrk : Nat) : Int) < (F.wt : Int) := by
        have hh : ¬ F.wt ≤ now - F.mrk := fun e => HN.out ⟨hw, hm, e⟩
        omega
      have e1 : IntKind.u64.wrap ((now : Int) - (F.mrk : Int)) = ((now - F.mrk : Nat) : Int) := by rw [IntKind.wrap_u64]; omega
      have e2 : ((now : Int) - (F.mrk : Int)) % 18446744073709551616 = ((now - F.mrk : Nat) : Int) := by omega
      clear HN hw hm
      generalize now - F.mrk = df at *
      generalize F.mrk = mr at *
      generalize F.wt = wt at *
      refine wp_region_quiet_below (by kernel_rfl) (by decide +kernel) ?_
      repeat (go_big_quiet_step (first | (go_at_call 27; exact HK1.out _ _) | (go_at_call 28; exact HK2.out _ _)))
      refine wpQuiet_nil ?_
      intro _ hw'
      obtain ⟨⟨dq, osq⟩, hw''⟩ := hw'
      subst hw''
      have HBQ := hid (below_regrown wa dq osq)
      have HBq : Hid (Below wa.heap.size wa (grow (redrawn wa dq) osq)) := HBQ.out
      show Exit.then _ _ _ _ (grow (redrawn wa dq) osq)
      generalize grow (redrawn wa dq) osq = wq at *
      clear HBQ HK1 HK2
      have HXq := hid (HX.out.kept HBq.out HX.out.lt)
      go_wp2_with (first
        | (show wpList _ _ _ (Oper.mk none (.store 29 (.tmp 4) (.tmp 28)) _ _ _ _ :: _) _ _; refine HXq.out.wpStore' 29 (.tmp 4) (.tmp 28) frZ rfl rfl rfl rfl rfl frZ_one i29 ?_; intro wz HZ))
      have hz : Row wz w.heap.size frZ 29 := by rw [HZ.out]; exact HXq.out.row _
      have hb : Below w.heap.size w wz := by rw [HZ.out]; exact Go.below_setRow (HB.out.trans (HBq.out.mono HB.out.size)) (Nat.le_refl _) _
      exact bodyPost_ret (hz.result2 Tryd.results11 _ rfl rfl _ Tryd.underlying29 rfl i29) rfl (ans_no H.out hb)
    · have hlt : (now : Int) < (F.mrk : Int) := by omega
      clear HN hw hm
      generalize F.mrk = mr at *
      refine wp_region_quiet_below (by kernel_rfl) (by decide +kernel) ?_
      repeat (go_big_quiet_step (first | (go_at_call 27; exact HK1.out _ _) | (go_at_call 28; exact HK2.out _ _)))
      refine wpQuiet_nil ?_
      intro _ hw'
      obtain ⟨⟨dq, osq⟩, hw''⟩ := hw'
      subst hw''
      have HBQ := hid (below_regrown wa dq osq)
      have HBq : Hid (Below wa.heap.size wa (grow (redrawn wa dq) osq)) := HBQ.out
      show Exit.then _ _ _ _ (grow (redrawn wa dq) osq)
      generalize grow (redrawn wa dq) osq = wq at *
      clear HBQ HK1 HK2
      have HXq := hid (HX.out.kept HBq.out HX.out.lt)
      go_wp2_with (first
        | (show wpList _ _ _ (Oper.mk none (.store 29 (.tmp 4) (.tmp 28)) _ _ _ _ :: _) _ _; refine HXq.out.wpStore' 29 (.tmp 4) (.tmp 28) frZ rfl rfl rfl rfl rfl frZ_one i29 ?_; intro wz HZ))
      have hz : Row wz w.heap.size frZ 29 := by rw [HZ.out]; exact HXq.out.row _
      have hb : Below w.heap.size w wz := by rw [HZ.out]; exact Go.below_setRow (HB.out.trans (HBq.out.mono HB.out.size)) (Nat.le_refl _) _
      exact bodyPost_ret (hz.result2 Tryd.results11 _ rfl rfl _ Tryd.underlying29 rfl i29) rfl (ans_no H.out hb)
  · have hwf : F.waits = false := by simpa using hw
    rw [hwf] at HK1
    clear hw
    refine wp_region_quiet_below (by kernel_rfl) (by decide +kernel) ?_
    repeat (go_big_quiet_step (first | (go_at_call 27; exact HK1.out _ _) | (go_at_call 28; exact HK2.out _ _)))
    refine wpQuiet_nil ?_
    intro _ hw'
    obtain ⟨⟨dq, osq⟩, hw''⟩ := hw'
    subst hw''
    have HBQ := hid (below_regrown wa dq osq)
    have HBq : Hid (Below wa.heap.size wa (grow (redrawn wa dq) osq)) := HBQ.out
    show Exit.then _ _ _ _ (grow (redrawn wa dq) osq)
    generalize grow (redrawn wa dq) osq = wq at *
    clear HBQ HK1 HK2
    have HXq := hid (HX.out.kept HBq.out HX.out.lt)
    go_wp2_with (first
      | (show wpList _ _ _ (Oper.mk none (.store 29 (.tmp 4) (.tmp 28)) _ _ _ _ :: _) _ _; refine HXq.out.wpStore' 29 (.tmp 4) (.tmp 28) frZ rfl rfl rfl rfl rfl frZ_one i29 ?_; intro wz HZ))
    have hz : Row wz w.heap.size frZ 29 := by rw [HZ.out]; exact HXq.out.row _
    have hb : Below w.heap.size w wz := by rw [HZ.out]; exact Go.below_setRow (HB.out.trans (HBq.out.mono HB.out.size)) (Nat.le_refl _) _
    exact bodyPost_ret (hz.result2 Tryd.results11 _ rfl rfl _ Tryd.underlying29 rfl i29) rfl (ans_no H.out hb)
set_option maxHeartbeats 2000000 in
theorem tick_end {w : World} {p : Nat} {F : Hf} (hH : HfAt w p F) (ha : F.ag ≤ 16) (now : Nat) (h64 : now < 18446744073709551616) (hw : F.waits = true) (hm : F.mrk ≤ now) (ht : F.wt ≤ now - F.mrk) (hr : (F.ag : Int) = F.ret) :
    Calls Tryd.prog 11 #[.pointer (some ⟨p, 0, none⟩), .int .u64 (now : Int)] w (Ans w p { F with st := 0 } Fo.zero false) := by
  have H := hid hH
  have HA := hid ha
  have HWT := hid hw
  have HM := hid hm
  have HT := hid ht
  clear hH ha hw hm ht
  go_enter Tryd.func11, Tryd.ntmps11
  go_upto_region 1 with fail
  refine wp_world fun wa HW => ?_
  have HX : Hid (Row wa w.heap.size frZ 29) := by show Row _ _ _ _; rw [HW.out]; exact Row.new' _ _ _ _ _ rfl rfl
  have HB : Hid (Below w.heap.size w wa) := by show Below _ _ _; rw [HW.out]; exact below_new _ _
  have HR := hid (H.out.kept HB.out)
  clear HW
  have c9 := cell_regrown (Row.cell HR.out 9 _ rfl)
  have HK1 := hid (toK (w := wa) fun w' hb => calls_same (waits_any (HR.out.kept hb)))
  have HK2 := hid (toK (w := wa) fun w' hb => calls_same (wait_any (HR.out.kept hb) HA.out))
  have hw1 := HWT.out
  rw [hw1] at HK1
  have hm := HM.out
  have hlt : ¬ ((now : Int) < (F.mrk : Int)) := by omega
  have hl2 : ¬ ((now - F.mrk : Nat) : Int) < (F.wt : Int) := by have := HT.out; omega
  have e1 : IntKind.u64.wrap ((now : Int) - (F.mrk : Int)) = ((now - F.mrk : Nat) : Int) := by rw [IntKind.wrap_u64]; omega
  have e2 : ((now : Int) - (F.mrk : Int)) % 18446744073709551616 = ((now - F.mrk : Nat) : Int) := by omega
  clear hw1 hm HT HM
  generalize now - F.mrk = df at *
  generalize hmr : F.mrk = mr at *
  generalize F.wt = wt at *
  refine wp_region_quiet_below (by kernel_rfl) (by decide +kernel) ?_
  repeat (go_big_quiet_step (first | (go_at_call 27; exact HK1.out _ _) | (go_at_call 28; exact HK2.out _ _)))
  refine wpQuiet_nil ?_
  intro _ hw'
  obtain ⟨⟨dq, osq⟩, hw''⟩ := hw'
  subst hw''
  have HBQ := hid (below_regrown wa dq osq)
  have HBq : Hid (Below wa.heap.size wa (grow (redrawn wa dq) osq)) := HBQ.out
  show Exit.then _ _ _ _ (grow (redrawn wa dq) osq)
  generalize grow (redrawn wa dq) osq = wq at *
  clear HBQ HK1 HK2
  have HXq := hid (HX.out.kept HBq.out HX.out.lt)
  have HRq := hid (HR.out.kept HBq.out)
  clear c9 e1 e2 hl2 hlt
  go_upto_region 3 with fail
  have c8 := cell_regrown (Row.cell HRq.out 8 _ rfl)
  have c4 := cell_regrown (Row.cell HRq.out 4 _ rfl)
  have HAR := hid hr
  refine wp_region_quiet_below (by kernel_rfl) (by decide +kernel) ?_
  repeat (go_big_quiet_step (fail))
  refine wpQuiet_nil ?_
  intro _ hw'
  obtain ⟨⟨dr, osr⟩, hw''⟩ := hw'
  subst hw''
  have HBr : Hid (Below wq.heap.size wq (grow (redrawn wq dr) osr)) := below_regrown wq dr osr
  show Exit.then _ _ _ _ (grow (redrawn wq dr) osr)
  generalize grow (redrawn wq dr) osr = wr at *
  have HXr := hid (HXq.out.kept HBr.out HXq.out.lt)
  have HRr := hid (HRq.out.kept HBr.out)
  have HBw := hid (HB.out.trans ((HBq.out.trans (HBr.out.mono HBq.out.size)).mono HB.out.size))
  have HLT : Hid (p < w.heap.size) := Row.lt H.out
  clear c8 c4 hr
  have c5 := Row.cell HRr.out 5 _ rfl
  have f5 := Row.frozen HRr.out 5
  go_wp2_with (first
    | (show wpList _ _ _ (Oper.mk none (.store 29 (.tmp 4) (.tmp 41)) _ _ _ _ :: _) _ _; refine (HXr.out.setOther ⟨p, 5, none⟩ (by have := HLT.out; show w.heap.size ≠ p; omega) _).wpStore' 29 (.tmp 4) (.tmp 41) frZ rfl rfl rfl rfl rfl frZ_one i29 ?_; intro wz HZ))
  have R5 : Row (wr.setCell ⟨p, 5, none⟩ (.int .i64 0)) w.heap.size frZ 29 := HXr.out.setOther ⟨p, 5, none⟩ (by have := HLT.out; show w.heap.size ≠ p; omega) _
  have hz : Row wz w.heap.size frZ 29 := by rw [HZ.out]; exact R5.row _
  have oz : Only p w wz := by rw [HZ.out]; exact ((below_only HBw.out p).setCell 5 _).putRow (Nat.le_refl _) _
  have hpz : HfAt wz p { F with st := 0 } := by rw [HZ.out]; exact Row.rowOther (Row.set HRr.out 5 (.int .i64 0)) (by have := HLT.out; omega) _
  rw [hmr] at hpz
  exact bodyPost_ret (hz.result2 Tryd.results11 _ rfl rfl _ Tryd.underlying29 rfl i29) rfl ⟨_, rfl, ⟨_, rfl, OwnB.nil _ _⟩, hpz, oz⟩
set_option maxHeartbeats 2000000 in
theorem tick_again {w : World} {p : Nat} {F : Hf} (hH : HfAt w p F) (ha : F.ag ≤ 16) (now : Nat) (h64 : now < 18446744073709551616) (hw : F.waits = true) (hm : F.mrk ≤ now) (ht : F.wt ≤ now - F.mrk) (hr : ¬ (F.ag : Int) = F.ret) (hpe : F.peer < 18446744073709551616) (hK : KTab w) (h2 : 1 ≤ p) :
    Calls Tryd.prog 11 #[.pointer (some ⟨p, 0, none⟩), .int .u64 (now : Int)] w (Ans w p { F with ag := F.ag + 1, mrk := now } (if F.st = 1 then ({ F with ag := F.ag + 1, mrk := now } : Hf).ask else ({ F with ag := F.ag + 1, mrk := now } : Hf).answer) true) := by
  generalize hfr : (if F.st = 1 then ({ F with ag := F.ag + 1, mrk := now } : Hf).ask else ({ F with ag := F.ag + 1, mrk := now } : Hf).answer) = fr
  have HFR := hid hfr
  clear hfr
  have HPE := hid hpe
  have HKT := hid hK
  have H2 := hid h2
  clear hpe hK h2
  have H := hid hH
  have HA := hid ha
  have HWT := hid hw
  have HM := hid hm
  have HT := hid ht
  clear hH ha hw hm ht
  go_enter Tryd.func11, Tryd.ntmps11
  go_upto_region 1 with fail
  refine wp_world fun wa HW => ?_
  have HX : Hid (Row wa w.heap.size frZ 29) := by show Row _ _ _ _; rw [HW.out]; exact Row.new' _ _ _ _ _ rfl rfl
  have HB : Hid (Below w.heap.size w wa) := by show Below _ _ _; rw [HW.out]; exact below_new _ _
  have HR := hid (H.out.kept HB.out)
  clear HW
  have c9 := cell_regrown (Row.cell HR.out 9 _ rfl)
  have HK1 := hid (toK (w := wa) fun w' hb => calls_same (waits_any (HR.out.kept hb)))
  have HK2 := hid (toK (w := wa) fun w' hb => calls_same (wait_any (HR.out.kept hb) HA.out))
  have hw1 := HWT.out
  rw [hw1] at HK1
  have hm := HM.out
  have hlt : ¬ ((now : Int) < (F.mrk : Int)) := by omega
  have hl2 : ¬ ((now - F.mrk : Nat) : Int) < (F.wt : Int) := by have := HT.out; omega
  have e1 : IntKind.u64.wrap ((now : Int) - (F.mrk : Int)) = ((now - F.mrk : Nat) : Int) := by rw [IntKind.wrap_u64]; omega
  have e2 : ((now : Int) - (F.mrk : Int)) % 18446744073709551616 = ((now - F.mrk : Nat) : Int) := by omega
  clear hw1 hm HT HM
  generalize now - F.mrk = df at *
  generalize F.mrk = mr at *
  generalize F.wt = wt at *
  refine wp_region_quiet_below (by kernel_rfl) (by decide +kernel) ?_
  repeat (go_big_quiet_step (first | (go_at_call 27; exact HK1.out _ _) | (go_at_call 28; exact HK2.out _ _)))
  refine wpQuiet_nil ?_
  intro _ hw'
  obtain ⟨⟨dq, osq⟩, hw''⟩ := hw'
  subst hw''
  have HBQ := hid (below_regrown wa dq osq)
  have HBq : Hid (Below wa.heap.size wa (grow (redrawn wa dq) osq)) := HBQ.out
  show Exit.then _ _ _ _ (grow (redrawn wa dq) osq)
  generalize grow (redrawn wa dq) osq = wq at *
  clear HBQ HK1 HK2
  have HXq := hid (HX.out.kept HBq.out HX.out.lt)
  have HRq := hid (HR.out.kept HBq.out)
  clear c9 e1 e2 hl2 hlt
  go_upto_region 3 with fail
  have c8 := cell_regrown (Row.cell HRq.out 8 _ rfl)
  have c4 := cell_regrown (Row.cell HRq.out 4 _ rfl)
  have HAR := hid hr
  refine wp_region_quiet_below (by kernel_rfl) (by decide +kernel) ?_
  repeat (go_big_quiet_step (fail))
  refine wpQuiet_nil ?_
  intro _ hw'
  obtain ⟨⟨dr, osr⟩, hw''⟩ := hw'
  subst hw''
  have HBr : Hid (Below wq.heap.size wq (grow (redrawn wq dr) osr)) := below_regrown wq dr osr
  show Exit.then _ _ _ _ (grow (redrawn wq dr) osr)
  generalize grow (redrawn wq dr) osr = wr at *
  have HXr := hid (HXq.out.kept HBr.out HXq.out.lt)
  have HRr := hid (HRq.out.kept HBr.out)
  have HBw := hid (HB.out.trans ((HBq.out.trans (HBr.out.mono HBq.out.size)).mono HB.out.size))
  have HLT : Hid (p < w.heap.size) := Row.lt H.out
  clear c8 c4
  have c5 := Row.cell HRr.out 5 _ rfl
  have f5 := Row.frozen HRr.out 5
  have c8 := Row.cell HRr.out 8 _ rfl
  have f8 := Row.frozen HRr.out 8
  have c9 := Row.cell HRr.out 9 _ rfl
  have f9 := Row.frozen HRr.out 9
  have ha1 : (F.ag : Int) ≤ 16 := by have := HA.out; omega
  have HR8 := hid (show HfAt ((wr.setCell ⟨p, 8, none⟩ (.int .i64 ((F.ag : Int) + 1))).setCell ⟨p, 9, none⟩ (.int .u64 (now : Int))) p { F with ag := F.ag + 1, mrk := now } from Row.set (Row.set HRr.out 8 (.int .i64 ((F.ag : Int) + 1))) 9 (.int .u64 (now : Int)))
  have HX8 := hid ((HXr.out.setOther ⟨p, 8, none⟩ (by have := HLT.out; show w.heap.size ≠ p; omega) (.int .i64 ((F.ag : Int) + 1))).setOther ⟨p, 9, none⟩ (by have := HLT.out; show w.heap.size ≠ p; omega) (.int .u64 (now : Int)))
  have HO8 := hid (((below_only HBw.out p).setCell 8 (.int .i64 ((F.ag : Int) + 1))).setCell 9 (.int .u64 (now : Int)))
  clear HRr HXr HBw
  by_cases hs : F.st = 1
  · have HFA := hid (show fr = ({ F with ag := F.ag + 1, mrk := now } : Hf).ask by rw [← HFR.out, if_pos hs])
    rw [hs] at c5
    go_upto_region 8 with fail
    generalize (wr.setCell ⟨p, 8, none⟩ (.int .i64 ((F.ag : Int) + 1))).setCell ⟨p, 9, none⟩ (.int .u64 (now : Int)) = w8 at *
    have c58 := Row.cell HR8.out 5 _ rfl
    have c58' : w8.cell? ⟨p, 5, none⟩ = some (.int .i64 1) := by rw [c58]; show some (Value.int .i64 F.st) = _; rw [hs]
    clear c58 hs c5 f5 c8 f8 c9 f9
    go_wp2_with (first
      | (go_at_call 26; refine (join_any HR8.out HPE.out (HKT.out.only HO8.out H2.out) (by have := HO8.out.size; have := HLT.out; have := H2.out; omega)).mono ?_; rintro e w2 ⟨rfl, hb2⟩; have HB2 := hid hb2; clear hb2)
      | (show wpList _ _ _ (Oper.mk none (.store 29 (.tmp 4) (.tmp 59)) _ _ _ _ :: _) _ _; refine (HX8.out.kept HB2.out HX8.out.lt).wpStore' 29 (.tmp 4) (.tmp 59) (frC 7 F.path (tok F.peer) (nonceOf F.own F.path) (.slice none 0 0) F.bk) rfl rfl rfl rfl rfl (frC_one _ _ _ _ _ _ _ _) i29 ?_; intro wz HZ))
    have R2 : Row w2 w.heap.size frZ 29 := HX8.out.kept HB2.out HX8.out.lt
    have hz : Row wz w.heap.size (frC 7 F.path (tok F.peer) (nonceOf F.own F.path) (.slice none 0 0) F.bk) 29 := by rw [HZ.out]; exact R2.row _
    have oz : Only p w wz := by rw [HZ.out]; exact (HO8.out.trans (below_only HB2.out p)).putRow (Nat.le_refl _) _
    have hpz : HfAt wz p { F with ag := F.ag + 1, mrk := now } := by rw [HZ.out]; exact Row.rowOther (HR8.out.kept HB2.out) (by have := HLT.out; omega) _
    rw [HFA.out]
    exact bodyPost_ret (hz.result2 Tryd.results11 _ rfl rfl _ Tryd.underlying29 rfl i29) rfl ⟨_, rfl, ⟨_, rfl, OwnB.nil _ _⟩, hpz, oz⟩
  · have HFA := hid (show fr = ({ F with ag := F.ag + 1, mrk := now } : Hf).answer by rw [← HFR.out, if_neg hs])
    go_upto_region 8 with fail
    generalize (wr.setCell ⟨p, 8, none⟩ (.int .i64 ((F.ag : Int) + 1))).setCell ⟨p, 9, none⟩ (.int .u64 (now : Int)) = w8 at *
    have c58 := Row.cell HR8.out 5 _ rfl
    have c58' : w8.cell? ⟨p, 5, none⟩ = some (.int .i64 F.st) := c58
    clear c58 c5 f5 c8 f8 c9 f9
    go_wp2_with (first
      | (go_at_call 29; refine (joined_any HR8.out (HKT.out.only HO8.out H2.out) (by have := HO8.out.size; have := HLT.out; have := H2.out; omega)).mono ?_; rintro e w2 ⟨v, rfl, ⟨m, rfl, om⟩, hb2⟩; obtain ⟨ma, mc, rfl, _, _⟩ := om.shape; have HB2 := hid hb2; have HM2 := hid om; clear hb2 om)
      | (show wpList _ _ _ (Oper.mk none (.store 29 (.tmp 4) (.tmp 61)) _ _ _ _ :: _) _ _; refine (HX8.out.kept HB2.out HX8.out.lt).wpStore' 29 (.tmp 4) (.tmp 61) (frC 8 F.path 0#32 (nonceOf F.own F.path) (.slice ma ((proofL F.own F.peer (nonceOf F.own F.path) F.hd).take 8).length mc) false) rfl rfl rfl rfl rfl (frC_one _ _ _ _ _ _ _ _) i29 ?_; intro wz HZ))
    have R2 : Row w2 w.heap.size frZ 29 := HX8.out.kept HB2.out HX8.out.lt
    have hz : Row wz w.heap.size (frC 8 F.path 0#32 (nonceOf F.own F.path) (.slice ma ((proofL F.own F.peer (nonceOf F.own F.path) F.hd).take 8).length mc) false) 29 := by rw [HZ.out]; exact R2.row _
    have oz : Only p w wz := by rw [HZ.out]; exact (HO8.out.trans (below_only HB2.out p)).putRow (Nat.le_refl _) _
    have hpz : HfAt wz p { F with ag := F.ag + 1, mrk := now } := by rw [HZ.out]; exact Row.rowOther (HR8.out.kept HB2.out) (by have := HLT.out; omega) _
    have omz : OwnB wz w.heap.size (.slice ma ((proofL F.own F.peer (nonceOf F.own F.path) F.hd).take 8).length mc) ((proofL F.own F.peer (nonceOf F.own F.path) F.hd).take 8) := by rw [HZ.out]; exact (ownB_set HM2.out HX8.out.lt _).less HO8.out.size
    rw [HFA.out]
    exact bodyPost_ret (hz.result2 Tryd.results11 _ rfl rfl _ Tryd.underlying29 rfl i29) rfl ⟨_, rfl, ⟨_, rfl, omz⟩, hpz, oz⟩
end Go.Proofs.YtjpllcliehgnfaaDoor
