import Derived.Test.YtaklbofbhanjgaaDoorAl1
import Derived.Lib.QuietBelow
namespace Go.Proofs.YtaklbofbhanjgaaDoor
open Go.RowKit Go.Sort
set_option maxRecDepth 100000
/-- A Store that nobody gave. -/
def NoS (w : World) (v : Value) : Prop := v = .pointer none ∨ ∃ p, v = .pointer (some ⟨p, 0, none⟩) ∧ w.cell? ⟨p, 3, none⟩ = some (.int .i64 0)
theorem NoS.kept {w w' : World} {v : Value} (h : NoS w v) (hb : Below w.heap.size w w') : NoS w' v := by
  rcases h with e | ⟨p, e, hc⟩
  · exact .inl e
  · exact .inr ⟨p, e, cell_kept hb hc⟩
set_option maxHeartbeats 1000000 in
theorem made_no {w : World} {v : Value} (h : NoS w v) : Calls Tryd.prog 57 #[v] w fun e w' => e = .returned (.bool false) ∧ w' = w := by
  rcases h with rfl | ⟨p, rfl, hc⟩
  · go_enter Tryd.func57, Tryd.ntmps57
    go_wp2
    go_ret
    exact ⟨rfl, rfl⟩
  · go_enter Tryd.func57, Tryd.ntmps57
    go_wp2
    go_ret
    exact ⟨rfl, rfl⟩
theorem size_no {w : World} {v : Value} (h : NoS w v) (i : Int) : Calls Tryd.prog 60 #[v, .int .i64 i] w fun e w' => e = .returned (.int .i64 0) ∧ w' = w := by
  have HM := hid (made_no h)
  clear h
  go_enter Tryd.func60, Tryd.ntmps60
  go_wp2_with (go_at_call 57; refine Calls.mono HM.out ?_; rintro e w2 ⟨rfl, rfl⟩)
  go_ret
  exact ⟨rfl, rfl⟩
theorem refuses_no {w : World} {v : Value} (h : NoS w v) (i : Int) (d : Value) : Calls Tryd.prog 63 #[v, .int .i64 i, d] w fun e w' => e = .returned (.int .i64 224) ∧ w' = w := by
  have HM := hid (size_no h i)
  clear h
  go_enter Tryd.func63, Tryd.ntmps63
  go_wp2_with (go_at_call 60; refine Calls.mono HM.out ?_; rintro e w2 ⟨rfl, rfl⟩)
  go_ret
  exact ⟨rfl, rfl⟩
theorem put_no {w : World} {v : Value} (h : NoS w v) (i : Int) (d q : Value) : Calls Tryd.prog 32 #[v, .int .i64 i, d, q] w fun e w' => e = .returned (.tuple #[.bool false, .int .i64 224]) ∧ w' = w := by
  have HM := hid (refuses_no h i d)
  clear h
  go_enter Tryd.func32, Tryd.ntmps32
  go_wp2_with (go_at_call 63; refine Calls.mono HM.out ?_; rintro e w2 ⟨rfl, rfl⟩)
  go_ret2
  exact ⟨rfl, rfl⟩
theorem mark_no {w : World} {v : Value} (h : NoS w v) (i : Int) (d : Value) : Calls Tryd.prog 33 #[v, .int .i64 i, d] w fun e w' => e = .returned (.tuple #[.bool false, .int .i64 224]) ∧ w' = w := by
  have HM := hid (refuses_no h i d)
  clear h
  go_enter Tryd.func33, Tryd.ntmps33
  go_wp2_with (go_at_call 63; refine Calls.mono HM.out ?_; rintro e w2 ⟨rfl, rfl⟩)
  go_ret2
  exact ⟨rfl, rfl⟩
theorem piece_no {w : World} {v : Value} (h : NoS w v) (i : Int) : Calls Tryd.prog 29 #[v, .int .i64 i] w fun e w' => e = .returned (.tuple #[.slice none 0 0, .int .i64 224]) ∧ w' = w := by
  have HM := hid (size_no h i)
  clear h
  go_enter Tryd.func29, Tryd.ntmps29
  go_wp2_with (go_at_call 60; refine Calls.mono HM.out ?_; rintro e w2 ⟨rfl, rfl⟩)
  go_ret2
  exact ⟨rfl, rfl⟩
theorem proof_no {w : World} {v : Value} (h : NoS w v) (i : Int) : Calls Tryd.prog 31 #[v, .int .i64 i] w fun e w' => e = .returned (.tuple #[.slice none 0 0, .int .i64 224]) ∧ w' = w := by
  have HM := hid (size_no h i)
  clear h
  go_enter Tryd.func31, Tryd.ntmps31
  go_wp2_with (go_at_call 60; refine Calls.mono HM.out ?_; rintro e w2 ⟨rfl, rfl⟩)
  go_ret2
  exact ⟨rfl, rfl⟩
theorem missing_no {w : World} {v : Value} (h : NoS w v) (i : Int) : Calls Tryd.prog 35 #[v, .int .i64 i] w fun e w' => e = .returned (.slice none 0 0) ∧ w' = w := by
  have HM := hid (made_no h)
  clear h
  go_enter Tryd.func35, Tryd.ntmps35
  go_wp2_with (go_at_call 57; refine Calls.mono HM.out ?_; rintro e w2 ⟨rfl, rfl⟩)
  go_ret
  exact ⟨rfl, rfl⟩
theorem have_no {w : World} {v : Value} (h : NoS w v) : Calls Tryd.prog 27 #[v] w fun e w' => e = .returned (.int .i64 0) ∧ w' = w := by
  have HM := hid (made_no h)
  clear h
  go_enter Tryd.func27, Tryd.ntmps27
  go_wp2_with (go_at_call 57; refine Calls.mono HM.out ?_; rintro e w2 ⟨rfl, rfl⟩)
  go_ret
  exact ⟨rfl, rfl⟩
set_option maxHeartbeats 1000000 in
theorem done_no {w : World} {v : Value} (h : NoS w v) : Calls Tryd.prog 26 #[v] w fun e w' => e = .returned (.bool false) ∧ Below w.heap.size w w' := by
  obtain ⟨b, hb⟩ : ∃ b, b = false := ⟨_, rfl⟩
  have HN : Hid (¬ b = true) := by show ¬ _; rw [hb]; simp
  have HM : Hid (∀ (d : Nat) (os : Array Obj), Calls Tryd.prog 57 #[v] (grow (redrawn w d) os) fun e w'' => e = .returned (.bool b) ∧ ∃ q : Regrown, w'' = grow (redrawn w q.d) q.os) := fun d os => (made_no (h.kept (below_regrown w d os))).mono fun e w'' ⟨h1, h2⟩ => ⟨by rw [h1, hb], ⟨d, os⟩, h2⟩
  have HB := hid hb
  clear h hb
  go_enter Tryd.func26, Tryd.ntmps26
  go_upto_region 1 with (fail)
  refine wp_region_quiet_below (by kernel_rfl) (by decide +kernel) ?_
  iterate 3 (quiet_step (first | (go_at_call 57; exact HM.out _ _)))
  iterate 6 (refine wpQuiet_step (fun K hK => ?_); go_simp; rw [if_neg HN.out]; refine hK _ ?_; clear hK K)
  iterate 2 (quiet_step (fail))
  refine wpQuiet_nil ?_
  intro _ hw'
  obtain ⟨⟨dq, osq⟩, hw''⟩ := hw'
  subst hw''
  go_wp2_with fail
  all_goals go_ret
  all_goals exact ⟨by first | rfl | (simp [HB.out]; done) | (rw [HB.out]; rfl), below_regrown w dq osq⟩
theorem data_no {w : World} {v : Value} (h : NoS w v) : Calls Tryd.prog 34 #[v] w fun e w' => e = .returned (.tuple #[.slice none 0 0, .int .i64 228]) ∧ Below w.heap.size w w' := by
  have HM := hid (done_no h)
  clear h
  go_enter Tryd.func34, Tryd.ntmps34
  go_wp2_with (go_at_call 26; refine Calls.mono HM.out ?_; rintro e w2 ⟨rfl, hb⟩; have HB := hid hb; clear hb)
  go_ret2
  exact ⟨rfl, HB.out⟩
end Go.Proofs.YtaklbofbhanjgaaDoor
namespace Go.Proofs.YtaklbofbhanjgaaDoor
open Go.RowKit
set_option maxRecDepth 100000
theorem eqMfZ (w : World) : (binOp .eql 39 (.agg mfZ.cells.toArray) (.agg mfZ.cells.toArray)).run Tryd.prog w = .ok (.bool true) w := by kernel_rfl
set_option maxHeartbeats 1000000 in
theorem manifest_no {w : World} {v : Value} (h : NoS w v) : Calls Tryd.prog 36 #[v] w fun e w' => e = .returned (.agg mfZ.cells.toArray) ∧ Below w.heap.size w w' := by
  have HM : Hid (∀ w', Below w.heap.size w w' → Calls Tryd.prog 57 #[v] w' fun e w2 => e = .returned (.bool false) ∧ w2 = w') := fun w' hb => made_no (h.kept hb)
  have I35 := hid iMf
  have HZ1 : Hid (∀ x ∈ mfZ.cells, x.oneCell' = true) := Mf.cells_one _
  have HBU : Hid (Tryd.prog.built 39 [] = some mfZ.cells.toArray) := built39z'
  have HL : Hid (mfZ.cells.length = 35) := rfl
  clear h
  go_enter Tryd.func36, Tryd.ntmps36
  go_upto_region 1 with (fail)
  refine wp_world fun wa HW => ?_
  have HR : Hid (Row wa w.heap.size mfZ.cells 39) := by show Row _ _ _ _; rw [HW.out]; exact Row.new' _ _ _ _ _ rfl rfl
  have HBa : Hid (Below w.heap.size w wa) := by show Below _ _ _; rw [HW.out]; exact below_new _ _
  clear HW
  generalize hC : mfZ.cells = C at *
  have HCC := hid hC
  clear hC
  go_wp2_with (first
    | (go_at_call 57; refine Calls.mono (HM.out _ HBa.out) ?_; rintro e w2 ⟨rfl, rfl⟩)
    | (show wpList _ _ _ (Oper.mk (some 6) (.build 39 _) _ _ _ _ :: _) _ _; refine wpList_built rfl rfl ((congrArg (fun l => Tryd.prog.built 39 l) (by first | rfl | simp [Act.eval])).trans HBU.out) ?_)
    | (show wpList _ _ _ (Oper.mk none (.store 39 (.tmp 2) (.tmp 6)) _ _ _ _ :: _) _ _; refine HR.out.wpStore' 39 (.tmp 2) (.tmp 6) C rfl rfl rfl rfl rfl HZ1.out (by rw [HL.out]; exact I35.out) ?_; intro w3 HZ))
  have R : Row w3 w.heap.size C 39 := by rw [HZ.out]; exact HR.out.row _
  have hB : Below w.heap.size w w3 := by rw [HZ.out]; exact Go.below_setRow HBa.out (Nat.le_refl _) _
  exact bodyPost_ret (v := .agg C.toArray) (R.result Tryd.results36 _ rfl _ Tryd.underlying39 rfl (by rw [HL.out]; exact I35.out)) rfl ⟨by rw [HCC.out], hB⟩
end Go.Proofs.YtaklbofbhanjgaaDoor
namespace Go.Proofs.YtaklbofbhanjgaaDoor
open Go.RowKit
set_option maxRecDepth 100000
theorem no_on {w w1 w2 : World} {v : Value} (h : NoS w1 v ∧ Below w.heap.size w w1) (hb : Below w1.heap.size w1 w2) : NoS w2 v ∧ Below w.heap.size w w2 := ⟨h.1.kept hb, h.2.trans (hb.mono h.2.size)⟩
theorem wpList_builtG {P : Program} {ops : Array Oper} {rest : List Oper} {o : Oper} {a : Act} {w : World} {Q : Exit → Act → World → Prop} {t : TypeId} {parts : Array (Nat × Operand)} {cells : Array Value} {j : Nat} (hgd : o.guard = some (j, true)) (hy : yielded ops a.tmps j = some true) (ho : o.op = .build t parts) (hf : P.built t (parts.map fun (i, x) => (i, a.eval x)).toList = some cells)
    (k : wpList P ops Q rest (a.put o.dst (.agg cells)) w) : wpList P ops Q (o :: rest) a w := by
  refine wpList_step fun K hK => ?_
  rw [if_pos (by simp [Region.wanted, hgd, hy])]
  exact step_built ho hf (hK _ _ k)
set_option maxHeartbeats 8000000 in
theorem nobody_law {w : World} (plain : Bool) (i : Int) (dv : Value) (pv : Value) (hK : KTab w) (h2 : 2 ≤ w.heap.size) : Calls Tryd.prog 6 #[.bool plain, .int .i64 i, dv, pv] w fun e w' => e = .returned (.bool true) ∧ Below w.heap.size w w' := by
  have HK := hid hK
  have H2 := hid h2
  have heq := eqMfZ
  have HBU : Hid (Tryd.prog.built 39 [] = some mfZ.cells.toArray) := built39z'
  clear hK h2
  cases plain with
  | false =>
    go_enter Tryd.func6, Tryd.ntmps6
    go_upto_region 4 with (fail)
    have HS : Hid (NoS w (.pointer none) ∧ Below w.heap.size w w) := ⟨.inl rfl, Below.refl _ _⟩
    go_wp2_with (first
      | (go_at_call 32; refine Calls.mono (put_no HS.out.1 _ _ _) ?_; rintro e w1 ⟨rfl, rfl⟩)
      | (go_at_call 33; refine Calls.mono (mark_no HS.out.1 _ _) ?_; rintro e w1 ⟨rfl, rfl⟩)
      | (go_at_call 29; refine Calls.mono (piece_no HS.out.1 _) ?_; rintro e w1 ⟨rfl, rfl⟩)
      | (go_at_call 31; refine Calls.mono (proof_no HS.out.1 _) ?_; rintro e w1 ⟨rfl, rfl⟩)
      | (go_at_call 34; refine Calls.mono (data_no HS.out.1) ?_; rintro e w2 ⟨rfl, hb⟩; have HS2 := hid (no_on HS.out hb); clear hb)
      | (go_at_call 35; refine Calls.mono (missing_no HS2.out.1 _) ?_; rintro e w3 ⟨rfl, rfl⟩)
      | (go_at_call 27; refine Calls.mono (have_no HS2.out.1) ?_; rintro e w3 ⟨rfl, rfl⟩)
      | (go_at_call 26; refine Calls.mono (done_no HS2.out.1) ?_; rintro e w4 ⟨rfl, hb⟩; have HS4 := hid (no_on HS2.out hb); clear hb)
      | (go_at_call 36; refine Calls.mono (manifest_no HS4.out.1) ?_; rintro e w5 ⟨rfl, hb⟩; have HS5 := hid (no_on HS4.out hb); clear hb)
      | (show wpList _ _ _ (Oper.mk (some 110) (.build 39 _) _ _ _ _ :: _) _ _; refine wpList_builtG (j := 34) rfl rfl rfl ((congrArg (fun l => Tryd.prog.built 39 l) (by first | rfl | simp [Act.eval])).trans HBU.out) ?_)
      | (go_at_call 20; refine Calls.mono (alive_any (HK.out.kept HS5.out.2) (Nat.le_trans H2.out HS5.out.2.size)) ?_; rintro e w6 ⟨rfl, hb⟩; have HS6 := hid (HS5.out.2.trans (hb.mono HS5.out.2.size)); clear hb))
    go_ret
    exact ⟨rfl, HS6.out⟩
  | true =>
    go_enter Tryd.func6, Tryd.ntmps6
    go_upto_region 4 with (fail)
    refine wp_world fun wa HW => ?_
    have HS : Hid (NoS wa (.pointer (some ⟨w.heap.size, 0, none⟩)) ∧ Below w.heap.size w wa) := by
      show _ ∧ _
      rw [HW.out]
      exact ⟨.inr ⟨_, rfl, (Row.new' w _ (.slice none 0 0 :: (mfZ.cells ++ [.slice none 0 0, .int .i64 0, .map none])) 65 _ rfl rfl).cell 3 _ rfl⟩, below_new _ _⟩
    clear HW
    go_wp2_with (first
      | (go_at_call 32; refine Calls.mono (put_no HS.out.1 _ _ _) ?_; rintro e w1 ⟨rfl, rfl⟩)
      | (go_at_call 33; refine Calls.mono (mark_no HS.out.1 _ _) ?_; rintro e w1 ⟨rfl, rfl⟩)
      | (go_at_call 29; refine Calls.mono (piece_no HS.out.1 _) ?_; rintro e w1 ⟨rfl, rfl⟩)
      | (go_at_call 31; refine Calls.mono (proof_no HS.out.1 _) ?_; rintro e w1 ⟨rfl, rfl⟩)
      | (go_at_call 34; refine Calls.mono (data_no HS.out.1) ?_; rintro e w2 ⟨rfl, hb⟩; have HS2 := hid (no_on HS.out hb); clear hb)
      | (go_at_call 35; refine Calls.mono (missing_no HS2.out.1 _) ?_; rintro e w3 ⟨rfl, rfl⟩)
      | (go_at_call 27; refine Calls.mono (have_no HS2.out.1) ?_; rintro e w3 ⟨rfl, rfl⟩)
      | (go_at_call 26; refine Calls.mono (done_no HS2.out.1) ?_; rintro e w4 ⟨rfl, hb⟩; have HS4 := hid (no_on HS2.out hb); clear hb)
      | (go_at_call 36; refine Calls.mono (manifest_no HS4.out.1) ?_; rintro e w5 ⟨rfl, hb⟩; have HS5 := hid (no_on HS4.out hb); clear hb)
      | (show wpList _ _ _ (Oper.mk (some 110) (.build 39 _) _ _ _ _ :: _) _ _; refine wpList_builtG (j := 34) rfl rfl rfl ((congrArg (fun l => Tryd.prog.built 39 l) (by first | rfl | simp [Act.eval])).trans HBU.out) ?_)
      | (go_at_call 20; refine Calls.mono (alive_any (HK.out.kept HS5.out.2) (Nat.le_trans H2.out HS5.out.2.size)) ?_; rintro e w6 ⟨rfl, hb⟩; have HS6 := hid (HS5.out.2.trans (hb.mono HS5.out.2.size)); clear hb))
    go_ret
    exact ⟨rfl, HS6.out⟩
end Go.Proofs.YtaklbofbhanjgaaDoor
