import Derived.Test.YtahkbklhngiloaaCr9
namespace Go.Proofs.Ytahkbklhngiloaa
open Go.RowKit Go.Maps
set_option maxRecDepth 100000

/-- A book that New did not give. -/
def NoB (v : Value) (w : World) : Prop := v = .pointer none ∨ ∃ p, v = pt p 0 ∧ w.cell? ⟨p, 16, none⟩ = some (.map none)
theorem given_nb {w : World} {v : Value} (h : NoB v w) : Calls Try.prog 31 #[v] w fun e w' => e = .returned (.bool false) ∧ w' = w := by
  rcases h with rfl | ⟨p, rfl, c⟩
  · exact given_nil w
  · exact given_no c
theorem next_nb {w : World} {v : Value} (h : NoB v w) : Calls Try.prog 11 #[v] w fun e w' => e = .returned (.tuple #[.int .u64 0, .bool false]) ∧ w' = w := by
  have hG := given_nb h
  clear h
  go_enter Try.func11, Try.ntmps11
  go_wp2_with (go_at_call 31; refine hG.mono ?_; rintro e w' ⟨rfl, rfl⟩)
  go_ret2
  exact ⟨by first | rfl | simp, rfl⟩
theorem open_nb {w : World} {v : Value} (h : NoB v w) (id : Int) : Calls Try.prog 12 #[v, .int .u64 id] w fun e w' => e = .returned (.int .i64 180) ∧ w' = w := by
  have hG := given_nb h
  clear h
  go_enter Try.func12, Try.ntmps12
  go_wp2_with (go_at_call 31; refine hG.mono ?_; rintro e w' ⟨rfl, rfl⟩)
  go_ret
  exact ⟨by first | rfl | simp, rfl⟩
theorem held_nb {w : World} {v : Value} (h : NoB v w) (id : Int) : Calls Try.prog 42 #[v, .int .u64 id] w fun e w' => e = .returned (.tuple #[.pointer none, .int .i64 180]) ∧ w' = w := by
  have hG := given_nb h
  clear h
  go_enter Try.func42, Try.ntmps42
  go_wp2_with (go_at_call 31; refine hG.mono ?_; rintro e w' ⟨rfl, rfl⟩)
  go_ret2
  exact ⟨by first | rfl | simp, rfl⟩
theorem opened_nb {w : World} {v : Value} (h : NoB v w) (id : Int) : Calls Try.prog 35 #[v, .int .u64 id] w fun e w' => e = .returned (.tuple #[.pointer none, .int .i64 180]) ∧ w' = w := by
  have hG := held_nb h id
  clear h
  go_enter Try.func35, Try.ntmps35
  go_wp2_with (go_at_call 42; refine hG.mono ?_; rintro e w' ⟨rfl, rfl⟩)
  go_ret2
  exact ⟨by first | rfl | simp, rfl⟩
theorem spend_nb {w : World} {v : Value} (h : NoB v w) (id : Int) (n : Int) : Calls Try.prog 19 #[v, .int .u64 id, .int .u64 n] w fun e w' => e = .returned (.int .i64 180) ∧ w' = w := by
  have hG := opened_nb h id
  clear h
  go_enter Try.func19, Try.ntmps19
  go_wp2_with (go_at_call 35; refine hG.mono ?_; rintro e w' ⟨rfl, rfl⟩)
  go_ret
  exact ⟨by first | rfl | simp, rfl⟩
theorem take_nb {w : World} {v : Value} (h : NoB v w) (id : Int) (n : Int) : Calls Try.prog 16 #[v, .int .u64 id, .int .u64 n] w fun e w' => e = .returned (.tuple #[.slice none 0 0, .int .i64 180]) ∧ w' = w := by
  have hG := opened_nb h id
  clear h
  go_enter Try.func16, Try.ntmps16
  go_wp2_with (go_at_call 35; refine hG.mono ?_; rintro e w' ⟨rfl, rfl⟩)
  go_ret2
  exact ⟨by first | rfl | simp, rfl⟩
theorem use_nb {w : World} {v : Value} (h : NoB v w) (id : Int) (n : Int) : Calls Try.prog 17 #[v, .int .u64 id, .int .u64 n] w fun e w' => e = .returned (.tuple #[.slice none 0 0, .int .i64 180]) ∧ w' = w := by
  have hG := held_nb h id
  clear h
  go_enter Try.func17, Try.ntmps17
  go_wp2_with (go_at_call 42; refine hG.mono ?_; rintro e w' ⟨rfl, rfl⟩)
  go_ret2
  exact ⟨by first | rfl | simp, rfl⟩
theorem waste_nb {w : World} {v : Value} (h : NoB v w) (id : Int) : Calls Try.prog 18 #[v, .int .u64 id] w fun e w' => e = .returned (.tuple #[.slice none 0 0, .int .i64 180]) ∧ w' = w := by
  have hG := held_nb h id
  clear h
  go_enter Try.func18, Try.ntmps18
  go_wp2_with (go_at_call 42; refine hG.mono ?_; rintro e w' ⟨rfl, rfl⟩)
  go_ret2
  exact ⟨by first | rfl | simp, rfl⟩
theorem close_nb {w : World} {v : Value} (h : NoB v w) (id : Int) : Calls Try.prog 13 #[v, .int .u64 id] w fun e w' => e = .returned (.int .i64 180) ∧ w' = w := by
  have hG := opened_nb h id
  clear h
  go_enter Try.func13, Try.ntmps13
  go_wp2_with (go_at_call 35; refine hG.mono ?_; rintro e w' ⟨rfl, rfl⟩)
  go_ret
  exact ⟨by first | rfl | simp, rfl⟩
theorem view_nb {w : World} {v : Value} (h : NoB v w) : Calls Try.prog 22 #[v] w fun e w' => e = .returned (.slice none 0 0) ∧ w' = w := by
  have hG := given_nb h
  clear h
  go_enter Try.func22, Try.ntmps22
  go_wp2_with (go_at_call 31; refine hG.mono ?_; rintro e w' ⟨rfl, rfl⟩)
  go_ret
  exact ⟨by first | rfl | simp, rfl⟩
theorem account_nb {w : World} {v : Value} (h : NoB v w) (id : Int) : Calls Try.prog 37 #[v, .int .u64 id] w fun e w' => e = .returned (.tuple #[.pointer none, .int .i64 180]) ∧ w' = w := by
  have hG := given_nb h
  have hO := opened_nb h id
  clear h
  by_cases hz : id = 0
  · subst hz
    go_enter Try.func37, Try.ntmps37
    go_wp2_with (first | (go_at_call 31; refine hG.mono ?_; rintro e w' ⟨rfl, rfl⟩) | (go_at_call 35; refine hO.mono ?_; rintro e w' ⟨rfl, rfl⟩))
    go_ret2
    exact ⟨by first | rfl | simp, rfl⟩
  · go_enter Try.func37, Try.ntmps37
    go_wp2_with (go_at_call 35; refine hO.mono ?_; rintro e w' ⟨rfl, rfl⟩)
    go_ret2
    exact ⟨by first | rfl | simp, rfl⟩
theorem left_nb {w : World} {v : Value} (h : NoB v w) (id : Int) : Calls Try.prog 21 #[v, .int .u64 id] w fun e w' => e = .returned (.int .u64 0) ∧ w' = w := by
  have hG := account_nb h id
  clear h
  go_enter Try.func21, Try.ntmps21
  go_wp2_with (go_at_call 37; refine hG.mono ?_; rintro e w' ⟨rfl, rfl⟩)
  go_ret
  exact ⟨by first | rfl | simp, rfl⟩
theorem raise_nb {w : World} {v : Value} (h : NoB v w) (id : Int) (n : Int) : Calls Try.prog 15 #[v, .int .u64 id, .int .u64 n] w fun e w' => e = .returned (.tuple #[.bool false, .int .i64 180]) ∧ w' = w := by
  have hG := account_nb h id
  clear h
  go_enter Try.func15, Try.ntmps15
  go_wp2_with (go_at_call 37; refine hG.mono ?_; rintro e w' ⟨rfl, rfl⟩)
  go_ret2
  exact ⟨by first | rfl | simp, rfl⟩
theorem room_nb {w : World} {v : Value} (h : NoB v w) (id : Int) : Calls Try.prog 20 #[v, .int .u64 id] w fun e w' => e = .returned (.int .u64 0) ∧ w' = w := by
  have hL := left_nb h
  clear h
  by_cases hz : id = 0
  · subst hz
    go_enter Try.func20, Try.ntmps20
    go_wp2
    go_ret
    exact ⟨by first | rfl | simp, rfl⟩
  · go_enter Try.func20, Try.ntmps20
    go_wp2_with (go_at_call 21; refine (hL _).mono ?_; rintro e w' ⟨rfl, rfl⟩)
    go_ret
    exact ⟨by first | rfl | simp, rfl⟩
theorem build54 (w : World) : (Instr.build 54 #[(0, .int .i64 180), (1, .int .i64 180), (2, .int .i64 180), (3, .int .i64 180), (4, .int .i64 180), (5, .int .i64 180), (6, .int .i64 180)]).run Try.prog w = .ok (.agg #[.int .i64 180, .int .i64 180, .int .i64 180, .int .i64 180, .int .i64 180, .int .i64 180, .int .i64 180]) w := by kernel_rfl
theorem build46 (w : World) : (Instr.build 46 #[]).run Try.prog w = .ok (.agg #[.int .i64 0, .int .u64 0, .int .u64 0, .int .i64 0, .int .u64 0, .int .u64 0, .int .i64 0, .int .u64 0, .int .u64 0, .int .i64 0, .int .i64 0, .int .u64 0, .int .u64 0, .int .u64 0, .int .u64 0, .int .u64 0, .map none]) w := by kernel_rfl
theorem nob_below {v : Value} {w w' : World} (h : NoB v w) (hb : Below w.heap.size w w') : NoB v w' := by
  rcases h with e | ⟨p, e, c⟩
  · exact .inl e
  · exact .inr ⟨p, e, cell_kept hb c⟩
set_option maxHeartbeats 4000000 in
/-- The law, once a book is there that New did not give. -/
theorem nobody_any (w : World) (pl : Bool) (kd : Int) (sec : Bool) (id n : Int) : Calls Try.prog 4 #[.bool pl, .agg #[.int .i64 kd, .bool sec, .int .u64 id, .int .u64 n]] w fun e w' => e = .returned (.bool true) ∧ Below w.heap.size w w' := by
  have hb := below_box w (.cells #[.int .i64 kd, .bool sec, .int .u64 id, .int .u64 n] 35)
  have c2 := box_cells w #[.int .i64 kd, .bool sec, .int .u64 id, .int .u64 n] 35 2 (.int .u64 id) rfl
  have c3 := box_cells w #[.int .i64 kd, .bool sec, .int .u64 id, .int .u64 n] 35 3 (.int .u64 n) rfl
  have HB := hid2 hb
  have h54 := build54
  have h46 := build46
  clear hb
  revert c2 c3 HB
  cases pl
  · intro c2 c3 HB
    have HN : Hid (NoB (.pointer none) (w.alloc (.cells #[.int .i64 kd, .bool sec, .int .u64 id, .int .u64 n] 35))) := .inl rfl
    go_enter Try.func4, Try.ntmps4
    go_upto_region 4 with fail
    revert c2 c3 HB HN
    generalize w.alloc (.cells #[.int .i64 kd, .bool sec, .int .u64 id, .int .u64 n] 35) = w1
    intro c2 c3 HB HN
    go_upto_region 9 with (first | (go_at_call 11; refine (next_nb HN.out).mono ?_; rintro e w' ⟨rfl, rfl⟩) | (go_at_call 15; refine (raise_nb HN.out _ _).mono ?_; rintro e w' ⟨rfl, rfl⟩) | (go_at_call 16; refine (take_nb HN.out _ _).mono ?_; rintro e w' ⟨rfl, rfl⟩) | (go_at_call 17; refine (use_nb HN.out _ _).mono ?_; rintro e w' ⟨rfl, rfl⟩) | (go_at_call 18; refine (waste_nb HN.out _).mono ?_; rintro e w' ⟨rfl, rfl⟩))
    refine wp_world ?_
    intro w1 hw1
    rw [← hw1.out] at c2 c3 HB HN
    clear hw1
    go_region_held3 (fun W => W.cell? ⟨w.heap.size, 2, none⟩ = some (.int .u64 id) ∧ W.cell? ⟨w.heap.size, 3, none⟩ = some (.int .u64 n)) (go_keep)
      (first
        | (go_at_call 12; refine (open_nb (.inl rfl) _).mono ?_; rintro e w2 ⟨rfl, rfl⟩)
        | (go_at_call 19; refine (spend_nb (.inl rfl) _ _).mono ?_; rintro e w2 ⟨rfl, rfl⟩)
        | (go_at_call 13; refine (close_nb (.inl rfl) _).mono ?_; rintro e w2 ⟨rfl, rfl⟩))
    all_goals
      go_upto_region 10 with fail
      refine wp_world ?_
      intro w3 hw3
      have hbz : Below w1.heap.size w1 w3 := by
        rw [hw3.out]
        exact below_drewN (below_box w1 (.cells #[.int .i64 180, .int .i64 180, .int .i64 180, .int .i64 180, .int .i64 180, .int .i64 180, .int .i64 180] 54)) 1
      have hR : Row w3 w1.heap.size [.int .i64 180, .int .i64 180, .int .i64 180, .int .i64 180, .int .i64 180, .int .i64 180, .int .i64 180] 54 := by
        rw [hw3.out]
        exact (Row.new w1 _ 54).drew 1
      have d2 := cell_kept hbz c2
      have d3 := cell_kept hbz c3
      have HB3 := hid2 (HB.out.trans (hbz.mono HB.out.size))
      have HN3 := hid2 (nob_below HN.out hbz)
      have a0 := hR.cell 0 _ rfl
      have a1 := hR.cell 1 _ rfl
      have a2 := hR.cell 2 _ rfl
      have a3 := hR.cell 3 _ rfl
      have a4 := hR.cell 4 _ rfl
      have a5 := hR.cell 5 _ rfl
      have a6 := hR.cell 6 _ rfl
      clear hbz hR hw3 c2 c3 HB HN
      go_wp2_with fail
      refine wp_loop_rounds 8 ?_
      iterate 8 (rw [rounds_succ]; go_wp2_with fail)
      go_wp2_with (first | (go_at_call 20; refine (room_nb HN3.out _).mono ?_; rintro e w' ⟨rfl, rfl⟩) | (go_at_call 21; refine (left_nb HN3.out _).mono ?_; rintro e w' ⟨rfl, rfl⟩) | (go_at_call 22; refine (view_nb HN3.out).mono ?_; rintro e w' ⟨rfl, rfl⟩) | (go_at_call 14; refine (alive_any _).mono ?_; rintro e w4 ⟨rfl, hb4⟩; have HB4 := hid2 hb4; clear hb4))
      go_ret
      exact ⟨by first | rfl | simp, HB3.out.trans (HB4.out.mono HB3.out.size)⟩
  · intro c2 c3 HB
    have hs1 : (w.alloc (.cells #[.int .i64 kd, .bool sec, .int .u64 id, .int .u64 n] 35)).heap.size = w.heap.size + 1 := by simp
    have hbp := below_box (w.alloc (.cells #[.int .i64 kd, .bool sec, .int .u64 id, .int .u64 n] 35)) (.cells #[.int .i64 0, .int .u64 0, .int .u64 0, .int .i64 0, .int .u64 0, .int .u64 0, .int .i64 0, .int .u64 0, .int .u64 0, .int .i64 0, .int .i64 0, .int .u64 0, .int .u64 0, .int .u64 0, .int .u64 0, .int .u64 0, .map none] 46)
    have c16 := box_cells (w.alloc (.cells #[.int .i64 kd, .bool sec, .int .u64 id, .int .u64 n] 35)) #[.int .i64 0, .int .u64 0, .int .u64 0, .int .i64 0, .int .u64 0, .int .u64 0, .int .i64 0, .int .u64 0, .int .u64 0, .int .i64 0, .int .i64 0, .int .u64 0, .int .u64 0, .int .u64 0, .int .u64 0, .int .u64 0, .map none] 46 16 (.map none) rfl
    rw [hs1] at c16
    replace c2 := cell_kept hbp c2
    replace c3 := cell_kept hbp c3
    replace HB := hid2 (HB.out.trans (hbp.mono HB.out.size))
    clear hs1 hbp
    go_enter Try.func4, Try.ntmps4
    go_upto_region 4 with fail
    refine wp_world ?_
    intro w1 hw1
    rw [← hw1.out] at c2 c3 HB c16
    have HN : Hid (NoB (pt (w.heap.size + 1) 0) w1) := .inr ⟨_, rfl, c16⟩
    clear hw1
    go_upto_region 9 with (first | (go_at_call 11; refine (next_nb HN.out).mono ?_; rintro e w' ⟨rfl, rfl⟩) | (go_at_call 15; refine (raise_nb HN.out _ _).mono ?_; rintro e w' ⟨rfl, rfl⟩) | (go_at_call 16; refine (take_nb HN.out _ _).mono ?_; rintro e w' ⟨rfl, rfl⟩) | (go_at_call 17; refine (use_nb HN.out _ _).mono ?_; rintro e w' ⟨rfl, rfl⟩) | (go_at_call 18; refine (waste_nb HN.out _).mono ?_; rintro e w' ⟨rfl, rfl⟩))
    refine wp_world ?_
    intro w1 hw1
    rw [← hw1.out] at c2 c3 HB HN c16
    clear hw1
    go_region_held3 (fun W => W.cell? ⟨w.heap.size, 2, none⟩ = some (.int .u64 id) ∧ W.cell? ⟨w.heap.size, 3, none⟩ = some (.int .u64 n) ∧ W.cell? ⟨w.heap.size + 1, 16, none⟩ = some (.map none)) (go_keep)
      (first
        | (go_at_call 12; refine (open_nb (.inr ⟨_, rfl, by first | exact c16 | exact cell_kept (below_drewN (below_box w1 _) 1) c16 | exact cell_kept (below_box w1 _) c16⟩) _).mono ?_; rintro e w2 ⟨rfl, rfl⟩)
        | (go_at_call 19; refine (spend_nb (.inr ⟨_, rfl, by first | exact c16 | exact cell_kept (below_drewN (below_box w1 _) 1) c16 | exact cell_kept (below_box w1 _) c16⟩) _ _).mono ?_; rintro e w2 ⟨rfl, rfl⟩)
        | (go_at_call 13; refine (close_nb (.inr ⟨_, rfl, by first | exact c16 | exact cell_kept (below_drewN (below_box w1 _) 1) c16 | exact cell_kept (below_box w1 _) c16⟩) _).mono ?_; rintro e w2 ⟨rfl, rfl⟩))
    all_goals
      go_upto_region 10 with fail
      refine wp_world ?_
      intro w3 hw3
      have hbz : Below w1.heap.size w1 w3 := by
        rw [hw3.out]
        exact below_drewN (below_box w1 (.cells #[.int .i64 180, .int .i64 180, .int .i64 180, .int .i64 180, .int .i64 180, .int .i64 180, .int .i64 180] 54)) 1
      have hR : Row w3 w1.heap.size [.int .i64 180, .int .i64 180, .int .i64 180, .int .i64 180, .int .i64 180, .int .i64 180, .int .i64 180] 54 := by
        rw [hw3.out]
        exact (Row.new w1 _ 54).drew 1
      have d2 := cell_kept hbz c2
      have d3 := cell_kept hbz c3
      have HB3 := hid2 (HB.out.trans (hbz.mono HB.out.size))
      have HN3 := hid2 (nob_below HN.out hbz)
      have a0 := hR.cell 0 _ rfl
      have a1 := hR.cell 1 _ rfl
      have a2 := hR.cell 2 _ rfl
      have a3 := hR.cell 3 _ rfl
      have a4 := hR.cell 4 _ rfl
      have a5 := hR.cell 5 _ rfl
      have a6 := hR.cell 6 _ rfl
      clear hbz hR hw3 c2 c3 HB HN
      go_wp2_with fail
      refine wp_loop_rounds 8 ?_
      iterate 8 (rw [rounds_succ]; go_wp2_with fail)
      go_wp2_with (first | (go_at_call 20; refine (room_nb HN3.out _).mono ?_; rintro e w' ⟨rfl, rfl⟩) | (go_at_call 21; refine (left_nb HN3.out _).mono ?_; rintro e w' ⟨rfl, rfl⟩) | (go_at_call 22; refine (view_nb HN3.out).mono ?_; rintro e w' ⟨rfl, rfl⟩) | (go_at_call 14; refine (alive_any _).mono ?_; rintro e w4 ⟨rfl, hb4⟩; have HB4 := hid2 hb4; clear hb4))
      go_ret
      exact ⟨by first | rfl | simp, HB3.out.trans (HB4.out.mono HB3.out.size)⟩
end Go.Proofs.Ytahkbklhngiloaa
