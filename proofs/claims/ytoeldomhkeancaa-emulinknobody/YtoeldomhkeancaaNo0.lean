import Derived.Test.YtoeldomhkeancaaAl0
namespace Go.Proofs.Ytoeldomhkeancaa
open Go.RowKit Go.Maps
set_option maxRecDepth 100000

/-- A link that NewLink did not give. -/
def NoL (w : World) (v : Value) : Prop := v = .pointer none ∨ ∃ b, v = pt b 0 ∧ w.cell? ⟨b, 2, none⟩ = some (.int .i64 0)
theorem NoL.kept {w w' : World} {v : Value} (h : NoL w v) (hb : Below w.heap.size w w') : NoL w' v := h.imp id fun ⟨b, e, hc⟩ => ⟨b, e, cell_kept hb hc⟩
theorem none_no {w : World} {v : Value} (h : NoL w v) : Calls Try.prog 19 #[v] w fun e w' => e = .returned (.bool true) ∧ w' = w := by
  rcases h with rfl | ⟨b, rfl, hc⟩
  · go_enter Try.func19, Try.ntmps19
    go_wp2
    go_ret
    exact ⟨rfl, rfl⟩
  · go_enter Try.func19, Try.ntmps19
    go_wp2
    go_ret
    exact ⟨rfl, rfl⟩
set_option maxHeartbeats 1000000 in
theorem put_no {w : World} {v : Value} (h : NoL w v) (hv : v.oneCell' = true) (n f : Value) : Calls Try.prog 9 #[v, n, f] w fun e w' => e = .returned (.bool false) ∧ Below w.heap.size w w' := by
  have hb1 := below_new w (.cells #[v] 24)
  have HN := hid (none_no (h.kept hb1))
  have cb := (Row.new w [v] 24).cell 0 _ rfl
  have HB := hid hb1
  rcases h with rfl | ⟨b, rfl, hc⟩
  · clear hb1
    go_enter Try.func9, Try.ntmps9
    go_wp2_with (go_at_call 19; refine HN.out.mono ?_; rintro e w1 ⟨rfl, rfl⟩)
    go_ret
    exact ⟨rfl, HB.out⟩
  · clear hb1
    go_enter Try.func9, Try.ntmps9
    go_wp2_with (go_at_call 19; refine HN.out.mono ?_; rintro e w1 ⟨rfl, rfl⟩)
    go_ret
    exact ⟨rfl, HB.out⟩
theorem next_no {w : World} {v : Value} (h : NoL w v) : Calls Try.prog 10 #[v] w fun e w' => e = .returned (.tuple #[.int .u64 0, .bool false]) ∧ w' = w := by
  have HN := hid (none_no h)
  clear h
  go_enter Try.func10, Try.ntmps10
  go_wp2_with (go_at_call 19; refine HN.out.mono ?_; rintro e w1 ⟨rfl, rfl⟩)
  go_ret2
  exact ⟨rfl, rfl⟩
theorem take_no {w : World} {v : Value} (h : NoL w v) (n : Value) : Calls Try.prog 11 #[v, n] w fun e w' => e = .returned (.slice none 0 0) ∧ w' = w := by
  have HN := hid (none_no h)
  clear h
  go_enter Try.func11, Try.ntmps11
  go_wp2_with (go_at_call 19; refine HN.out.mono ?_; rintro e w1 ⟨rfl, rfl⟩)
  go_ret
  exact ⟨rfl, rfl⟩
theorem stat0_one : ∀ u ∈ stat0, u.oneCell' = true := by
  intro u hu
  simp only [stat0, List.mem_cons, List.not_mem_nil, or_false] at hu
  rcases hu with rfl | rfl | rfl | rfl | rfl | rfl | rfl | rfl <;> rfl
set_option maxHeartbeats 1000000 in
theorem stat_no {w : World} {v : Value} (h : NoL w v) : Calls Try.prog 12 #[v] w fun e w' => e = .returned (.agg #[.int .u64 0, .int .u64 0, .int .u64 0, .int .u64 0, .int .u64 0, .int .u64 0, .int .i64 0, .int .i64 0]) ∧ Below w.heap.size w w' := by
  have hb1 := below_new w (.cells #[.int .u64 0, .int .u64 0, .int .u64 0, .int .u64 0, .int .u64 0, .int .u64 0, .int .i64 0, .int .i64 0] 30)
  have HR := hid (Row.new w stat0 30)
  have HN := hid (none_no (h.kept hb1))
  have HB := hid hb1
  have hso := stat0_one
  clear h hb1
  go_enter Try.func12, Try.ntmps12
  go_wp2_with (first
    | (go_at_call 19; refine HN.out.mono ?_; rintro e w1 ⟨rfl, rfl⟩)
    | (show wpList _ _ _ (Oper.mk none (.store 30 (.tmp 2) (.tmp 6)) _ _ _ _ :: _) _ _; refine HR.out.wpStore' 30 (.tmp 2) (.tmp 6) stat0 rfl rfl rfl rfl rfl hso info_30 ?_; intro w9 HW9))
  have R9 : Row w9 w.heap.size stat0 30 := by rw [HW9.out]; exact HR.out.row _
  have hB9 : Below w.heap.size w w9 := by rw [HW9.out]; exact below_setRow HB.out (Nat.le_refl _) _
  exact bodyPost_ret (v := .agg stat0.toArray) (R9.result Try.results12 _ rfl _ Try.underlying30 rfl info_30) rfl ⟨rfl, hB9⟩
theorem eq30 (w : World) : (binOp .eql 30 (.agg #[.int .u64 0, .int .u64 0, .int .u64 0, .int .u64 0, .int .u64 0, .int .u64 0, .int .i64 0, .int .i64 0]) (.agg #[.int .u64 0, .int .u64 0, .int .u64 0, .int .u64 0, .int .u64 0, .int .u64 0, .int .i64 0, .int .i64 0])).run Try.prog w = .ok (.bool true) w := by kernel_rfl
set_option maxHeartbeats 4000000 in
/-- The law. -/
theorem nobody_law {w : World} (pl : Bool) (n : Int) (a : Option Addr) (l c : Nat) : Calls Try.prog 3 #[.bool pl, .int .u64 n, .slice a l c] w fun e w' => e = .returned (.bool true) ∧ Below w.heap.size w w' := by
  have HA : Hid (∀ w, Calls Try.prog 13 #[] w fun e w' => e = .returned (.bool true) ∧ Below w.heap.size w w') := alive_any
  have hE := eq30
  cases pl with
  | false =>
    have h0 : NoL w (.pointer none) := .inl rfl
    have HP := hid (put_no h0 rfl (.int .u64 n) (.slice a l c))
    have HX : Hid (∀ w, Calls Try.prog 10 #[.pointer none] w fun e w' => e = .returned (.tuple #[.int .u64 0, .bool false]) ∧ w' = w) := fun w => next_no (.inl rfl)
    have HT : Hid (∀ w, Calls Try.prog 11 #[.pointer none, .int .u64 n] w fun e w' => e = .returned (.slice none 0 0) ∧ w' = w) := fun w => take_no (.inl rfl) _
    have HS : Hid (∀ w, Calls Try.prog 12 #[.pointer none] w fun e w' => e = .returned (.agg #[.int .u64 0, .int .u64 0, .int .u64 0, .int .u64 0, .int .u64 0, .int .u64 0, .int .i64 0, .int .i64 0]) ∧ Below w.heap.size w w') := fun w => stat_no (.inl rfl)
    clear h0
    go_enter Try.func3, Try.ntmps3
    go_wp2_with (first
      | (go_at_call 9; refine HP.out.mono ?_; rintro e w1 ⟨rfl, hb1⟩; have HB1 := hid hb1; clear hb1)
      | (go_at_call 10; refine (HX.out _).mono ?_; rintro e w1 ⟨rfl, rfl⟩)
      | (go_at_call 11; refine (HT.out _).mono ?_; rintro e w1 ⟨rfl, rfl⟩)
      | (go_at_call 12; refine (HS.out _).mono ?_; rintro e w2 ⟨rfl, hb2⟩; have HB2 := hid hb2; clear hb2)
      | (go_at_call 13; refine (HA.out _).mono ?_; rintro e w3 ⟨rfl, hb3⟩; have HB3 := hid hb3; clear hb3))
    go_ret
    exact ⟨rfl, below_two (below_two HB1.out HB2.out (Nat.le_refl _)) HB3.out (Nat.le_refl _)⟩
  | true =>
    have hb0 := below_new w (.cells #[.int .i64 0, .int .i64 0, .int .i64 0, .slice none 0 0, .slice none 0 0, .int .u64 0, .int .u64 0, .int .u64 0, .int .u64 0, .int .u64 0, .int .u64 0, .int .i64 0, .int .i64 0, .slice none 0 0, .slice none 0 0] 38)
    have h0 : NoL (w.alloc (.cells #[.int .i64 0, .int .i64 0, .int .i64 0, .slice none 0 0, .slice none 0 0, .int .u64 0, .int .u64 0, .int .u64 0, .int .u64 0, .int .u64 0, .int .u64 0, .int .i64 0, .int .i64 0, .slice none 0 0, .slice none 0 0] 38)) (pt w.heap.size 0) := .inr ⟨_, rfl, (Row.new w [.int .i64 0, .int .i64 0, .int .i64 0, .slice none 0 0, .slice none 0 0, .int .u64 0, .int .u64 0, .int .u64 0, .int .u64 0, .int .u64 0, .int .u64 0, .int .i64 0, .int .i64 0, .slice none 0 0, .slice none 0 0] 38).cell 2 _ rfl⟩
    have HP := hid (put_no h0 rfl (.int .u64 n) (.slice a l c))
    have H0 := hid h0
    have HB0 := hid hb0
    clear h0 hb0
    go_enter Try.func3, Try.ntmps3
    go_wp2_with (first
      | (go_at_call 9; refine HP.out.mono ?_; rintro e w1 ⟨rfl, hb1⟩; have HB1 := hid hb1; have HN1 := hid (H0.out.kept hb1); clear hb1)
      | (go_at_call 10; refine (next_no HN1.out).mono ?_; rintro e w1 ⟨rfl, rfl⟩)
      | (go_at_call 11; refine (take_no HN1.out (.int .u64 n)).mono ?_; rintro e w1 ⟨rfl, rfl⟩)
      | (go_at_call 12; refine (stat_no HN1.out).mono ?_; rintro e w2 ⟨rfl, hb2⟩; have HB2 := hid hb2; clear hb2)
      | (go_at_call 13; refine (HA.out _).mono ?_; rintro e w3 ⟨rfl, hb3⟩; have HB3 := hid hb3; clear hb3))
    go_ret
    exact ⟨rfl, below_two (below_two (below_two HB0.out HB1.out (Nat.le_refl _)) HB2.out (Nat.le_refl _)) HB3.out (Nat.le_refl _)⟩
end Go.Proofs.Ytoeldomhkeancaa
