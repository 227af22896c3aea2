import Derived.Test.YthglaocdhkdffaaGreatDoorRtBase
import Derived.Laws.CopyOwn
namespace Go.Proofs.YthglaocdhkdffaaGreatDoor
open Go.RowKit
set_option maxRecDepth 100000
theorem below_new (w : World) (o : Obj) : Below w.heap.size w (w.alloc o) := (Below.refl _ _).alloc (Nat.le_refl _) _
/-- A Transfer that New did not give. -/
def NoT (w : World) (v : Value) : Prop := v = .pointer none ∨ ∃ p, v = .pointer (some ⟨p, 0, none⟩) ∧ w.cell? ⟨p, 0, none⟩ = some (.pointer none)
theorem NoT.kept {w w' : World} {v : Value} (h : NoT w v) (hb : Below w.heap.size w w') : NoT w' v := by
  rcases h with e | ⟨p, e, hc⟩
  · exact .inl e
  · exact .inr ⟨p, e, rcell_kept hb hc⟩
section
variable {w : World} {v : Value}
set_option maxHeartbeats 1000000 in
theorem given_no (h : NoT w v) : Calls Tryz.prog 18 #[v] w fun e w' => e = .returned (.bool false) ∧ w' = w := by
  rcases h with rfl | ⟨p, rfl, hc⟩
  · go_enter Tryz.func18, Tryz.ntmps18
    go_wp2
    go_ret
    exact ⟨rfl, rfl⟩
  · go_enter Tryz.func18, Tryz.ntmps18
    go_wp2
    go_ret
    exact ⟨rfl, rfl⟩
theorem fault_no (h : NoT w v) : Calls Tryz.prog 21 #[v] w fun e w' => e = .returned (.int .i64 230) ∧ w' = w := by
  have HM := hid (given_no h)
  clear h
  go_enter Tryz.func21, Tryz.ntmps21
  go_wp2_with (go_at_call 18; refine Calls.mono HM.out ?_; rintro e w2 ⟨rfl, rfl⟩)
  go_ret
  exact ⟨rfl, rfl⟩
theorem refuses_no (h : NoT w v) (nm : ByteArray) (c s : Value) : Calls Tryz.prog 15 #[v, .string nm, c, s] w fun e w' => e = .returned (.int .i64 230) ∧ Below w.heap.size w w' := by
  have HM : Hid (∀ w', Below w.heap.size w w' → Calls Tryz.prog 21 #[v] w' fun e w2 => e = .returned (.int .i64 230) ∧ w2 = w') := fun w' hb => fault_no (h.kept hb)
  clear h
  go_enter Tryz.func15, Tryz.ntmps15
  go_upto_region 1 with (fail)
  have HB : Hid (Below w.heap.size w (w.alloc (.cells #[.string nm] 9))) := below_new _ _
  go_wp2_with (go_at_call 21; refine Calls.mono (HM.out _ HB.out) ?_; rintro e w2 ⟨rfl, rfl⟩)
  go_ret
  exact ⟨rfl, HB.out⟩
theorem fetch_no (h : NoT w v) (nm : ByteArray) (c s : Value) : Calls Tryz.prog 4 #[v, .string nm, c, s] w fun e w' => e = .returned (.tuple #[.int .i64 0, .int .i64 230]) ∧ Below w.heap.size w w' := by
  have HM := hid (refuses_no h nm c s)
  clear h
  go_enter Tryz.func4, Tryz.ntmps4
  go_wp2_with (go_at_call 15; refine Calls.mono HM.out ?_; rintro e w2 ⟨rfl, hb⟩; have HB := hid hb; clear hb)
  go_ret2
  exact ⟨rfl, HB.out⟩
theorem data_no (h : NoT w v) (n : Value) : Calls Tryz.prog 5 #[v, n] w fun e w' => e = .returned (.tuple #[.slice none 0 0, .int .i64 230]) ∧ w' = w := by
  have HM := hid (given_no h)
  clear h
  go_enter Tryz.func5, Tryz.ntmps5
  go_wp2_with (go_at_call 18; refine Calls.mono HM.out ?_; rintro e w2 ⟨rfl, rfl⟩)
  go_ret2
  exact ⟨rfl, rfl⟩
theorem offer_no (h : NoT w v) (nm d n : Value) : Calls Tryz.prog 6 #[v, nm, d, n] w fun e w' => e = .returned (.int .i64 230) ∧ w' = w := by
  have HM := hid (fault_no h)
  clear h
  go_enter Tryz.func6, Tryz.ntmps6
  go_wp2_with (go_at_call 21; refine Calls.mono HM.out ?_; rintro e w2 ⟨rfl, rfl⟩)
  go_ret
  exact ⟨rfl, rfl⟩
theorem withdraw_no (h : NoT w v) (nm : Value) : Calls Tryz.prog 7 #[v, nm] w fun e w' => e = .returned (.int .i64 230) ∧ w' = w := by
  have HM := hid (fault_no h)
  clear h
  go_enter Tryz.func7, Tryz.ntmps7
  go_wp2_with (go_at_call 21; refine Calls.mono HM.out ?_; rintro e w2 ⟨rfl, rfl⟩)
  go_ret
  exact ⟨rfl, rfl⟩
theorem find_no (h : NoT w v) (n : Value) : Calls Tryz.prog 24 #[v, n] w fun e w' => e = .returned (.tuple #[.pointer none, .int .i64 230]) ∧ w' = w := by
  have HM := hid (fault_no h)
  clear h
  go_enter Tryz.func24, Tryz.ntmps24
  go_wp2_with (go_at_call 21; refine Calls.mono HM.out ?_; rintro e w2 ⟨rfl, rfl⟩)
  go_ret2
  exact ⟨rfl, rfl⟩
theorem cancel_no (h : NoT w v) (n : Value) : Calls Tryz.prog 8 #[v, n] w fun e w' => e = .returned (.int .i64 230) ∧ w' = w := by
  have HM := hid (find_no h n)
  clear h
  go_enter Tryz.func8, Tryz.ntmps8
  go_wp2_with (go_at_call 24; refine Calls.mono HM.out ?_; rintro e w2 ⟨rfl, rfl⟩)
  go_ret
  exact ⟨rfl, rfl⟩
theorem again_no (h : NoT w v) (n : Value) : Calls Tryz.prog 9 #[v, n] w fun e w' => e = .returned (.int .i64 230) ∧ w' = w := by
  have HM := hid (find_no h n)
  clear h
  go_enter Tryz.func9, Tryz.ntmps9
  go_wp2_with (go_at_call 24; refine Calls.mono HM.out ?_; rintro e w2 ⟨rfl, rfl⟩)
  go_ret
  exact ⟨rfl, rfl⟩
theorem sync_no (h : NoT w v) : Calls Tryz.prog 10 #[v] w fun e w' => e = .returned (.int .i64 230) ∧ w' = w := by
  have HM := hid (given_no h)
  clear h
  go_enter Tryz.func10, Tryz.ntmps10
  go_wp2_with (go_at_call 18; refine Calls.mono HM.out ?_; rintro e w2 ⟨rfl, rfl⟩)
  go_ret
  exact ⟨rfl, rfl⟩
theorem feed_no (h : NoT w v) (b : Value) : Calls Tryz.prog 11 #[v, b] w fun e w' => e = .returned (.int .i64 230) ∧ w' = w := by
  have HM := hid (given_no h)
  clear h
  go_enter Tryz.func11, Tryz.ntmps11
  go_wp2_with (go_at_call 18; refine Calls.mono HM.out ?_; rintro e w2 ⟨rfl, rfl⟩)
  go_ret
  exact ⟨rfl, rfl⟩
theorem out_no (h : NoT w v) (n : Value) : Calls Tryz.prog 12 #[v, n] w fun e w' => e = .returned (.slice none 0 0) ∧ w' = w := by
  have HM := hid (given_no h)
  clear h
  go_enter Tryz.func12, Tryz.ntmps12
  go_wp2_with (go_at_call 18; refine Calls.mono HM.out ?_; rintro e w2 ⟨rfl, rfl⟩)
  go_ret
  exact ⟨rfl, rfl⟩
end
def ts0 : List Value := [.int .i64 0, .int .i64 0, .int .u64 0, .int .u64 0, .bool false, .bool false, .slice none 0 0, .slice none 0 0, .slice none 0 0, .int .i64 0]
theorem i52 : (Tryz.prog.info? 52).map (·.size) = some ts0.length := by kernel_rfl
set_option maxHeartbeats 1000000 in
theorem stat_no {w : World} {v : Value} (h : NoT w v) : Calls Tryz.prog 14 #[v] w fun e w' => e = .returned (.agg ts0.toArray) ∧ Below w.heap.size w w' := by
  have HM : Hid (∀ w', Below w.heap.size w w' → Calls Tryz.prog 18 #[v] w' fun e w2 => e = .returned (.bool false) ∧ w2 = w') := fun w' hb => given_no (h.kept hb)
  clear h
  go_enter Tryz.func14, Tryz.ntmps14
  go_upto_region 1 with (fail)
  refine wp_world fun wa HW => ?_
  have HR : Hid (Row wa w.heap.size ts0 52) := by show Row _ _ _ _; rw [HW.out]; exact Row.new' _ _ _ _ _ rfl rfl
  have HBa : Hid (Below w.heap.size w wa) := by show Below _ _ _; rw [HW.out]; exact below_new _ _
  clear HW
  go_wp2_with (first
    | (go_at_call 18; refine Calls.mono (HM.out _ HBa.out) ?_; rintro e w2 ⟨rfl, rfl⟩)
    | (show wpList _ _ _ (Oper.mk none (.store 52 (.tmp 2) (.tmp 11)) _ _ _ _ :: _) _ _; refine HR.out.wpStore' 52 (.tmp 2) (.tmp 11) ts0 rfl rfl rfl rfl rfl (by intro x hx; simp only [ts0, List.mem_cons, List.not_mem_nil, or_false] at hx; rcases hx with rfl | rfl | rfl | rfl | rfl | rfl | rfl | rfl | rfl | rfl <;> rfl) i52 ?_; intro w3 HZ))
  have R : Row w3 w.heap.size ts0 52 := by rw [HZ.out]; exact HR.out.row _
  have hB : Below w.heap.size w w3 := by rw [HZ.out]; exact Go.below_setRow HBa.out (Nat.le_refl _) _
  exact bodyPost_ret (v := .agg ts0.toArray) (R.result Tryz.results14 _ rfl _ Tryz.underlying52 rfl i52) rfl ⟨rfl, hB⟩
end Go.Proofs.YthglaocdhkdffaaGreatDoor
