import Derived.Test.YthglaocdhkdffaaGreatDoorTn0
namespace Go.Proofs.YthglaocdhkdffaaGreatDoor
open Go.RowKit
set_option maxRecDepth 100000
def ms0 : List Value := [.int .i64 0, .int .i64 0, .int .u64 0, .int .u64 0, .bool false, .bool false, .slice none 0 0]
theorem i48 : (Tryz.prog.info? 48).map (·.size) = some ms0.length := by kernel_rfl
set_option maxHeartbeats 4000000 in
theorem sameMux_no (w : World) : Calls Tryz.prog 31 #[.agg ms0.toArray, .agg ms0.toArray] w fun e w' => e = .returned (.bool true) ∧ Below w.heap.size w w' := by
  go_enter Tryz.func31, Tryz.ntmps31
  go_upto_region 1 with (fail)
  refine wp_world fun wa HW => ?_
  obtain ⟨b, hb⟩ : ∃ b, w.heap.size = b := ⟨_, rfl⟩
  have HR : Hid (Row wa b ms0 48 ∧ Row wa (b + 1) ms0 48 ∧ Below w.heap.size w wa) := by
    show _ ∧ _ ∧ _
    rw [HW.out, ← hb]
    refine ⟨(Row.new' w _ ms0 48 _ rfl rfl).alloc _, Row.new' _ _ ms0 48 _ (by simp) rfl, (below_new w _).trans ((below_new _ _).mono (below_new w _).size)⟩
  rw [hb]
  clear HW hb
  have x0 := HR.out.1.cell 0 _ rfl
  have x1 := HR.out.1.cell 1 _ rfl
  have x2 := HR.out.1.cell 2 _ rfl
  have x3 := HR.out.1.cell 3 _ rfl
  have x4 := HR.out.1.cell 4 _ rfl
  have x5 := HR.out.1.cell 5 _ rfl
  have x6 := HR.out.1.cell 6 _ rfl
  have y0 := HR.out.2.1.cell 0 _ rfl
  have y1 := HR.out.2.1.cell 1 _ rfl
  have y2 := HR.out.2.1.cell 2 _ rfl
  have y3 := HR.out.2.1.cell 3 _ rfl
  have y4 := HR.out.2.1.cell 4 _ rfl
  have y5 := HR.out.2.1.cell 5 _ rfl
  have y6 := HR.out.2.1.cell 6 _ rfl
  go_wp2
  refine wp_loop_rounds 1 ?_
  rw [rounds_succ]
  go_wp2
  go_ret
  exact ⟨rfl, HR.out.2.2⟩
set_option maxHeartbeats 4000000 in
theorem sameStat_no (w : World) : Calls Tryz.prog 13 #[.agg ts0.toArray, .agg ts0.toArray] w fun e w' => e = .returned (.bool true) ∧ Below w.heap.size w w' := by
  go_enter Tryz.func13, Tryz.ntmps13
  go_upto_region 1 with (fail)
  refine wp_world fun wa HW => ?_
  obtain ⟨b, hb⟩ : ∃ b, w.heap.size = b := ⟨_, rfl⟩
  have HR : Hid (Row wa b ts0 52 ∧ Row wa (b + 1) ts0 52 ∧ Below w.heap.size w wa) := by
    show _ ∧ _ ∧ _
    rw [HW.out, ← hb]
    refine ⟨(Row.new' w _ ts0 52 _ rfl rfl).alloc _, Row.new' _ _ ts0 52 _ (by simp) rfl, (below_new w _).trans ((below_new _ _).mono (below_new w _).size)⟩
  rw [hb]
  clear HW hb
  have HM := hid (sameMux_no wa)
  have hx : wa.rangeAt b 0 ms0 := HR.out.1.range 0 ms0 (fun j v hv => by
    rw [Nat.zero_add]
    have hj := (List.getElem?_eq_some_iff.1 hv).1
    have : ts0 = ms0 ++ [.slice none 0 0, .slice none 0 0, .int .i64 0] := rfl
    rw [this, List.getElem?_append_left hj]; exact hv)
  have hy : wa.rangeAt (b + 1) 0 ms0 := HR.out.2.1.range 0 ms0 (fun j v hv => by
    rw [Nat.zero_add]
    have hj := (List.getElem?_eq_some_iff.1 hv).1
    have : ts0 = ms0 ++ [.slice none 0 0, .slice none 0 0, .int .i64 0] := rfl
    rw [this, List.getElem?_append_left hj]; exact hv)
  have HX := hid hx
  have HY := hid hy
  clear hx hy
  go_upto_region 3 with (first
    | (show wpList _ _ _ (Oper.mk (some 8) (.load 48 (.tmp 7)) _ _ _ _ :: _) _ _; refine wpList_load_mid rfl 48 (.tmp 7) rfl b 0 rfl ms0 _ HX.out Tryz.underlying48 rfl i48 ?_)
    | (show wpList _ _ _ (Oper.mk (some 10) (.load 48 (.tmp 9)) _ _ _ _ :: _) _ _; refine wpList_load_mid rfl 48 (.tmp 9) rfl (b + 1) 0 rfl ms0 _ HY.out Tryz.underlying48 rfl i48 ?_)
    | (go_at_call 31; refine Calls.mono HM.out ?_; rintro e w2 ⟨rfl, hb2⟩
       have HB2 := hid hb2
       have x7 := (HR.out.1.kept hb2 HR.out.1.lt).cell 7 _ rfl
       have x8 := (HR.out.1.kept hb2 HR.out.1.lt).cell 8 _ rfl
       have x9 := (HR.out.1.kept hb2 HR.out.1.lt).cell 9 _ rfl
       have y7 := (HR.out.2.1.kept hb2 HR.out.2.1.lt).cell 7 _ rfl
       have y8 := (HR.out.2.1.kept hb2 HR.out.2.1.lt).cell 8 _ rfl
       have y9 := (HR.out.2.1.kept hb2 HR.out.2.1.lt).cell 9 _ rfl
       clear hb2))
  go_wp2
  refine wp_loop_rounds 1 ?_
  rw [rounds_succ]
  go_wp2
  refine wp_loop_rounds 1 ?_
  rw [rounds_succ]
  go_wp2
  go_ret
  exact ⟨rfl, HR.out.2.2.trans (HB2.out.mono HR.out.2.2.size)⟩
end Go.Proofs.YthglaocdhkdffaaGreatDoor
