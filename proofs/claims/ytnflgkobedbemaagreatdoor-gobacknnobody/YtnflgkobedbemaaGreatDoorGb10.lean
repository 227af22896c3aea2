import Derived.Test.YtnflgkobedbemaaGreatDoorGb7
namespace Go.Proofs.YtnflgkobedbemaaGreatDoor
open Go.RowKit Go.Maps Go.Sort
set_option maxRecDepth 100000

set_option maxHeartbeats 4000000 in
theorem same_0 {w : World} (ob edg snb pb pe : Int) :
    Calls Tryz.prog 11 #[.agg (stL ob edg snb pb pe (.slice none 0 0)).toArray, .agg (stL ob edg snb pb pe (.slice none 0 0)).toArray] w fun e w' => e = .returned (.bool true) ∧ Below w.heap.size w w' := by
  rw [show (stL ob edg snb pb pe (.slice none 0 0)).toArray = #[.int .i64 0, .bool false, .bool false, .int .u64 0, .int .u64 ob, .int .u64 ob, .int .u64 ob, .int .u64 edg, .int .i64 snb, .int .u64 pb, .int .u64 pe, .int .i64 0, .int .i64 0, .int .i64 0, .slice none 0 0] from rfl]
  go_enter Tryz.func11, Tryz.ntmps11
  go_upto_region 1 with fail
  refine wp_world fun W HW => ?_
  have HA : Hid (Row W w.heap.size (stL ob edg snb pb pe (.slice none 0 0)) 38) := by show Row _ _ _ _; rw [HW.out]; exact (Row.new _ _ _).alloc _
  have HB : Hid (Row W (w.heap.size + 1) (stL ob edg snb pb pe (.slice none 0 0)) 38) := by show Row _ _ _ _; rw [HW.out]; exact Row.new' _ _ _ _ _ (by simp) rfl
  have HBW : Hid (Below w.heap.size w W) := by show Below _ _ _; rw [HW.out]; exact ((Below.refl _ _).alloc (Nat.le_refl _) _).alloc (by simp) _
  clear HW
  obtain ⟨x, hx⟩ : ∃ z, z = w.heap.size := ⟨_, rfl⟩
  obtain ⟨y, hy⟩ : ∃ z, z = w.heap.size + 1 := ⟨_, rfl⟩
  rw [← hx] at HA
  rw [← hy] at HB
  rw [← hy, ← hx]
  clear hx hy
  have a0 := HA.out.cell 0 _ rfl
  have a1 := HA.out.cell 1 _ rfl
  have a2 := HA.out.cell 2 _ rfl
  have a3 := HA.out.cell 3 _ rfl
  have a4 := HA.out.cell 4 _ rfl
  have a5 := HA.out.cell 5 _ rfl
  have a6 := HA.out.cell 6 _ rfl
  have a7 := HA.out.cell 7 _ rfl
  have a8 := HA.out.cell 8 _ rfl
  have a9 := HA.out.cell 9 _ rfl
  have a10 := HA.out.cell 10 _ rfl
  have a11 := HA.out.cell 11 _ rfl
  have a12 := HA.out.cell 12 _ rfl
  have a13 := HA.out.cell 13 _ rfl
  have a14 := HA.out.cell 14 _ rfl
  have b0 := HB.out.cell 0 _ rfl
  have b1 := HB.out.cell 1 _ rfl
  have b2 := HB.out.cell 2 _ rfl
  have b3 := HB.out.cell 3 _ rfl
  have b4 := HB.out.cell 4 _ rfl
  have b5 := HB.out.cell 5 _ rfl
  have b6 := HB.out.cell 6 _ rfl
  have b7 := HB.out.cell 7 _ rfl
  have b8 := HB.out.cell 8 _ rfl
  have b9 := HB.out.cell 9 _ rfl
  have b10 := HB.out.cell 10 _ rfl
  have b11 := HB.out.cell 11 _ rfl
  have b12 := HB.out.cell 12 _ rfl
  have b13 := HB.out.cell 13 _ rfl
  have b14 := HB.out.cell 14 _ rfl
  go_wp2
  refine wp_loop_rounds 1 ?_
  rw [rounds_succ]
  go_wp2
  go_ret
  exact ⟨rfl, HBW.out⟩
end Go.Proofs.YtnflgkobedbemaaGreatDoor
