import Derived.Test.YtikeodogmnmneaaGreatDoorRtBase
import Derived.OwnWalk
import Derived.Laws.ResultCell
import Derived.Laws.CopyOwn
namespace Go.Proofs.YtikeodogmnmneaaGreatDoor
open Go.RowKit Go.Maps Go.Sort
set_option maxRecDepth 100000

theorem cell_kept {w w' : World} (hb : Below w.heap.size w w') {ad : Addr} {v : Value} (h : w.cell? ad = some v) : w'.cell? ad = some v := rcell_kept hb h
/-- A side that New did not give. -/
def NoE (w : World) (v : Value) : Prop := v = .pointer none ∨ ∃ p, v = .pointer (some ⟨p, 0, none⟩) ∧ w.cell? ⟨p, 0, none⟩ = some (.pointer none)
theorem NoE.kept {w w' : World} {v : Value} (h : NoE w v) (hb : Below w.heap.size w w') : NoE w' v := by
  rcases h with h | ⟨p, h1, h2⟩
  · exact .inl h
  · exact .inr ⟨p, h1, cell_kept hb h2⟩
set_option maxHeartbeats 2000000 in
theorem none_yes {w : World} {v : Value} (h : NoE w v) : Calls Tryz.prog 44 #[v] w fun e w' => e = .returned (.bool true) ∧ w' = w := by
  rcases h with rfl | ⟨p, rfl, c0⟩
  · go_enter Tryz.func44, Tryz.ntmps44
    go_wp2
    go_ret
    exact ⟨rfl, rfl⟩
  · go_enter Tryz.func44, Tryz.ntmps44
    go_wp2
    go_ret
    exact ⟨rfl, rfl⟩
set_option maxHeartbeats 2000000 in
theorem write_nb {w : World} {v : Value} (h : NoE w v) (b : Value) : Calls Tryz.prog 16 #[v, b] w fun e w' => e = .returned (.tuple #[.int .i64 0, .int .i64 130]) ∧ w' = w := by
  have HN := hid (none_yes h)
  clear h
  go_enter Tryz.func16, Tryz.ntmps16
  go_wp2_with (go_at_call 44; refine HN.out.mono ?_; rintro e w1 ⟨rfl, rfl⟩)
  go_ret2
  exact ⟨rfl, rfl⟩
set_option maxHeartbeats 2000000 in
theorem read_nb {w : World} {v : Value} (h : NoE w v) (n : Value) : Calls Tryz.prog 17 #[v, n] w fun e w' => e = .returned (.tuple #[.slice none 0 0, .bool false, .int .i64 130]) ∧ w' = w := by
  have HN := hid (none_yes h)
  clear h
  go_enter Tryz.func17, Tryz.ntmps17
  go_wp2_with (go_at_call 44; refine HN.out.mono ?_; rintro e w1 ⟨rfl, rfl⟩)
  exact bodyPost_ret (results_tmp3 Tryz.results17 _ _ _) rfl ⟨rfl, rfl⟩
set_option maxHeartbeats 2000000 in
theorem close_nb {w : World} {v : Value} (h : NoE w v) : Calls Tryz.prog 18 #[v] w fun e w' => e = .returned (.int .i64 130) ∧ w' = w := by
  have HN := hid (none_yes h)
  clear h
  go_enter Tryz.func18, Tryz.ntmps18
  go_wp2_with (go_at_call 44; refine HN.out.mono ?_; rintro e w1 ⟨rfl, rfl⟩)
  go_ret
  exact ⟨rfl, rfl⟩
set_option maxHeartbeats 2000000 in
theorem abort_nb {w : World} {v : Value} (h : NoE w v) : Calls Tryz.prog 19 #[v] w fun e w' => e = .returned (.int .i64 130) ∧ w' = w := by
  have HN := hid (none_yes h)
  clear h
  go_enter Tryz.func19, Tryz.ntmps19
  go_wp2_with (go_at_call 44; refine HN.out.mono ?_; rintro e w1 ⟨rfl, rfl⟩)
  go_ret
  exact ⟨rfl, rfl⟩
set_option maxHeartbeats 2000000 in
theorem receive_nb {w : World} {v : Value} (h : NoE w v) (n : Value) (b : Value) : Calls Tryz.prog 20 #[v, n, b] w fun e w' => e = .returned (.tuple #[]) ∧ w' = w := by
  have HN := hid (none_yes h)
  clear h
  go_enter Tryz.func20, Tryz.ntmps20
  go_wp2_with (go_at_call 44; refine HN.out.mono ?_; rintro e w1 ⟨rfl, rfl⟩)
  go_end0
  exact ⟨rfl, rfl⟩
set_option maxHeartbeats 2000000 in
theorem tick_nb {w : World} {v : Value} (h : NoE w v) (n : Value) : Calls Tryz.prog 21 #[v, n] w fun e w' => e = .returned (.tuple #[]) ∧ w' = w := by
  have HN := hid (none_yes h)
  clear h
  go_enter Tryz.func21, Tryz.ntmps21
  go_wp2_with (go_at_call 44; refine HN.out.mono ?_; rintro e w1 ⟨rfl, rfl⟩)
  go_end0
  exact ⟨rfl, rfl⟩
set_option maxHeartbeats 2000000 in
theorem join_nb {w : World} {v : Value} (h : NoE w v) (n : Value) (b : Value) : Calls Tryz.prog 22 #[v, n, b] w fun e w' => e = .returned (.tuple #[]) ∧ w' = w := by
  have HN := hid (none_yes h)
  clear h
  go_enter Tryz.func22, Tryz.ntmps22
  go_wp2_with (go_at_call 44; refine HN.out.mono ?_; rintro e w1 ⟨rfl, rfl⟩)
  go_end0
  exact ⟨rfl, rfl⟩
set_option maxHeartbeats 2000000 in
theorem prio_nb {w : World} {v : Value} (h : NoE w v) (n : Value) (b : Value) : Calls Tryz.prog 23 #[v, n, b] w fun e w' => e = .returned (.tuple #[]) ∧ w' = w := by
  have HN := hid (none_yes h)
  clear h
  go_enter Tryz.func23, Tryz.ntmps23
  go_wp2_with (go_at_call 44; refine HN.out.mono ?_; rintro e w1 ⟨rfl, rfl⟩)
  go_end0
  exact ⟨rfl, rfl⟩
set_option maxHeartbeats 2000000 in
theorem leave_nb {w : World} {v : Value} (h : NoE w v) (n : Value) : Calls Tryz.prog 24 #[v, n] w fun e w' => e = .returned (.tuple #[]) ∧ w' = w := by
  have HN := hid (none_yes h)
  clear h
  go_enter Tryz.func24, Tryz.ntmps24
  go_wp2_with (go_at_call 44; refine HN.out.mono ?_; rintro e w1 ⟨rfl, rfl⟩)
  go_end0
  exact ⟨rfl, rfl⟩
set_option maxHeartbeats 2000000 in
theorem out_nb {w : World} {v : Value} (h : NoE w v) : Calls Tryz.prog 25 #[v] w fun e w' => e = .returned (.slice none 0 0) ∧ w' = w := by
  have HN := hid (none_yes h)
  clear h
  go_enter Tryz.func25, Tryz.ntmps25
  go_wp2_with (go_at_call 44; refine HN.out.mono ?_; rintro e w1 ⟨rfl, rfl⟩)
  go_ret
  exact ⟨rfl, rfl⟩
/-- The zero look. -/
def stZ : List Value := [.int .i64 0, .bool false, .bool false, .int .u64 0, .int .u64 0, .int .u64 0, .int .u64 0, .int .u64 0, .int .i64 0, .int .u64 0, .int .u64 0, .int .i64 0, .int .i64 0, .int .i64 0, .slice none 0 0]
theorem stZ_one : ∀ v ∈ stZ, v.oneCell' = true := by
  intro v hv
  simp only [stZ, List.mem_cons, List.not_mem_nil, or_false] at hv
  rcases hv with h | h | h | h | h | h | h | h | h | h | h | h | h | h | h <;> (subst h; rfl)
theorem i45 : (Tryz.prog.info? 45).map (·.size) = some 15 := by kernel_rfl
set_option maxHeartbeats 2000000 in
theorem stat_nb {w : World} {v : Value} (h : NoE w v) : Calls Tryz.prog 13 #[v] w fun e w' => e = .returned (.agg stZ.toArray) ∧ Below w.heap.size w w' := by
  have HN := hid (fun W hb => none_yes (h.kept (w' := W) hb))
  clear h
  go_enter Tryz.func13, Tryz.ntmps13
  go_upto_region 1 with fail
  refine wp_world fun wa HW => ?_
  have HZ : Hid (Row wa w.heap.size stZ 45) := by show Row _ _ _ _; rw [HW.out]; exact Row.new _ _ _
  have HB : Hid (Below w.heap.size w wa) := by show Below _ _ _; rw [HW.out]; exact (Below.refl _ _).alloc (Nat.le_refl _) _
  obtain ⟨z, hz⟩ : ∃ z, z = w.heap.size := ⟨_, rfl⟩
  have HQ := hid hz
  rw [← hz] at HZ ⊢
  clear HW hz
  go_wp2_with (first
    | (go_at_call 44; refine (HN.out _ HB.out).mono ?_; rintro e w1 ⟨rfl, rfl⟩)
    | (show wpList _ _ _ (Oper.mk none (.store 45 (.tmp 2) (.tmp 5)) _ _ _ _ :: _) _ _; refine HZ.out.wpStore' 45 (.tmp 2) (.tmp 5) stZ rfl rfl rfl rfl rfl stZ_one i45 ?_; intro wz HWZ))
  have R : Row wz z stZ 45 := by rw [HWZ.out]; exact HZ.out.row _
  refine bodyPost_ret (R.result Tryz.results13 _ rfl _ Tryz.underlying45 rfl i45) rfl ⟨rfl, ?_⟩
  rw [HWZ.out]
  exact Go.below_setRow HB.out (by rw [HQ.out]; exact Nat.le_refl _) _
set_option maxHeartbeats 4000000 in
theorem same_z (w : World) : Calls Tryz.prog 12 #[.agg stZ.toArray, .agg stZ.toArray] w fun e w' => e = .returned (.bool true) ∧ Below w.heap.size w w' := by
  rw [show stZ.toArray = #[.int .i64 0, .bool false, .bool false, .int .u64 0, .int .u64 0, .int .u64 0, .int .u64 0, .int .u64 0, .int .i64 0, .int .u64 0, .int .u64 0, .int .i64 0, .int .i64 0, .int .i64 0, .slice none 0 0] from rfl]
  go_enter Tryz.func12, Tryz.ntmps12
  go_upto_region 1 with fail
  refine wp_world fun W HW => ?_
  have HA : Hid (Row W w.heap.size stZ 45) := by show Row _ _ _ _; rw [HW.out]; exact (Row.new _ _ _).alloc _
  have HB : Hid (Row W (w.heap.size + 1) stZ 45) := by show Row _ _ _ _; rw [HW.out]; exact Row.new' _ _ _ _ _ (by simp) rfl
  have HBW : Hid (Below w.heap.size w W) := by show Below _ _ _; rw [HW.out]; exact ((Below.refl _ _).alloc (Nat.le_refl _) _).alloc (by simp) _
  clear HW
  obtain ⟨x, hx⟩ : ∃ z, z = w.heap.size := ⟨_, rfl⟩
  obtain ⟨y, hy⟩ : ∃ z, z = w.heap.size + 1 := ⟨_, rfl⟩
  rw [← hx] at HA
  rw [← hy] at HB
  rw [← hy, ← hx]
  clear hx hy
  have a0 := HA.out.cell 0 _ rfl
  have b0 := HB.out.cell 0 _ rfl
  have a1 := HA.out.cell 1 _ rfl
  have b1 := HB.out.cell 1 _ rfl
  have a2 := HA.out.cell 2 _ rfl
  have b2 := HB.out.cell 2 _ rfl
  have a3 := HA.out.cell 3 _ rfl
  have b3 := HB.out.cell 3 _ rfl
  have a4 := HA.out.cell 4 _ rfl
  have b4 := HB.out.cell 4 _ rfl
  have a5 := HA.out.cell 5 _ rfl
  have b5 := HB.out.cell 5 _ rfl
  have a6 := HA.out.cell 6 _ rfl
  have b6 := HB.out.cell 6 _ rfl
  have a7 := HA.out.cell 7 _ rfl
  have b7 := HB.out.cell 7 _ rfl
  have a8 := HA.out.cell 8 _ rfl
  have b8 := HB.out.cell 8 _ rfl
  have a9 := HA.out.cell 9 _ rfl
  have b9 := HB.out.cell 9 _ rfl
  have a10 := HA.out.cell 10 _ rfl
  have b10 := HB.out.cell 10 _ rfl
  have a11 := HA.out.cell 11 _ rfl
  have b11 := HB.out.cell 11 _ rfl
  have a12 := HA.out.cell 12 _ rfl
  have b12 := HB.out.cell 12 _ rfl
  have a13 := HA.out.cell 13 _ rfl
  have b13 := HB.out.cell 13 _ rfl
  have a14 := HA.out.cell 14 _ rfl
  have b14 := HB.out.cell 14 _ rfl
  clear HA HB
  go_wp2_with fail
  go_loopw [5, 44] (fun _ s wr => s = .int .i64 0 ∧ W = wr) (fun _ _ _ => 0)
  case atStart => exact ⟨rfl, rfl⟩
  case round =>
    obtain ⟨rfl, rfl⟩ := hrel
    go_wp2_with fail
    go_ret
    exact ⟨rfl, HBW.out⟩
end Go.Proofs.YtikeodogmnmneaaGreatDoor
