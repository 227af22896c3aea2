import Derived.Test.YtnflgkobedbemaaGreatDoorGb0
import Derived.OwnWalk
import Derived.Laws.ResultCell
import Derived.Laws.CopyOwn
namespace Go.Proofs.YtnflgkobedbemaaGreatDoor
open Go.RowKit Go.Maps Go.Sort
set_option maxRecDepth 100000

/-- A side that New did not give. -/
def NoE (w : World) (v : Value) : Prop := v = .pointer none ∨ ∃ p, v = .pointer (some ⟨p, 0, none⟩) ∧ w.cell? ⟨p, 0, none⟩ = some (.pointer none)
theorem NoE.kept {w w' : World} {v : Value} (h : NoE w v) (hb : Below w.heap.size w w') : NoE w' v := by
  rcases h with h | ⟨p, h1, h2⟩
  · exact .inl h
  · exact .inr ⟨p, h1, cell_kept hb h2⟩
set_option maxHeartbeats 2000000 in
theorem gnone_yes {w : World} {v : Value} (h : NoE w v) : Calls Tryz.prog 31 #[v] w fun e w' => e = .returned (.bool true) ∧ w' = w := by
  rcases h with rfl | ⟨p, rfl, c0⟩
  · go_enter Tryz.func31, Tryz.ntmps31
    go_wp2
    go_ret
    exact ⟨rfl, rfl⟩
  · go_enter Tryz.func31, Tryz.ntmps31
    go_wp2
    go_ret
    exact ⟨rfl, rfl⟩
set_option maxHeartbeats 2000000 in
theorem gwrite_nb {w : World} {v : Value} (h : NoE w v) (b : Value) : Calls Tryz.prog 15 #[v, b] w fun e w' => e = .returned (.tuple #[.int .i64 0, .int .i64 130]) ∧ w' = w := by
  have HN := hid (gnone_yes h)
  clear h
  go_enter Tryz.func15, Tryz.ntmps15
  go_wp2_with (go_at_call 31; refine HN.out.mono ?_; rintro e w1 ⟨rfl, rfl⟩)
  go_ret2
  exact ⟨rfl, rfl⟩
set_option maxHeartbeats 2000000 in
theorem gread_nb {w : World} {v : Value} (h : NoE w v) (n : Value) : Calls Tryz.prog 16 #[v, n] w fun e w' => e = .returned (.tuple #[.slice none 0 0, .bool false, .int .i64 130]) ∧ w' = w := by
  have HN := hid (gnone_yes h)
  clear h
  go_enter Tryz.func16, Tryz.ntmps16
  go_wp2_with (go_at_call 31; refine HN.out.mono ?_; rintro e w1 ⟨rfl, rfl⟩)
  exact bodyPost_ret (results_tmp3 Tryz.results16 _ _ _) rfl ⟨rfl, rfl⟩
set_option maxHeartbeats 2000000 in
theorem gclose_nb {w : World} {v : Value} (h : NoE w v) : Calls Tryz.prog 19 #[v] w fun e w' => e = .returned (.int .i64 130) ∧ w' = w := by
  have HN := hid (gnone_yes h)
  clear h
  go_enter Tryz.func19, Tryz.ntmps19
  go_wp2_with (go_at_call 31; refine HN.out.mono ?_; rintro e w1 ⟨rfl, rfl⟩)
  go_ret
  exact ⟨rfl, rfl⟩
set_option maxHeartbeats 2000000 in
theorem gabort_nb {w : World} {v : Value} (h : NoE w v) : Calls Tryz.prog 20 #[v] w fun e w' => e = .returned (.int .i64 130) ∧ w' = w := by
  have HN := hid (gnone_yes h)
  clear h
  go_enter Tryz.func20, Tryz.ntmps20
  go_wp2_with (go_at_call 31; refine HN.out.mono ?_; rintro e w1 ⟨rfl, rfl⟩)
  go_ret
  exact ⟨rfl, rfl⟩
set_option maxHeartbeats 2000000 in
theorem gout_nb {w : World} {v : Value} (h : NoE w v) : Calls Tryz.prog 14 #[v] w fun e w' => e = .returned (.slice none 0 0) ∧ w' = w := by
  have HN := hid (gnone_yes h)
  clear h
  go_enter Tryz.func14, Tryz.ntmps14
  go_wp2_with (go_at_call 31; refine HN.out.mono ?_; rintro e w1 ⟨rfl, rfl⟩)
  go_ret
  exact ⟨rfl, rfl⟩
set_option maxHeartbeats 2000000 in
theorem gtick_nb {w : World} {v : Value} (h : NoE w v) (n : Value) : Calls Tryz.prog 18 #[v, n] w fun e w' => e = .returned (.tuple #[]) ∧ w' = w := by
  have HN := hid (gnone_yes h)
  clear h
  go_enter Tryz.func18, Tryz.ntmps18
  go_wp2_with (go_at_call 31; refine HN.out.mono ?_; rintro e w1 ⟨rfl, rfl⟩)
  exact bodyPost_ret (results_none Tryz.results18 _ _ _) rfl ⟨rfl, rfl⟩
def frN : List Value := [.int .i64 0, .int .i64 0, .int .u64 0, .int .u64 0, .int .u64 0, .slice none 0 0, .slice none 0 0, .int .u32 0, .int .u32 0, .slice none 0 0, .bool false, .int .i64 0]
theorem frN_one : ∀ v ∈ frN, v.oneCell' = true := by
  intro v hv
  simp only [frN, List.mem_cons, List.not_mem_nil, or_false] at hv
  rcases hv with h | h | h | h | h | h | h | h | h | h | h | h <;> (subst h; rfl)
theorem i83 : (Tryz.prog.info? 83).map (·.size) = some 12 := by kernel_rfl
theorem Row.result2 {P : Program} {w : World} {g : Nat} {c : List Value} {t : TypeId} {fn : Func} {p u : Tmp} {ty : TypeId} (h : Row w g c t) (hr : fn.results = #[.cell p ty, .tmp u]) (tmps : Array Value) (hp : tmps.getD p undef = .pointer (some ⟨g, 0, none⟩)) (d : TypeDesc)
    (hu : P.underlying ty = some d) (hd : (match d with | .struct _ | .array _ _ => true | _ => false) = true) (hi : (P.info? ty).map (·.size) = some c.length) : (results fn tmps).run P w = .ok (.tuple #[.agg c.toArray, tmps.getD u undef]) w := by
  have hp' : tmps[p]?.getD undef = .pointer (some ⟨g, 0, none⟩) := by simpa using hp
  simp [results, hr, hp', asAddr, run_loadVar_row w g t ty c.toArray (0, 0) d h.at_ hu hd (by simpa using hi)]
set_option maxHeartbeats 2000000 in
theorem gheard_nb {w : World} {v : Value} (h : NoE w v) (n b : Value) : Calls Tryz.prog 46 #[v, n, b] w fun e w' => e = .returned (.tuple #[.agg frN.toArray, .bool false]) ∧ Below w.heap.size w w' := by
  have HN := hid (fun W hb => gnone_yes (h.kept (w' := W) hb))
  clear h
  go_enter Tryz.func46, Tryz.ntmps46
  go_upto_region 1 with fail
  refine wp_world fun wa HW => ?_
  have HZ : Hid (Row wa w.heap.size frN 83) := by show Row _ _ _ _; rw [HW.out]; exact Row.new _ _ _
  have HB : Hid (Below w.heap.size w wa) := by show Below _ _ _; rw [HW.out]; exact (Below.refl _ _).alloc (Nat.le_refl _) _
  obtain ⟨z, hz⟩ : ∃ z, z = w.heap.size := ⟨_, rfl⟩
  have HQ := hid hz
  rw [← hz] at HZ ⊢
  clear HW hz
  go_wp2_with (first
    | (go_at_call 31; refine (HN.out _ HB.out).mono ?_; rintro e w1 ⟨rfl, rfl⟩)
    | (show wpList _ _ _ (Oper.mk none (.store 83 (.tmp 6) (.tmp 26)) _ _ _ _ :: _) _ _; refine HZ.out.wpStore' 83 (.tmp 6) (.tmp 26) frN rfl rfl rfl rfl rfl frN_one i83 ?_; intro wz HWZ))
  have R : Row wz z frN 83 := by rw [HWZ.out]; exact HZ.out.row _
  refine bodyPost_ret (Row.result2 R Tryz.results46 _ rfl _ Tryz.underlying83 rfl i83) rfl ⟨rfl, ?_⟩
  rw [HWZ.out]
  exact Go.below_setRow HB.out (by rw [HQ.out]; exact Nat.le_refl _) _
set_option maxHeartbeats 2000000 in
theorem greceive_nb {w : World} {v : Value} (h : NoE w v) (n b : Value) : Calls Tryz.prog 17 #[v, n, b] w fun e w' => e = .returned (.tuple #[]) ∧ Below w.heap.size w w' := by
  have HN := hid (gheard_nb h n b)
  clear h
  have HFR : Hid (frN = [.int .i64 0, .int .i64 0, .int .u64 0, .int .u64 0, .int .u64 0, .slice none 0 0, .slice none 0 0, .int .u32 0, .int .u32 0, .slice none 0 0, .bool false, .int .i64 0]) := rfl
  go_enter Tryz.func17, Tryz.ntmps17
  go_wp2_with (first
    | (go_at_call 46; refine HN.out.mono ?_; rintro e w1 ⟨rfl, hb1⟩; have HB1 := hid hb1; clear hb1)
    | (show wpList _ _ _ (Oper.mk none (.store 83 (.tmp 6) (.tmp 13)) _ _ _ _ :: _) _ _; refine (Row.new' w1 _ frN 83 _ rfl rfl).wpStore' 83 (.tmp 6) (.tmp 13) frN rfl rfl rfl rfl rfl frN_one i83 ?_; intro wz HWZ))
  refine bodyPost_ret (results_none Tryz.results17 _ _ _) rfl ⟨rfl, ?_⟩
  rw [HWZ.out]
  exact Go.below_setRow (HB1.out.alloc HB1.out.size _) HB1.out.size _
/-- The zero look. -/
def stZ : List Value := [.int .i64 0, .bool false, .bool false, .int .u64 0, .int .u64 0, .int .u64 0, .int .u64 0, .int .u64 0, .int .i64 0, .int .u64 0, .int .u64 0, .int .i64 0, .int .i64 0, .int .i64 0, .slice none 0 0]
theorem stZ_one : ∀ v ∈ stZ, v.oneCell' = true := by
  intro v hv
  simp only [stZ, List.mem_cons, List.not_mem_nil, or_false] at hv
  rcases hv with h | h | h | h | h | h | h | h | h | h | h | h | h | h | h <;> (subst h; rfl)
theorem i38 : (Tryz.prog.info? 38).map (·.size) = some 15 := by kernel_rfl
set_option maxHeartbeats 2000000 in
theorem gstat_nb {w : World} {v : Value} (h : NoE w v) : Calls Tryz.prog 12 #[v] w fun e w' => e = .returned (.agg stZ.toArray) ∧ Below w.heap.size w w' := by
  have HN := hid (fun W hb => gnone_yes (h.kept (w' := W) hb))
  clear h
  go_enter Tryz.func12, Tryz.ntmps12
  go_upto_region 1 with fail
  refine wp_world fun wa HW => ?_
  have HZ : Hid (Row wa w.heap.size stZ 38) := by show Row _ _ _ _; rw [HW.out]; exact Row.new _ _ _
  have HB : Hid (Below w.heap.size w wa) := by show Below _ _ _; rw [HW.out]; exact (Below.refl _ _).alloc (Nat.le_refl _) _
  obtain ⟨z, hz⟩ : ∃ z, z = w.heap.size := ⟨_, rfl⟩
  have HQ := hid hz
  rw [← hz] at HZ ⊢
  clear HW hz
  go_wp2_with (first
    | (go_at_call 31; refine (HN.out _ HB.out).mono ?_; rintro e w1 ⟨rfl, rfl⟩)
    | (show wpList _ _ _ (Oper.mk none (.store 38 (.tmp 2) (.tmp 6)) _ _ _ _ :: _) _ _; refine HZ.out.wpStore' 38 (.tmp 2) (.tmp 6) stZ rfl rfl rfl rfl rfl stZ_one i38 ?_; intro wz HWZ))
  have R : Row wz z stZ 38 := by rw [HWZ.out]; exact HZ.out.row _
  refine bodyPost_ret (R.result Tryz.results12 _ rfl _ Tryz.underlying38 rfl i38) rfl ⟨rfl, ?_⟩
  rw [HWZ.out]
  exact Go.below_setRow HB.out (by rw [HQ.out]; exact Nat.le_refl _) _
end Go.Proofs.YtnflgkobedbemaaGreatDoor
