import Derived.Test.YtjnmfedefmemnaaNo0
import Derived.Laws.ResultCell
namespace Go.Proofs.Ytjnmfedefmemnaa
open Go.RowKit
set_option maxRecDepth 100000
theorem Row.result2 {P : Program} {w : World} {g t : Nat} {c : List Value} {fn : Func} {p u : Tmp} {ty : TypeId} {v : Value} (h : Row w g c t) (hr : fn.results = #[.cell p ty, .tmp u]) (tmps : Array Value) (hp : tmps.getD p undef = .pointer (some ⟨g, 0, none⟩)) (hu : tmps.getD u undef = v) (d : TypeDesc)
    (hd1 : P.underlying ty = some d) (hd : (match d with | .struct _ | .array _ _ => true | _ => false) = true) (hi : (P.info? ty).map (·.size) = some c.length) : (results fn tmps).run P w = .ok (.tuple #[.agg c.toArray, v]) w := by
  have hp' : tmps[p]?.getD undef = .pointer (some ⟨g, 0, none⟩) := by simpa using hp
  have hu' : tmps[u]?.getD undef = v := by simpa using hu
  simp [results, hr, hp', hu', asAddr, run_loadVar_row w g t ty c.toArray (0, 0) d h.at_ hd1 hd (by simpa using hi)]
theorem i32 : (Try.prog.info? 32).map (·.size) = some 2 := by kernel_rfl
theorem below_grow {w w' : World} (h : Below w.heap.size w w') (o : Obj) : Below w.heap.size w (w'.alloc o) := h.alloc h.size o

set_option maxHeartbeats 400000 in
theorem drop_no {w : World} {v : Value} (h : NoNet w v) (x y z : Int) : Calls Try.prog 20 #[v, .int .i64 x, .int .i64 y, .int .i64 z] w fun e w' => e = .returned (.int .i64 42) ∧ Below w.heap.size w w' := by
  have H : Hid (NoNet w v) := h
  clear h
  go_enter Try.func20, Try.ntmps20
  go_wp2_with fail
  have hb := below_grow (below_grow (Below.refl w.heap.size w) (.cells #[.int .i64 y] 3)) (.cells #[.int .i64 z] 3)
  refine (find_no (NoNet.kept H.out hb) x y z _ _).mono ?_
  rintro e w' ⟨rfl, rfl⟩
  have HB : Hid _ := hb
  clear hb
  go_wp2
  go_ret
  exact ⟨rfl, HB.out⟩
set_option maxHeartbeats 400000 in
theorem spoil_no {w : World} {v : Value} (h : NoNet w v) (x y z a : Int) (m : Int) : Calls Try.prog 17 #[v, .int .i64 x, .int .i64 y, .int .i64 z, .int .i64 a, .int .u8 m] w fun e w' => e = .returned (.int .i64 42) ∧ Below w.heap.size w w' := by
  have H : Hid (NoNet w v) := h
  clear h
  go_enter Try.func17, Try.ntmps17
  go_wp2_with fail
  have hb := below_grow (below_grow (Below.refl w.heap.size w) (.cells #[.int .i64 a] 3)) (.cells #[.int .u8 m] 5)
  refine (find_no (NoNet.kept H.out hb) x y z _ _).mono ?_
  rintro e w' ⟨rfl, rfl⟩
  have HB : Hid _ := hb
  clear hb
  go_wp2
  go_ret
  exact ⟨rfl, HB.out⟩
set_option maxHeartbeats 400000 in
theorem double_no {w : World} {v : Value} (h : NoNet w v) (x y z : Int) : Calls Try.prog 11 #[v, .int .i64 x, .int .i64 y, .int .i64 z] w fun e w' => e = .returned (.tuple #[.bool false, .int .i64 42]) ∧ Below w.heap.size w w' := by
  have H : Hid (NoNet w v) := h
  clear h
  go_enter Try.func11, Try.ntmps11
  go_wp2_with fail
  have hb := below_grow (below_grow (Below.refl w.heap.size w) (.cells #[.int .i64 y] 3)) (.cells #[.bool false] 4)
  refine (find_no (NoNet.kept H.out hb) x y z _ _).mono ?_
  rintro e w' ⟨rfl, rfl⟩
  have HB : Hid _ := hb
  clear hb
  go_wp2
  go_ret2
  exact ⟨rfl, HB.out⟩
set_option maxHeartbeats 400000 in
theorem peek_no {w : World} {v : Value} (h : NoNet w v) (x y z : Int) : Calls Try.prog 12 #[v, .int .i64 x, .int .i64 y, .int .i64 z] w fun e w' => e = .returned (.tuple #[.agg #[.slice none 0 0, .bool false], .int .i64 42]) ∧ Below w.heap.size w w' := by
  have H : Hid (NoNet w v) := h
  clear h
  go_enter Try.func12, Try.ntmps12
  go_wp2_with fail
  have hb := below_grow (below_grow (Below.refl w.heap.size w) (.cells #[.slice none 0 0, .bool false] 32)) (.cells #[.slice none 0 0, .bool false] 32)
  refine (find_no (NoNet.kept H.out hb) x y z _ _).mono ?_
  rintro e w' ⟨rfl, rfl⟩
  have HB : Hid _ := hb
  clear hb
  go_wp2
  have R : Row ((w.alloc (.cells #[.slice none 0 0, .bool false] 32)).alloc (.cells #[.slice none 0 0, .bool false] 32)) w.heap.size [.slice none 0 0, .bool false] 32 := (Row.new' _ _ _ _ _ rfl rfl).alloc _
  exact bodyPost_ret (v := .tuple #[.agg #[.slice none 0 0, .bool false], .int .i64 42]) (R.result2 Try.results12 _ rfl rfl _ Try.underlying32 rfl i32) rfl ⟨rfl, HB.out⟩
set_option maxHeartbeats 400000 in
theorem take_no {w : World} {v : Value} (h : NoNet w v) (x y z : Int) : Calls Try.prog 13 #[v, .int .i64 x, .int .i64 y, .int .i64 z] w fun e w' => e = .returned (.tuple #[.agg #[.slice none 0 0, .bool false], .int .i64 42]) ∧ Below w.heap.size w w' := by
  have H : Hid (NoNet w v) := h
  clear h
  go_enter Try.func13, Try.ntmps13
  go_wp2_with fail
  have hb := below_grow (below_grow (below_grow (below_grow (Below.refl w.heap.size w) (.cells #[.int .i64 y] 3)) (.cells #[.int .i64 z] 3)) (.cells #[.slice none 0 0, .bool false] 32)) (.cells #[.slice none 0 0, .bool false] 32)
  refine (find_no (NoNet.kept H.out hb) x y z _ _).mono ?_
  rintro e w' ⟨rfl, rfl⟩
  have HB : Hid _ := hb
  clear hb
  go_wp2
  have R : Row ((((w.alloc (.cells #[.int .i64 y] 3)).alloc (.cells #[.int .i64 z] 3)).alloc (.cells #[.slice none 0 0, .bool false] 32)).alloc (.cells #[.slice none 0 0, .bool false] 32)) (w.heap.size + 1 + 1) [.slice none 0 0, .bool false] 32 := (Row.new' _ _ _ _ _ (by simp) rfl).alloc _
  exact bodyPost_ret (v := .tuple #[.agg #[.slice none 0 0, .bool false], .int .i64 42]) (R.result2 Try.results13 _ rfl rfl _ Try.underlying32 rfl i32) rfl ⟨rfl, HB.out⟩
/-- How a path looks of which nothing is known. -/
def vz : List Value := [.bool false, .int .i64 0, .int .i64 0, .int .i64 0, .int .u64 0, .int .u64 0, .int .u64 0, .int .u64 0, .int .u64 0, .int .u64 0, .int .u64 0, .int .u64 0, .int .u64 0, .int .u64 0]
theorem vz_one : ∀ v ∈ vz, v.oneCell' = true := by decide
theorem zero41 : (Try.prog.info? 41).map (fun i => (i.zero, i.size)) = some (some (.agg vz.toArray), 14) := by kernel_rfl
theorem z41 (w : World) : (zeroValue 41).run Try.prog w = .ok (.agg vz.toArray) w := (zero_of_info zero41).1 w
theorem i41 : (Try.prog.info? 41).map (·.size) = some 14 := (zero_of_info zero41).2
set_option maxHeartbeats 400000 in
theorem look_no {w : World} {v : Value} (h : NoNet w v) (x : Int) : Calls Try.prog 15 #[v, .int .i64 x] w fun e w' => e = .returned (.tuple #[.agg vz.toArray, .int .i64 42]) ∧ Below w.heap.size w w' := by
  have H : Hid (NoNet w v) := h
  clear h
  go_enter Try.func15, Try.ntmps15
  go_wp2_with fail
  have hb := below_grow (Below.refl w.heap.size w) (.cells vz.toArray 41)
  have hr := Row.new w vz 41
  refine (road_no (NoNet.kept H.out hb) x).mono ?_
  rintro e w' ⟨rfl, rfl⟩
  generalize w.alloc (.cells vz.toArray 41) = wa at *
  have HB : Hid _ := hb
  have HR : Hid _ := hr
  clear hb hr
  go_wp2_with (show wpList _ _ _ (Oper.mk none (.store 41 (.tmp 4) (.tmp 12)) _ _ _ _ :: _) _ _; refine HR.out.wpStore' 41 (.tmp 4) (.tmp 12) vz rfl rfl rfl rfl rfl vz_one i41 ?_; intro wz HZ)
  have R : Row wz w.heap.size vz 41 := by rw [HZ.out]; exact HR.out.row _
  have hBz : Below w.heap.size w wz := by rw [HZ.out]; exact below_setRow HB.out (Nat.le_refl _) _
  exact bodyPost_ret (v := .tuple #[.agg vz.toArray, .int .i64 42]) (R.result2 Try.results15 _ rfl rfl _ Try.underlying41 rfl i41) rfl ⟨rfl, hBz⟩
end Go.Proofs.Ytjnmfedefmemnaa
