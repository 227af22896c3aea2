import Derived.Test.YtbkfmknjbdonlaaRtBase
namespace Go.Proofs.Ytbkfmknjbdonlaa
open Go.RowKit
set_option maxRecDepth 100000

/-- What an Est holds: eight times the time, four times the deviation, the doublings, and whether there was a sample. -/
structure Es where
  t : Int
  v : Int
  b : Int
  s : Bool
def Es.cells (E : Es) : List Value := [.int .u64 E.t, .int .u64 E.v, .int .i64 E.b, .bool E.s]
structure Es.Ok (E : Es) : Prop where
  t0 : 0 ≤ E.t
  t1 : E.t ≤ 480007
  v0 : 0 ≤ E.v
  v1 : E.v ≤ 240003
  b0 : 0 ≤ E.b
  b1 : E.b ≤ 16
  no : E.s = false → E.t = 0 ∧ E.v = 0
def EstAt (w : World) (g : Nat) (E : Es) : Prop := Row w g E.cells 105
theorem EstAt.kept {w w' : World} {g : Nat} {E : Es} (h : EstAt w g E) (hb : Below w.heap.size w w') : EstAt w' g E := Row.kept h hb (Row.lt h)
theorem i46 : (Try.prog.info? 105).map (·.size) = some 4 := by kernel_rfl

theorem calm_any {w : World} {g : Nat} {E : Es} (h : EstAt w g E) :
    Calls Try.prog 45 #[.pointer (some ⟨g, 0, none⟩)] w fun e w' => e = .returned (.tuple #[]) ∧ EstAt w' g { E with b := 0 } ∧ Only [g] w w' := by
  obtain ⟨t, v, b, s⟩ := E
  have c2 := Row.cell h 2 _ rfl
  have f2 := Row.frozen h 2
  have H := hid h
  clear h
  go_enter Try.func45, Try.ntmps45
  go_wp2
  refine bodyPost_end (results_none Try.results45 _ _ _) rfl ?_
  exact ⟨rfl, H.out.set 2 _, (Only.refl _ _).setCell _ _ _ (.inl (by simp))⟩
theorem known_any {w : World} {g : Nat} {E : Es} (h : EstAt w g E) (ok : E.Ok) :
    Calls Try.prog 67 #[.pointer (some ⟨g, 0, none⟩)] w fun e w' => e = .returned (.bool E.s) ∧ Below w.heap.size w w' := by
  obtain ⟨t, v, b, s⟩ := E
  have H : Hid (Row w g [.int .u64 t, .int .u64 v, .int .i64 b, .bool s] 105) := h
  have HO := hid ok
  clear h ok
  go_enter Try.func67, Try.ntmps67
  go_upto_region 2 with (show wpList _ _ _ (Oper.mk (some 6) (.load 105 (.tmp 5)) _ _ _ _ :: _) _ _; refine Row.wpLoad H.out 105 (.tmp 5) rfl rfl rfl _ Try.underlying105 rfl i46 ?_)
  have HC := hid (calm_any (w := w.alloc (.cells #[.int .u64 t, .int .u64 v, .int .i64 b, .bool s] 105)) (g := w.heap.size) (E := ⟨t, v, b, s⟩) (Row.new' _ _ _ _ _ rfl rfl))
  have HB := hid (below_grow (Below.refl w.heap.size w) (.cells #[.int .u64 t, .int .u64 v, .int .i64 b, .bool s] 105))
  go_upto_region 3 with (go_at_call 45; refine Calls.mono HC.out ?_; rintro e w2 ⟨rfl, hr, ho⟩; have HR : Hid (Row w2 w.heap.size [.int .u64 t, .int .u64 v, .int .i64 0, .bool s] 105) := hr; have HB2 := hid (HB.out.trans (ho.below HB.out.size (by simp))); clear hr ho)
  clear HC
  have e0 : s = false → t = 0 ∧ v = 0 := HO.out.no
  cases s with
  | true =>
    clear e0
    go_wp2_with (show wpList _ _ _ (Oper.mk (some 8) (.load 105 (.tmp 3)) _ _ _ _ :: _) _ _; refine Row.wpLoad HR.out 105 (.tmp 3) rfl rfl rfl _ Try.underlying105 rfl i46 ?_)
    all_goals (go_ret; exact ⟨rfl, HB2.out⟩)
  | false =>
    obtain ⟨rfl, rfl⟩ := e0 rfl
    go_wp2_with (show wpList _ _ _ (Oper.mk (some 8) (.load 105 (.tmp 3)) _ _ _ _ :: _) _ _; refine Row.wpLoad HR.out 105 (.tmp 3) rfl rfl rfl _ Try.underlying105 rfl i46 ?_)
    go_ret
    exact ⟨rfl, HB2.out⟩
theorem apart_any {w : World} {x y : Int} (hx : 0 ≤ x) (hx1 : x ≤ 60000) (hy : 0 ≤ y) (hy1 : y ≤ 60000) :
    Calls Try.prog 68 #[.int .u64 x, .int .u64 y] w fun e w' => e = .returned (.int .u64 (max x y - min x y)) ∧ w' = w := by
  have ew : IntKind.u64.wrap (max x y - min x y) = max x y - min x y := by rw [IntKind.wrap_u64]; omega
  go_enter Try.func68, Try.ntmps68
  go_wp2
  go_ret
  exact ⟨rfl, rfl⟩
theorem back_any {w : World} {g : Nat} {E : Es} (h : EstAt w g E) (hb : 0 ≤ E.b) (hb1 : E.b ≤ 16) :
    Calls Try.prog 42 #[.pointer (some ⟨g, 0, none⟩)] w fun e w' => e = .returned (.tuple #[]) ∧ EstAt w' g { E with b := min (E.b + 1) 16 } ∧ Only [g] w w' := by
  obtain ⟨t, v, b, s⟩ := E
  have c2 := Row.cell h 2 _ rfl
  have f2 := Row.frozen h 2
  have H := hid h
  simp only at hb hb1
  have ew : wrap64 (b + 1) = b + 1 := by unfold wrap64; omega
  clear h
  go_enter Try.func42, Try.ntmps42
  go_wp2
  refine bodyPost_end (results_none Try.results42 _ _ _) rfl ?_
  exact ⟨rfl, H.out.set 2 _, (Only.refl _ _).setCell _ _ _ (.inl (by simp))⟩
def Es.new : Es := ⟨0, 0, 0, false⟩
theorem estnew_any (w : World) : Calls Try.prog 40 #[] w fun e w' => e = .returned (.pointer (some ⟨w.heap.size, 0, none⟩)) ∧ EstAt w' w.heap.size Es.new ∧ Below w.heap.size w w' := by
  go_enter Try.func40, Try.ntmps40
  go_wp2
  go_ret
  exact ⟨rfl, Row.new' _ _ _ _ _ rfl rfl, below_grow (Below.refl _ _) _⟩
theorem Es.new_ok : Es.new.Ok := by constructor <;> decide
end Go.Proofs.Ytbkfmknjbdonlaa
