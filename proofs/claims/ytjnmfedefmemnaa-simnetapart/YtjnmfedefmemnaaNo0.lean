import Derived.Test.YtjnmfedefmemnaaBase
namespace Go.Proofs.Ytjnmfedefmemnaa
open Go.RowKit
set_option maxRecDepth 100000

/-- A Net that New did not give. -/
def NoNet (w : World) (v : Value) : Prop := v = .pointer none ∨ ∃ p, v = .pointer (some ⟨p, 0, none⟩) ∧ w.cell? ⟨p, 0, none⟩ = some (.slice none 0 0)
theorem NoNet.kept {w w' : World} {v : Value} (h : NoNet w v) (hb : Below w.heap.size w w') : NoNet w' v := by
  rcases h with h | ⟨p, h, c⟩
  · exact .inl h
  · exact .inr ⟨p, h, cell_kept hb c⟩

set_option maxHeartbeats 400000 in
theorem paths_no {w : World} {v : Value} (h : NoNet w v) : Calls Try.prog 19 #[v] w fun e w' => e = .returned (.int .i64 0) ∧ w' = w := by
  rcases h with rfl | ⟨p, rfl, c⟩
  · go_enter Try.func19, Try.ntmps19
    go_wp2
    go_ret
    exact ⟨rfl, rfl⟩
  · go_enter Try.func19, Try.ntmps19
    go_wp2
    go_ret
    exact ⟨rfl, rfl⟩
set_option maxHeartbeats 400000 in
theorem road_no {w : World} {v : Value} (h : NoNet w v) (x : Int) : Calls Try.prog 34 #[v, .int .i64 x] w fun e w' => e = .returned (.pointer none) ∧ w' = w := by
  have HP : Hid _ := paths_no h
  clear h
  by_cases hx : x < 0
  · have h1 : decide (x < 0) = true := by simpa using hx
    go_enter Try.func34, Try.ntmps34
    go_wp2_with (go_at_call 19; refine Calls.mono HP.out ?_; rintro e w' ⟨rfl, rfl⟩)
    go_ret
    exact ⟨rfl, rfl⟩
  · have h1 : decide (x < 0) = false := by simpa using hx
    have h2 : decide (x ≥ 0) = true := by simp; omega
    have h3 : decide (0 ≤ x) = true := by simp; omega
    go_enter Try.func34, Try.ntmps34
    go_wp2_with (go_at_call 19; refine Calls.mono HP.out ?_; rintro e w' ⟨rfl, rfl⟩)
    go_ret
    exact ⟨rfl, rfl⟩
set_option maxHeartbeats 400000 in
theorem bag_no {w : World} {v : Value} (h : NoNet w v) (x y : Int) : Calls Try.prog 23 #[v, .int .i64 x, .int .i64 y] w fun e w' => e = .returned (.tuple #[.pointer none, .int .i64 42]) ∧ w' = w := by
  have HP : Hid _ := road_no h x
  clear h
  go_enter Try.func23, Try.ntmps23
  go_wp2_with (go_at_call 34; refine Calls.mono HP.out ?_; rintro e w' ⟨rfl, rfl⟩)
  go_ret2
  exact ⟨rfl, rfl⟩
set_option maxHeartbeats 400000 in
theorem find_no {w : World} {v : Value} (h : NoNet w v) (x y z : Int) (b f : Value) : Calls Try.prog 27 #[v, .int .i64 x, .int .i64 y, .int .i64 z, b, f] w fun e w' => e = .returned (.int .i64 42) ∧ w' = w := by
  have HP : Hid _ := bag_no h x y
  clear h
  go_enter Try.func27, Try.ntmps27
  go_wp2_with (go_at_call 23; refine Calls.mono HP.out ?_; rintro e w' ⟨rfl, rfl⟩)
  go_ret
  exact ⟨rfl, rfl⟩
set_option maxHeartbeats 400000 in
theorem put_no {w : World} {v : Value} (h : NoNet w v) (x y : Int) (f : Value) : Calls Try.prog 10 #[v, .int .i64 x, .int .i64 y, f] w fun e w' => e = .returned (.tuple #[.bool false, .int .i64 42]) ∧ w' = w := by
  have HP : Hid _ := bag_no h x y
  clear h
  go_enter Try.func10, Try.ntmps10
  go_wp2_with (go_at_call 23; refine Calls.mono HP.out ?_; rintro e w' ⟨rfl, rfl⟩)
  go_ret2
  exact ⟨rfl, rfl⟩
set_option maxHeartbeats 400000 in
theorem set_no {w : World} {v : Value} (h : NoNet w v) (x : Int) (b : Value) : Calls Try.prog 18 #[v, .int .i64 x, b] w fun e w' => e = .returned (.int .i64 42) ∧ w' = w := by
  have HP : Hid _ := road_no h x
  clear h
  go_enter Try.func18, Try.ntmps18
  go_wp2_with (go_at_call 34; refine Calls.mono HP.out ?_; rintro e w' ⟨rfl, rfl⟩)
  go_ret
  exact ⟨rfl, rfl⟩
end Go.Proofs.Ytjnmfedefmemnaa
