import Derived.Test.YtgkfnbbgohdalaaDoorFr2
namespace Go.Proofs.YtgkfnbbgohdalaaDoor
open Go.RowKit
set_option maxRecDepth 100000

open Classical in
set_option maxHeartbeats 8000000 in
theorem bounded_any {w : World} {f : Fr} {da ra ma : Option Addr} {dc rc mc : Nat} (h : known f.kind) (hd : f.data.length ≤ 281474976710656) (hr : f.ranges.length ≤ 281474976710656) (hA : RangesAt w ra f.ranges) :
    Calls Tryd.prog 26 #[.agg (fcells f (.slice da f.data.length dc) (.slice ra f.ranges.length rc) (.slice ma f.mac.length mc)).toArray] w fun e w' =>
      e = .returned (.bool (decide (bounded f))) ∧ Below w.heap.size w w' := by
  obtain ⟨kind, path, num, off, edge, data, ranges, token, nonce, mac, backup, which⟩ := f
  have hk := kinds h
  simp only at hk hd hr hA
  have HAL : Hid (∀ w', Below w.heap.size w w' → ranges.length ≤ 1048576 → Calls Tryd.prog 41 #[.slice ra ranges.length rc] w' fun e w'' => e = .returned (.bool (decide (apart ranges))) ∧ Below w'.heap.size w' w'') :=
    fun w' hb hl => apart_any (hA.kept hb) rfl hl
  clear h hA
  generalize hdl : data.length = dl at *
  generalize hrl : ranges.length = rl at *
  generalize hml : mac.length = ml at *
  have d1 : (dl : Int) ≤ 281474976710656 := by omega
  have d2 : (rl : Int) ≤ 281474976710656 := by omega
  rcases hk with rfl | rfl | rfl | rfl | rfl | rfl | rfl | rfl | rfl | rfl | rfl
  all_goals simp (config := { decide := true }) only [bounded, if_true, if_false, fcells, hdl, hrl, hml]
  all_goals
    go_enter Tryd.func26, Tryd.ntmps26
    go_wp2_with (go_at_call 41; refine (HAL.out _ ((Below.refl _ _).alloc (Nat.le_refl _) _) (by omega)).mono ?_; rintro e w1 ⟨rfl, hb1⟩)
  all_goals go_ret
  all_goals refine ⟨congrArg (fun b => Ending.returned (Value.bool b)) (show _ = _ from ?_), ?_⟩
  all_goals try first
    | exact (Below.refl _ _).alloc (Nat.le_refl _) _
    | exact (((Below.refl _ _).alloc (Nat.le_refl _) _).trans (hb1.mono (by simp)))
  all_goals rw [Bool.eq_iff_iff]
  all_goals simp only [decide_eq_true_eq, Bool.and_eq_true, beq_iff_eq, Bool.false_eq_true, false_iff]
  all_goals first
    | omega
    | exact ⟨fun h => ⟨by omega, by omega, h⟩, fun h => h.2.2⟩
    | (rintro ⟨h1, h2, _⟩; omega)
end Go.Proofs.YtgkfnbbgohdalaaDoor
