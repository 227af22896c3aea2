import Derived.Test.YtgkfnbbgohdalaaDoorRef5
namespace Go.Proofs.YtgkfnbbgohdalaaDoor
open Go.RowKit
set_option maxRecDepth 100000
open Classical in
set_option maxHeartbeats 8000000 in
theorem within_any {w : World} {f : Fr} {da ra ma : Option Addr} {dc rc mc : Nat} (h : known f.kind) (hd : f.data.length ≤ 281474976710656) (hr : f.ranges.length ≤ 281474976710656) (hof : f.off < 18446744073709551616) (hA : RangesAt w ra f.ranges) :
    Calls Tryd.prog 23 #[.agg (fcells f (.slice da f.data.length dc) (.slice ra f.ranges.length rc) (.slice ma f.mac.length mc)).toArray] w fun e w' =>
      e = .returned (.bool (decide (within f))) ∧ Below w.heap.size w w' := by
  obtain ⟨kind, path, num, off, edge, data, ranges, token, nonce, mac, backup, which⟩ := f
  have hk := kinds h
  simp only at hk hd hr hA hof
  have HAL : Hid (∀ w', Below w.heap.size w w' → Calls Tryd.prog 40 #[.slice ra ranges.length rc] w' fun e w'' => e = .returned (.bool (decide (1 ≤ ranges.length ∧ ranges.length ≤ 8 ∧ apart ranges))) ∧ Below w'.heap.size w' w'') :=
    fun w' hb => sound_any (hA.kept hb) rfl hr
  clear h hA
  generalize hdl : data.length = dl at *
  generalize hrl : ranges.length = rl at *
  generalize hml : mac.length = ml at *
  have d1 : (dl : Int) ≤ 281474976710656 := by omega
  have d2 : (off : Int) ≤ 18446744073709551615 := by omega
  have s5 : IntKind.u64.wrap (dl : Int) = (dl : Int) := by rw [IntKind.wrap_u64]; omega
  rcases hk with rfl | rfl | rfl | rfl | rfl | rfl | rfl | rfl | rfl | rfl | rfl
  all_goals simp (config := { decide := true }) only [within, if_true, if_false, fcells, hdl, hrl, hml]
  all_goals
    go_enter Tryd.func23, Tryd.ntmps23
    go_wp2_with (go_at_call 40; refine (HAL.out _ ((Below.refl _ _).alloc (Nat.le_refl _) _)).mono ?_; rintro e w1 ⟨rfl, hb1⟩)
  all_goals go_ret
  all_goals refine ⟨congrArg (fun b => Ending.returned (Value.bool b)) (show _ = _ from ?_), ?_⟩
  all_goals try first
    | exact (Below.refl _ _).alloc (Nat.le_refl _) _
    | exact (((Below.refl _ _).alloc (Nat.le_refl _) _).trans (hb1.mono (by simp)))
  all_goals rw [Bool.eq_iff_iff]
  all_goals simp only [decide_eq_true_eq, Bool.and_eq_true, beq_iff_eq, Bool.false_eq_true, false_iff, true_iff]
  all_goals first
    | omega
    | exact ⟨by omega, by omega, by omega, trivial⟩
    | exact ⟨fun h => ⟨by omega, by omega, by omega, h⟩, fun h => h.2.2.2⟩
    | (rintro ⟨h1, h2, h3, _⟩; omega)
end Go.Proofs.YtgkfnbbgohdalaaDoor
