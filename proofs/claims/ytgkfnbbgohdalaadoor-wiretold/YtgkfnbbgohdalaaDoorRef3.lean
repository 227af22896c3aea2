import Derived.Test.YtgkfnbbgohdalaaDoorRef1
namespace Go.Proofs.YtgkfnbbgohdalaaDoor
open Go.RowKit
set_option maxRecDepth 100000

set_option maxHeartbeats 4000000 in
theorem within_yes {w : World} {f : Fr} {da ra ma : Option Addr} {dc rc mc : Nat} (h : known f.kind) (hw : within f) (hd : f.data.length ≤ 281474976710656) (hA : RangesAt w ra f.ranges) :
    Calls Tryd.prog 23 #[.agg (fcells f (.slice da f.data.length dc) (.slice ra f.ranges.length rc) (.slice ma f.mac.length mc)).toArray] w fun e w' =>
      e = .returned (.bool true) ∧ Below w.heap.size w w' := by
  obtain ⟨kind, path, num, off, edge, data, ranges, token, nonce, mac, backup, which⟩ := f
  have hk := kinds h
  simp only [within] at hk hd hA hw
  have HAL : Hid (∀ w', Below w.heap.size w w' → 1 ≤ ranges.length → ranges.length ≤ 8 → apart ranges → Calls Tryd.prog 40 #[.slice ra ranges.length rc] w' fun e w'' => e = .returned (.bool true) ∧ Below w'.heap.size w' w'') :=
    fun w' hb h1 h2 h3 => sound_yes (hA.kept hb) rfl h1 h2 h3
  clear h hA
  generalize hdl : data.length = dl at *
  generalize hrl : ranges.length = rl at *
  generalize hml : mac.length = ml at *
  obtain ⟨p0, p8, hnum, hrest⟩ := hw
  have d1 : (dl : Int) ≤ 281474976710656 := by omega
  have q1 : (num : Int) ≤ 4611686018427387904 := by omega
  have q2 : decide (path < 0) = false := decide_eq_false (by omega)
  have q3 : decide (8 ≤ path) = false := decide_eq_false (by omega)
  clear hdl hrl hml hnum hd
  rcases hk with rfl | rfl | rfl | rfl | rfl | rfl | rfl | rfl | rfl | rfl | rfl
  all_goals simp (config := { decide := true }) only [if_true, if_false] at hrest
  all_goals simp only [fcells]
  · obtain ⟨r1, r2, r3, r4⟩ := hrest
    have s1 : (1 : Int) ≤ (dl : Int) := by omega
    have s2 : (dl : Int) ≤ 1024 := by omega
    have s3 : (off : Int) ≤ 4611686018427387904 := by omega
    have s4 : (off : Int) + (dl : Int) ≤ 4611686018427387904 := by omega
    have s5 : IntKind.u64.wrap (dl : Int) = (dl : Int) := by rw [IntKind.wrap_u64]; omega
    have s6 : IntKind.u64.wrap ((off : Int) + (dl : Int)) = (off : Int) + (dl : Int) := by rw [IntKind.wrap_u64]; omega
    clear r1 r2 r3 r4
    go_enter Tryd.func23, Tryd.ntmps23
    go_wp2
    go_ret
    exact ⟨by first | rfl | simp, (Below.refl _ _).alloc (Nat.le_refl _) _⟩
  · have s1 : (off : Int) ≤ 4611686018427387904 := by omega
    go_enter Tryd.func23, Tryd.ntmps23
    go_wp2
    go_ret
    exact ⟨by first | rfl | simp, (Below.refl _ _).alloc (Nat.le_refl _) _⟩
  · go_enter Tryd.func23, Tryd.ntmps23
    go_wp2
    go_ret
    exact ⟨rfl, (Below.refl _ _).alloc (Nat.le_refl _) _⟩
  · obtain ⟨r1, r2, r3⟩ := hrest
    have HAL2 : Hid _ := fun w' hb => HAL.out w' hb r1 r2 r3
    clear HAL r1 r2 r3
    go_enter Tryd.func23, Tryd.ntmps23
    go_wp2_with (go_at_call 40; refine (HAL2.out _ ((Below.refl _ _).alloc (Nat.le_refl _) _)).mono ?_; rintro e w1 ⟨rfl, hb⟩; have HB1 : Hid _ := hb; clear hb)
    go_ret
    exact ⟨rfl, ((Below.refl _ _).alloc (Nat.le_refl _) _).trans (HB1.out.mono (by simp))⟩
  · have s1 : (off : Int) ≤ 4611686018427387905 := by omega
    have s2 : (edge : Int) ≤ 9223372036854775808 := by omega
    go_enter Tryd.func23, Tryd.ntmps23
    go_wp2
    go_ret
    exact ⟨by first | rfl | simp, (Below.refl _ _).alloc (Nat.le_refl _) _⟩
  · go_enter Tryd.func23, Tryd.ntmps23
    go_wp2
    go_ret
    exact ⟨rfl, (Below.refl _ _).alloc (Nat.le_refl _) _⟩
  · go_enter Tryd.func23, Tryd.ntmps23
    go_wp2
    go_ret
    exact ⟨rfl, (Below.refl _ _).alloc (Nat.le_refl _) _⟩
  · have s1 : (ml : Int) = 8 := by omega
    go_enter Tryd.func23, Tryd.ntmps23
    go_wp2
    go_ret
    exact ⟨by first | rfl | simp, (Below.refl _ _).alloc (Nat.le_refl _) _⟩
  · have s1 : (ml : Int) = 20 := by omega
    go_enter Tryd.func23, Tryd.ntmps23
    go_wp2
    go_ret
    exact ⟨by first | rfl | simp, (Below.refl _ _).alloc (Nat.le_refl _) _⟩
  · go_enter Tryd.func23, Tryd.ntmps23
    go_wp2
    go_ret
    exact ⟨rfl, (Below.refl _ _).alloc (Nat.le_refl _) _⟩
  · obtain ⟨r1, r2⟩ := hrest
    go_enter Tryd.func23, Tryd.ntmps23
    go_wp2
    go_ret
    exact ⟨by first | rfl | simp, (Below.refl _ _).alloc (Nat.le_refl _) _⟩
end Go.Proofs.YtgkfnbbgohdalaaDoor
