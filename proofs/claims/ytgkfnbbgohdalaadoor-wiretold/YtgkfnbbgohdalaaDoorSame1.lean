import Derived.Test.YtgkfnbbgohdalaaDoorSame0
namespace Go.Proofs.YtgkfnbbgohdalaaDoor
open Go.RowKit
set_option maxRecDepth 100000

set_option maxHeartbeats 1000000 in
/-- Same of two frames that are the same. -/
theorem same_eq {w : World} {f : Fr} {da ra ma da' ra' ma' : Option Addr} {dc rc mc dc' rc' mc' : Nat} {c c' : List Value} (hF : FrAt w c f da dc ra rc ma mc) (hH : FrAt w c' f da' dc' ra' rc' ma' mc') :
    Calls Tryd.prog 13 #[.agg c.toArray, .agg c'.toArray] w fun e w' => e = .returned (.bool true) ∧ Below w.heap.size w w' := by
  obtain ⟨rfl, hd, hr, hm, _, _, _, _, _, _, hdl, hrl, hml⟩ := hF
  obtain ⟨rfl, hd', hr', hm', _, _, _, _, _, _, hdl', hrl', hml'⟩ := hH
  have HD : Hid (∀ W, Below w.heap.size w W → Calls Tryd.prog 24 #[.slice da f.data.length dc, .slice da' f.data.length dc'] W fun e w' => e = .returned (.bool true) ∧ w' = W) := fun W hb => by
    have := sameB_any (c := dc) (d := dc') (hd.kept hb) rfl (hd'.kept hb) rfl
    rw [decide_eq_true rfl] at this; exact this
  have HM : Hid (∀ W, Below w.heap.size w W → Calls Tryd.prog 24 #[.slice ma f.mac.length mc, .slice ma' f.mac.length mc'] W fun e w' => e = .returned (.bool true) ∧ w' = W) := fun W hb => by
    have := sameB_any (c := mc) (d := mc') (hm.kept hb) rfl (hm'.kept hb) rfl
    rw [decide_eq_true rfl] at this; exact this
  have HR : Hid (∀ W, Below w.heap.size w W → Calls Tryd.prog 25 #[.slice ra f.ranges.length rc, .slice ra' f.ranges.length rc'] W fun e w' => e = .returned (.bool true) ∧ Below W.heap.size W w') := fun W hb => by
    have := sameR_any (c := rc) (d := rc') (hr.kept hb) rfl (hr'.kept hb) rfl hrl hrl'
    rw [decide_eq_true rfl] at this; exact this
  clear hd hr hm hd' hr' hm' hdl hrl hml hdl' hrl' hml'
  go_enter Tryd.func13, Tryd.ntmps13
  go_upto_region 1 with (fail)
  refine wp_world fun W0 HW => ?_
  have HQ0 : Hid (Row W0 w.heap.size (fcells f (.slice da f.data.length dc) (.slice ra f.ranges.length rc) (.slice ma f.mac.length mc)) 27) := by show Row _ _ _ _; rw [HW.out]; exact (Row.new' _ _ _ _ _ rfl rfl).alloc _
  have HP0 : Hid (Row W0 (w.heap.size + 1) (fcells f (.slice da' f.data.length dc') (.slice ra' f.ranges.length rc') (.slice ma' f.mac.length mc')) 27) := by show Row _ _ _ _; rw [HW.out]; exact Row.new' _ _ _ _ _ (by simp) rfl
  have HB0 : Hid (Below w.heap.size w W0) := by show Below _ _ _; rw [HW.out]; exact ((Below.refl _ _).alloc (Nat.le_refl _) _).alloc (by simp) _
  clear HW
  obtain ⟨c0, c1, c2, c3, c4, c5, c6, c7, c8, c9, c10, c11⟩ := HQ0.out.fr
  obtain ⟨d0, d1, d2, d3, d4, d5, d6, d7, d8, d9, d10, d11⟩ := HP0.out.fr
  clear HQ0 HP0
  go_upto_region 3 with (fail)
  obtain ⟨ld, hld⟩ : ∃ x, x = f.data.length := ⟨_, rfl⟩
  obtain ⟨lr, hlr⟩ : ∃ x, x = f.ranges.length := ⟨_, rfl⟩
  obtain ⟨lm, hlm⟩ : ∃ x, x = f.mac.length := ⟨_, rfl⟩
  rw [← hld] at c5 d5 HD
  rw [← hlr] at c6 d6 HR
  rw [← hlm] at c9 d9 HM
  clear hld hlr hlm c0 c1 c2 c3 c4 c7 c8 c10 c11 d0 d1 d2 d3 d4 d7 d8 d10 d11
  go_wp2_with (first
    | (go_at_call_of 24 (Value.slice da ld dc); refine (HD.out _ HB0.out).mono ?_; rintro e w' ⟨rfl, rfl⟩)
    | (go_at_call 24; refine (HM.out _ HB0.out).mono ?_; rintro e w' ⟨rfl, rfl⟩)
    | (go_at_call 25; refine (HR.out _ HB0.out).mono ?_; rintro e w1 ⟨rfl, hb⟩; have HB1 : Hid _ := hb; clear hb))
  go_ret
  exact ⟨rfl, HB0.out.trans (HB1.out.mono HB0.out.size)⟩
end Go.Proofs.YtgkfnbbgohdalaaDoor
