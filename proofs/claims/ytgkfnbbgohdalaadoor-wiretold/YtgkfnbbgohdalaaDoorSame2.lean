import Derived.Test.YtgkfnbbgohdalaaDoorSame1
namespace Go.Proofs.YtgkfnbbgohdalaaDoor
open Go.RowKit
set_option maxRecDepth 100000

theorem lists_ne {f h : Fr} (hne : f ≠ h) (e1 : f.kind = h.kind) (e2 : f.path = h.path) (e3 : f.num = h.num) (e4 : f.off = h.off) (e5 : f.edge = h.edge) (e6 : f.token = h.token) (e7 : f.nonce = h.nonce) (e8 : f.backup = h.backup) (e9 : f.which = h.which) :
    ¬f.data = h.data ∨ f.data = h.data ∧ ¬f.mac = h.mac ∨ f.data = h.data ∧ f.mac = h.mac ∧ ¬f.ranges = h.ranges := by
  by_cases h1 : f.data = h.data
  · by_cases h2 : f.mac = h.mac
    · by_cases h3 : f.ranges = h.ranges
      · refine absurd ?_ hne
        obtain ⟨k1, p1, n1, o1, g1, data, ranges, t1, x1, mac, b1, w1⟩ := f
        obtain ⟨k2, p2, n2, o2, g2, data', ranges', t2, x2, mac', b2, w2⟩ := h
        simp only at e1 e2 e3 e4 e5 e6 e7 e8 e9 h1 h2 h3
        subst e1 e2 e3 e4 e5 e6 e7 e8 e9 h1 h2 h3
        rfl
      · exact .inr (.inr ⟨h1, h2, h3⟩)
    · exact .inr (.inl ⟨h1, h2⟩)
  · exact .inl h1

set_option maxHeartbeats 2000000 in
/-- Same of two frames whose numbers are the same, but not their lists. -/
theorem same_lists {w : World} {f h : Fr} {da ra ma da' ra' ma' : Option Addr} {dc rc mc dc' rc' mc' : Nat} {c c' : List Value} (hF : FrAt w c f da dc ra rc ma mc) (hH : FrAt w c' h da' dc' ra' rc' ma' mc')
    (e1 : h.kind = f.kind) (e2 : h.path = f.path) (e3 : h.num = f.num) (e4 : h.off = f.off) (e5 : h.edge = f.edge) (e6 : h.token = f.token) (e7 : h.nonce = f.nonce) (e8 : h.backup = f.backup) (e9 : h.which = f.which)
    (qd qm qr : Bool) (hqd : qd = decide (f.data = h.data)) (hqm : qm = decide (f.mac = h.mac)) (hqr : qr = decide (f.ranges = h.ranges)) (hq : qd = false ∨ qd = true ∧ qm = false ∨ qd = true ∧ qm = true ∧ qr = false) :
    Calls Tryd.prog 13 #[.agg c.toArray, .agg c'.toArray] w fun e w' => e = .returned (.bool false) ∧ Below w.heap.size w w' := by
  obtain ⟨rfl, hd, hr, hm, _, _, _, _, _, _, hdl, hrl, hml⟩ := hF
  obtain ⟨rfl, hd', hr', hm', _, _, _, _, _, _, hdl', hrl', hml'⟩ := hH
  have HD : Hid (∀ W, Below w.heap.size w W → Calls Tryd.prog 24 #[.slice da f.data.length dc, .slice da' h.data.length dc'] W fun e w' => e = .returned (.bool qd) ∧ w' = W) := fun W hb => by rw [hqd]; exact sameB_any (hd.kept hb) rfl (hd'.kept hb) rfl
  have HM : Hid (∀ W, Below w.heap.size w W → Calls Tryd.prog 24 #[.slice ma f.mac.length mc, .slice ma' h.mac.length mc'] W fun e w' => e = .returned (.bool qm) ∧ w' = W) := fun W hb => by rw [hqm]; exact sameB_any (hm.kept hb) rfl (hm'.kept hb) rfl
  have HR : Hid (∀ W, Below w.heap.size w W → Calls Tryd.prog 25 #[.slice ra f.ranges.length rc, .slice ra' h.ranges.length rc'] W fun e w' => e = .returned (.bool qr) ∧ Below W.heap.size W w') := fun W hb => by rw [hqr]; exact sameR_any (hr.kept hb) rfl (hr'.kept hb) rfl hrl hrl'
  have HCC : Hid (fcells h (.slice da' h.data.length dc') (.slice ra' h.ranges.length rc') (.slice ma' h.mac.length mc') = fcells f (.slice da' h.data.length dc') (.slice ra' h.ranges.length rc') (.slice ma' h.mac.length mc')) := by
    show _ = _; simp only [fcells, e1, e2, e3, e4, e5, e6, e7, e8, e9]
  clear hd hr hm hd' hr' hm' hdl hrl hml hdl' hrl' hml' hqd hqm hqr e1 e2 e3 e4 e5 e6 e7 e8 e9
  rw [HCC.out]
  obtain ⟨ld, hld⟩ : ∃ x, x = f.data.length := ⟨_, rfl⟩
  obtain ⟨lr, hlr⟩ : ∃ x, x = f.ranges.length := ⟨_, rfl⟩
  obtain ⟨lm, hlm⟩ : ∃ x, x = f.mac.length := ⟨_, rfl⟩
  obtain ⟨ld', hld'⟩ : ∃ x, x = h.data.length := ⟨_, rfl⟩
  obtain ⟨lr', hlr'⟩ : ∃ x, x = h.ranges.length := ⟨_, rfl⟩
  obtain ⟨lm', hlm'⟩ : ∃ x, x = h.mac.length := ⟨_, rfl⟩
  rw [← hld, ← hlr, ← hlm, ← hld', ← hlr', ← hlm']
  rw [← hld, ← hld'] at HD
  rw [← hlr, ← hlr'] at HR
  rw [← hlm, ← hlm'] at HM
  clear hld hlr hlm hld' hlr' hlm' HCC
  go_enter Tryd.func13, Tryd.ntmps13
  go_upto_region 1 with (fail)
  refine wp_world fun W0 HW => ?_
  have HQ0 : Hid (Row W0 w.heap.size (fcells f (.slice da ld dc) (.slice ra lr rc) (.slice ma lm mc)) 27) := by show Row _ _ _ _; rw [HW.out]; exact (Row.new' _ _ _ _ _ rfl rfl).alloc _
  have HP0 : Hid (Row W0 (w.heap.size + 1) (fcells f (.slice da' ld' dc') (.slice ra' lr' rc') (.slice ma' lm' mc')) 27) := by show Row _ _ _ _; rw [HW.out]; exact Row.new' _ _ _ _ _ (by simp) rfl
  have HB0 : Hid (Below w.heap.size w W0) := by show Below _ _ _; rw [HW.out]; exact ((Below.refl _ _).alloc (Nat.le_refl _) _).alloc (by simp) _
  clear HW
  obtain ⟨c0, c1, c2, c3, c4, c5, c6, c7, c8, c9, c10, c11⟩ := HQ0.out.fr
  obtain ⟨d0, d1, d2, d3, d4, d5, d6, d7, d8, d9, d10, d11⟩ := HP0.out.fr
  clear HQ0 HP0
  go_upto_region 3 with (fail)
  clear c0 c1 c2 c3 c4 c7 c8 c10 c11 d0 d1 d2 d3 d4 d7 d8 d10 d11
  rcases hq with rfl | ⟨rfl, rfl⟩ | ⟨rfl, rfl, rfl⟩
  · go_wp2_with (go_at_call 24; refine (HD.out _ HB0.out).mono ?_; rintro e w' ⟨rfl, rfl⟩)
    go_ret
    exact ⟨rfl, HB0.out⟩
  · go_wp2_with (first
      | (go_at_call_of 24 (Value.slice da ld dc); refine (HD.out _ HB0.out).mono ?_; rintro e w' ⟨rfl, rfl⟩)
      | (go_at_call 24; refine (HM.out _ HB0.out).mono ?_; rintro e w' ⟨rfl, rfl⟩))
    go_ret
    exact ⟨rfl, HB0.out⟩
  · go_wp2_with (first
      | (go_at_call_of 24 (Value.slice da ld dc); refine (HD.out _ HB0.out).mono ?_; rintro e w' ⟨rfl, rfl⟩)
      | (go_at_call 24; refine (HM.out _ HB0.out).mono ?_; rintro e w' ⟨rfl, rfl⟩)
      | (go_at_call 25; refine (HR.out _ HB0.out).mono ?_; rintro e w1 ⟨rfl, hb⟩; have HB1 : Hid _ := hb; clear hb))
    go_ret
    exact ⟨rfl, HB0.out.trans (HB1.out.mono HB0.out.size)⟩

set_option maxHeartbeats 2000000 in
/-- Same of two frames whose numbers are not the same. -/
theorem same_numbers {w : World} {f h : Fr} {sd sr sm sd' sr' sm' : Value} (hne : ¬(f.kind = h.kind ∧ f.path = h.path ∧ f.num = h.num ∧ f.off = h.off ∧ f.edge = h.edge ∧ f.token = h.token ∧ f.nonce = h.nonce ∧ f.backup = h.backup ∧ f.which = h.which)) :
    Calls Tryd.prog 13 #[.agg (fcells f sd sr sm).toArray, .agg (fcells h sd' sr' sm').toArray] w fun e w' => e = .returned (.bool false) ∧ Below w.heap.size w w' := by
  have HNE : Hid _ := hne
  clear hne
  go_enter Tryd.func13, Tryd.ntmps13
  go_upto_region 1 with (fail)
  refine wp_world fun W0 HW => ?_
  have HQ0 : Hid (Row W0 w.heap.size (fcells f sd sr sm) 27) := by show Row _ _ _ _; rw [HW.out]; exact (Row.new' _ _ _ _ _ rfl rfl).alloc _
  have HP0 : Hid (Row W0 (w.heap.size + 1) (fcells h sd' sr' sm') 27) := by show Row _ _ _ _; rw [HW.out]; exact Row.new' _ _ _ _ _ (by simp) rfl
  have HB0 : Hid (Below w.heap.size w W0) := by show Below _ _ _; rw [HW.out]; exact ((Below.refl _ _).alloc (Nat.le_refl _) _).alloc (by simp) _
  clear HW
  obtain ⟨c0, c1, c2, c3, c4, c5, c6, c7, c8, c9, c10, c11⟩ := HQ0.out.fr
  obtain ⟨d0, d1, d2, d3, d4, d5, d6, d7, d8, d9, d10, d11⟩ := HP0.out.fr
  clear HQ0 HP0 c5 c6 c9 d5 d6 d9
  go_upto_region 3 with (fail)
  all_goals first
    | (go_ret; exact ⟨rfl, HB0.out⟩)
    | (exfalso; exact HNE.out ⟨by first | assumption | omega, by first | assumption | omega, by omega, by omega, by omega, by omega, by omega, by first | assumption | simp_all, by simpa using ‹(f.which != h.which) = false›⟩)
/-- Same. -/
theorem same_ne {w : World} {f h : Fr} {da ra ma da' ra' ma' : Option Addr} {dc rc mc dc' rc' mc' : Nat} {c c' : List Value} (hF : FrAt w c f da dc ra rc ma mc) (hH : FrAt w c' h da' dc' ra' rc' ma' mc') (hne : f ≠ h) :
    Calls Tryd.prog 13 #[.agg c.toArray, .agg c'.toArray] w fun e w' => e = .returned (.bool false) ∧ Below w.heap.size w w' := by
  by_cases hn : f.kind = h.kind ∧ f.path = h.path ∧ f.num = h.num ∧ f.off = h.off ∧ f.edge = h.edge ∧ f.token = h.token ∧ f.nonce = h.nonce ∧ f.backup = h.backup ∧ f.which = h.which
  · obtain ⟨e1, e2, e3, e4, e5, e6, e7, e8, e9⟩ := hn
    refine same_lists hF hH e1.symm e2.symm e3.symm e4.symm e5.symm e6.symm e7.symm e8.symm e9.symm _ _ _ rfl rfl rfl ?_
    rcases lists_ne hne e1 e2 e3 e4 e5 e6 e7 e8 e9 with h1 | ⟨h1, h2⟩ | ⟨h1, h2, h3⟩
    · exact .inl (decide_eq_false h1)
    · exact .inr (.inl ⟨decide_eq_true h1, decide_eq_false h2⟩)
    · exact .inr (.inr ⟨decide_eq_true h1, decide_eq_true h2, decide_eq_false h3⟩)
  · rw [hF.cells, hH.cells]
    exact same_numbers hn
end Go.Proofs.YtgkfnbbgohdalaaDoor
