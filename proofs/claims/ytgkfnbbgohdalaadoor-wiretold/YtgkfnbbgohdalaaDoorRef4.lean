import Derived.Test.YtgkfnbbgohdalaaDoorRef3
import Derived.Test.YtgkfnbbgohdalaaDoorSame1
import Derived.Test.YtgkfnbbgohdalaaDoorOn1
import Derived.Test.YtgkfnbbgohdalaaDoorOn2
import Derived.Test.YtgkfnbbgohdalaaDoorOn3
import Derived.Test.YtgkfnbbgohdalaaDoorOn4
import Derived.Lib.QuietBelow
namespace Go.Proofs.YtgkfnbbgohdalaaDoor
open Go.RowKit Go.Sort
set_option maxRecDepth 100000

theorem fitx_data {f : Fr} (h : fit f) (hk : f.kind ≠ 1) : f.data = [] := by
  obtain ⟨hkn, _, _, _, hs⟩ := h
  rcases kinds hkn with e | e | e | e | e | e | e | e | e | e | e <;> simp [strip, blank, e] at hs hk ⊢ <;> simp_all
theorem fitx_ranges {f : Fr} (h : fit f) (hk : f.kind ≠ 4) : f.ranges = [] := by
  obtain ⟨hkn, _, _, _, hs⟩ := h
  rcases kinds hkn with e | e | e | e | e | e | e | e | e | e | e <;> simp [strip, blank, e] at hs hk ⊢ <;> simp_all
theorem fitx_mac {f : Fr} (h : fit f) (hk : f.kind ≠ 8) (hk9 : f.kind ≠ 9) : f.mac = [] := by
  obtain ⟨hkn, _, _, _, hs⟩ := h
  rcases kinds hkn with e | e | e | e | e | e | e | e | e | e | e <;> simp [strip, blank, e] at hs hk hk9 ⊢ <;> simp_all

/-- What only gives of a fit frame: itself, in other cells. -/
structure OnlyFit (f : Fr) (da : Option Addr) (dc : Nat) (ra : Option Addr) (rc : Nat) (ma : Option Addr) (mc : Nat) (da' : Option Addr) (dc' : Nat) (ra' : Option Addr) (rc' : Nat) (ma' : Option Addr) (mc' : Nat) : Prop where
  call : ∀ W, Calls Tryd.prog 22 #[.agg (fcells f (.slice da f.data.length dc) (.slice ra f.ranges.length rc) (.slice ma f.mac.length mc)).toArray] W fun e w' => e = .returned (.agg (fcells f (.slice da' f.data.length dc') (.slice ra' f.ranges.length rc') (.slice ma' f.mac.length mc')).toArray) ∧ Below W.heap.size W w'
  data : da' = da ∨ f.data = []
  ranges : ra' = ra ∨ f.ranges = []
  mac : ma' = ma ∨ f.mac = []
theorem only_fit {f : Fr} (hf : fit f) (da : Option Addr) (dc : Nat) (ra : Option Addr) (rc : Nat) (ma : Option Addr) (mc : Nat) : ∃ da' dc' ra' rc' ma' mc', OnlyFit f da dc ra rc ma mc da' dc' ra' rc' ma' mc' := by
  have ho : only f = f := ((fit_ref f).1 hf).2.1.symm
  rcases kinds hf.1 with e | e | e | e | e | e | e | e | e | e | e
  · have h2 := fitx_ranges hf (by rw [e]; decide)
    have h3 := fitx_mac hf (by rw [e]; decide) (by rw [e]; decide)
    refine ⟨da, dc, none, 0, none, 0, ⟨fun W => ?_, .inl rfl, .inr h2, .inr h3⟩⟩
    have := only_1 (w := W) (da := da) (dc := dc) (ra := ra) (rc := rc) (ma := ma) (mc := mc) (dl := f.data.length) (rl := f.ranges.length) (ml := f.mac.length) e
    rw [ho] at this
    have e2 : f.ranges.length = 0 := by rw [h2]; rfl
    have e3 : f.mac.length = 0 := by rw [h3]; rfl
    rw [e2, e3] at this ⊢
    exact this
  · have h1 := fitx_data hf (by rw [e]; decide)
    have h2 := fitx_ranges hf (by rw [e]; decide)
    have h3 := fitx_mac hf (by rw [e]; decide) (by rw [e]; decide)
    refine ⟨none, 0, none, 0, none, 0, ⟨fun W => ?_, .inr h1, .inr h2, .inr h3⟩⟩
    have := only_2 (w := W) (da := da) (dc := dc) (ra := ra) (rc := rc) (ma := ma) (mc := mc) (dl := f.data.length) (rl := f.ranges.length) (ml := f.mac.length) e
    rw [ho] at this
    have e1 : f.data.length = 0 := by rw [h1]; rfl
    have e2 : f.ranges.length = 0 := by rw [h2]; rfl
    have e3 : f.mac.length = 0 := by rw [h3]; rfl
    rw [e1, e2, e3] at this ⊢
    exact this
  · have h1 := fitx_data hf (by rw [e]; decide)
    have h2 := fitx_ranges hf (by rw [e]; decide)
    have h3 := fitx_mac hf (by rw [e]; decide) (by rw [e]; decide)
    refine ⟨none, 0, none, 0, none, 0, ⟨fun W => ?_, .inr h1, .inr h2, .inr h3⟩⟩
    have := only_3 (w := W) (da := da) (dc := dc) (ra := ra) (rc := rc) (ma := ma) (mc := mc) (dl := f.data.length) (rl := f.ranges.length) (ml := f.mac.length) e
    rw [ho] at this
    have e1 : f.data.length = 0 := by rw [h1]; rfl
    have e2 : f.ranges.length = 0 := by rw [h2]; rfl
    have e3 : f.mac.length = 0 := by rw [h3]; rfl
    rw [e1, e2, e3] at this ⊢
    exact this
  · have h1 := fitx_data hf (by rw [e]; decide)
    have h3 := fitx_mac hf (by rw [e]; decide) (by rw [e]; decide)
    refine ⟨none, 0, ra, rc, none, 0, ⟨fun W => ?_, .inr h1, .inl rfl, .inr h3⟩⟩
    have := only_4 (w := W) (da := da) (dc := dc) (ra := ra) (rc := rc) (ma := ma) (mc := mc) (dl := f.data.length) (rl := f.ranges.length) (ml := f.mac.length) e
    rw [ho] at this
    have e1 : f.data.length = 0 := by rw [h1]; rfl
    have e3 : f.mac.length = 0 := by rw [h3]; rfl
    rw [e1, e3] at this ⊢
    exact this
  · have h1 := fitx_data hf (by rw [e]; decide)
    have h2 := fitx_ranges hf (by rw [e]; decide)
    have h3 := fitx_mac hf (by rw [e]; decide) (by rw [e]; decide)
    refine ⟨none, 0, none, 0, none, 0, ⟨fun W => ?_, .inr h1, .inr h2, .inr h3⟩⟩
    have := only_5 (w := W) (da := da) (dc := dc) (ra := ra) (rc := rc) (ma := ma) (mc := mc) (dl := f.data.length) (rl := f.ranges.length) (ml := f.mac.length) e
    rw [ho] at this
    have e1 : f.data.length = 0 := by rw [h1]; rfl
    have e2 : f.ranges.length = 0 := by rw [h2]; rfl
    have e3 : f.mac.length = 0 := by rw [h3]; rfl
    rw [e1, e2, e3] at this ⊢
    exact this
  · have h1 := fitx_data hf (by rw [e]; decide)
    have h2 := fitx_ranges hf (by rw [e]; decide)
    have h3 := fitx_mac hf (by rw [e]; decide) (by rw [e]; decide)
    refine ⟨none, 0, none, 0, none, 0, ⟨fun W => ?_, .inr h1, .inr h2, .inr h3⟩⟩
    have := only_6 (w := W) (da := da) (dc := dc) (ra := ra) (rc := rc) (ma := ma) (mc := mc) (dl := f.data.length) (rl := f.ranges.length) (ml := f.mac.length) e
    rw [ho] at this
    have e1 : f.data.length = 0 := by rw [h1]; rfl
    have e2 : f.ranges.length = 0 := by rw [h2]; rfl
    have e3 : f.mac.length = 0 := by rw [h3]; rfl
    rw [e1, e2, e3] at this ⊢
    exact this
  · have h1 := fitx_data hf (by rw [e]; decide)
    have h2 := fitx_ranges hf (by rw [e]; decide)
    have h3 := fitx_mac hf (by rw [e]; decide) (by rw [e]; decide)
    refine ⟨none, 0, none, 0, none, 0, ⟨fun W => ?_, .inr h1, .inr h2, .inr h3⟩⟩
    have := only_7 (w := W) (da := da) (dc := dc) (ra := ra) (rc := rc) (ma := ma) (mc := mc) (dl := f.data.length) (rl := f.ranges.length) (ml := f.mac.length) e
    rw [ho] at this
    have e1 : f.data.length = 0 := by rw [h1]; rfl
    have e2 : f.ranges.length = 0 := by rw [h2]; rfl
    have e3 : f.mac.length = 0 := by rw [h3]; rfl
    rw [e1, e2, e3] at this ⊢
    exact this
  · have h1 := fitx_data hf (by rw [e]; decide)
    have h2 := fitx_ranges hf (by rw [e]; decide)
    refine ⟨none, 0, none, 0, ma, mc, ⟨fun W => ?_, .inr h1, .inr h2, .inl rfl⟩⟩
    have := only_8 (w := W) (da := da) (dc := dc) (ra := ra) (rc := rc) (ma := ma) (mc := mc) (dl := f.data.length) (rl := f.ranges.length) (ml := f.mac.length) e
    rw [ho] at this
    have e1 : f.data.length = 0 := by rw [h1]; rfl
    have e2 : f.ranges.length = 0 := by rw [h2]; rfl
    rw [e1, e2] at this ⊢
    exact this
  · have h1 := fitx_data hf (by rw [e]; decide)
    have h2 := fitx_ranges hf (by rw [e]; decide)
    refine ⟨none, 0, none, 0, ma, mc, ⟨fun W => ?_, .inr h1, .inr h2, .inl rfl⟩⟩
    have := only_9 (w := W) (da := da) (dc := dc) (ra := ra) (rc := rc) (ma := ma) (mc := mc) (dl := f.data.length) (rl := f.ranges.length) (ml := f.mac.length) e
    rw [ho] at this
    have e1 : f.data.length = 0 := by rw [h1]; rfl
    have e2 : f.ranges.length = 0 := by rw [h2]; rfl
    rw [e1, e2] at this ⊢
    exact this
  · have h1 := fitx_data hf (by rw [e]; decide)
    have h2 := fitx_ranges hf (by rw [e]; decide)
    have h3 := fitx_mac hf (by rw [e]; decide) (by rw [e]; decide)
    refine ⟨none, 0, none, 0, none, 0, ⟨fun W => ?_, .inr h1, .inr h2, .inr h3⟩⟩
    have := only_10 (w := W) (da := da) (dc := dc) (ra := ra) (rc := rc) (ma := ma) (mc := mc) (dl := f.data.length) (rl := f.ranges.length) (ml := f.mac.length) e
    rw [ho] at this
    have e1 : f.data.length = 0 := by rw [h1]; rfl
    have e2 : f.ranges.length = 0 := by rw [h2]; rfl
    have e3 : f.mac.length = 0 := by rw [h3]; rfl
    rw [e1, e2, e3] at this ⊢
    exact this
  · have h1 := fitx_data hf (by rw [e]; decide)
    have h2 := fitx_ranges hf (by rw [e]; decide)
    have h3 := fitx_mac hf (by rw [e]; decide) (by rw [e]; decide)
    refine ⟨none, 0, none, 0, none, 0, ⟨fun W => ?_, .inr h1, .inr h2, .inr h3⟩⟩
    have := only_11 (w := W) (da := da) (dc := dc) (ra := ra) (rc := rc) (ma := ma) (mc := mc) (dl := f.data.length) (rl := f.ranges.length) (ml := f.mac.length) e
    rw [ho] at this
    have e1 : f.data.length = 0 := by rw [h1]; rfl
    have e2 : f.ranges.length = 0 := by rw [h2]; rfl
    have e3 : f.mac.length = 0 := by rw [h3]; rfl
    rw [e1, e2, e3] at this ⊢
    exact this

theorem OnlyFit.at {w : World} {f : Fr} {da ra ma da' ra' ma' : Option Addr} {dc rc mc dc' rc' mc' : Nat} {c : List Value} (h : OnlyFit f da dc ra rc ma mc da' dc' ra' rc' ma' mc') (hF : FrAt w c f da dc ra rc ma mc) :
    FrAt w (fcells f (.slice da' f.data.length dc') (.slice ra' f.ranges.length rc') (.slice ma' f.mac.length mc')) f da' dc' ra' rc' ma' mc' :=
  { hF with
    cells := rfl
    data := by rcases h.data with e | e; (· rw [e]; exact hF.data); (· intro k hk; rw [e] at hk; simp at hk)
    ranges := by rcases h.ranges with e | e; (· rw [e]; exact hF.ranges); (· intro k hk; rw [e] at hk; simp at hk)
    mac := by rcases h.mac with e | e; (· rw [e]; exact hF.mac); (· intro k hk; rw [e] at hk; simp at hk) }

set_option maxHeartbeats 2000000 in
/-- The document's Fit of a fit frame. -/
theorem rfit_yes {w : World} {f : Fr} {da ra ma : Option Addr} {dc rc mc : Nat} {c : List Value} (hF : FrAt w c f da dc ra rc ma mc) (hf : fit f) :
    Calls Tryd.prog 11 #[.agg c.toArray] w fun e w' => e = .returned (.bool true) ∧ Below w.heap.size w w' := by
  obtain ⟨da', dc', ra', rc', ma', mc', hO⟩ := only_fit hf da dc ra rc ma mc
  have hwi := ((fit_ref f).1 hf).2.2
  have HF : Hid (FrAt w c f da dc ra rc ma mc) := hF
  have HC : Hid (c = fcells f (.slice da f.data.length dc) (.slice ra f.ranges.length rc) (.slice ma f.mac.length mc)) := hF.cells
  obtain ⟨rfl, _⟩ := hF
  have H1 : Hid (∀ W d os, Below w.heap.size w W → Calls Tryd.prog 22 #[.agg (fcells f (.slice da f.data.length dc) (.slice ra f.ranges.length rc) (.slice ma f.mac.length mc)).toArray] (grow (redrawn W d) os) fun e w'' => e = .returned (.agg (fcells f (.slice da' f.data.length dc') (.slice ra' f.ranges.length rc') (.slice ma' f.mac.length mc')).toArray) ∧ ∃ p : Regrown, w'' = grow (redrawn W p.d) p.os) :=
    fun W d os hb => Calls.regrown_of (hO.call _)
  have H2 : Hid (∀ W d os, Below w.heap.size w W → Calls Tryd.prog 13 #[.agg (fcells f (.slice da f.data.length dc) (.slice ra f.ranges.length rc) (.slice ma f.mac.length mc)).toArray, .agg (fcells f (.slice da' f.data.length dc') (.slice ra' f.ranges.length rc') (.slice ma' f.mac.length mc')).toArray] (grow (redrawn W d) os) fun e w'' => e = .returned (.bool true) ∧ ∃ p : Regrown, w'' = grow (redrawn W p.d) p.os) :=
    fun W d os hb => Calls.regrown_of (same_eq ((HF.out.kept hb).kept (below_regrown W d os)) (hO.at ((HF.out.kept hb).kept (below_regrown W d os))))
  have H3 : Hid (∀ W, Below w.heap.size w W → Calls Tryd.prog 23 #[.agg (fcells f (.slice da f.data.length dc) (.slice ra f.ranges.length rc) (.slice ma f.mac.length mc)).toArray] W fun e w' => e = .returned (.bool true) ∧ Below W.heap.size W w') :=
    fun W hb => within_yes hf.1 hwi HF.out.dlen (HF.out.ranges.kept hb)
  have hk := hf.1
  have k1 : (1 : Int) ≤ f.kind := by unfold known at hk; omega
  have k2 : f.kind ≤ 11 := by unfold known at hk; omega
  have k3 : decide (f.kind < 1) = false := decide_eq_false (by omega)
  have k4 : decide (11 < f.kind) = false := decide_eq_false (by omega)
  clear hO hwi hf hk
  go_enter Tryd.func11, Tryd.ntmps11
  go_upto_region 1 with (fail)
  refine wp_world fun W0 HW => ?_
  have HQ0 : Hid (Row W0 w.heap.size (fcells f (.slice da f.data.length dc) (.slice ra f.ranges.length rc) (.slice ma f.mac.length mc)) 27) := by show Row _ _ _ _; rw [HW.out]; exact Row.new' _ _ _ _ _ rfl rfl
  have HB0 : Hid (Below w.heap.size w W0) := by show Below _ _ _; rw [HW.out]; exact (Below.refl _ _).alloc (Nat.le_refl _) _
  clear HW
  have c0 := cell_regrown (HQ0.out.cell 0 _ rfl)
  have c1 := cell_regrown (HQ0.out.cell 1 _ rfl)
  have c2 := cell_regrown (HQ0.out.cell 2 _ rfl)
  have c3 := cell_regrown (HQ0.out.cell 3 _ rfl)
  have c4 := cell_regrown (HQ0.out.cell 4 _ rfl)
  have c5 := cell_regrown (HQ0.out.cell 5 _ rfl)
  have c6 := cell_regrown (HQ0.out.cell 6 _ rfl)
  have c7 := cell_regrown (HQ0.out.cell 7 _ rfl)
  have c8 := cell_regrown (HQ0.out.cell 8 _ rfl)
  have c9 := cell_regrown (HQ0.out.cell 9 _ rfl)
  have c10 := cell_regrown (HQ0.out.cell 10 _ rfl)
  have c11 := cell_regrown (HQ0.out.cell 11 _ rfl)
  refine wp_region_quiet_below (by kernel_rfl) (by kernel_rfl) ?_
  repeat (quiet_step (first | (go_at_call 22; exact H1.out _ _ _ HB0.out) | (go_at_call 13; exact H2.out _ _ _ HB0.out)))
  refine wpQuiet_nil ?_
  intro _ hw'
  obtain ⟨⟨dq, osq⟩, hw''⟩ := hw'
  subst hw''
  clear c0 c1 c2 c3 c4 c5 c6 c7 c8 c9 c10 c11
  go_upto_region 3 with (fail)
  refine wp_world fun W1 HW => ?_
  have HQ1 : Hid (Row W1 w.heap.size (fcells f (.slice da f.data.length dc) (.slice ra f.ranges.length rc) (.slice ma f.mac.length mc)) 27) := by show Row _ _ _ _; rw [HW.out]; exact HQ0.out.kept (below_regrown W0 dq osq) HQ0.out.lt
  have HB1 : Hid (Below w.heap.size w W1) := by show Below _ _ _; rw [HW.out]; exact HB0.out.trans ((below_regrown W0 dq osq).mono HB0.out.size)
  clear HW
  go_wp2_with (first
    | (show wpList _ _ _ (Oper.mk (some 18) (.load 27 (.tmp 1)) _ _ _ _ :: _) _ _; refine HQ1.out.wpLoad 27 (.tmp 1) rfl rfl rfl _ Tryd.underlying27 rfl i27 ?_)
    | (go_at_call 23; refine (H3.out _ HB1.out).mono ?_; rintro e w2 ⟨rfl, hb⟩; have HB2 : Hid _ := hb; clear hb))
  go_ret
  exact ⟨rfl, HB1.out.trans (HB2.out.mono HB1.out.size)⟩
end Go.Proofs.YtgkfnbbgohdalaaDoor
