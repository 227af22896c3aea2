import Derived.Test.YtgkfnbbgohdalaaDoorRef4
import Derived.Test.YtgkfnbbgohdalaaDoorRef6
import Derived.Test.YtgkfnbbgohdalaaDoorSame2
namespace Go.Proofs.YtgkfnbbgohdalaaDoor
open Go.RowKit Go.Sort
set_option maxRecDepth 100000

/-- What only gives of a frame. -/
structure OnlyGives (f : Fr) (da : Option Addr) (dc : Nat) (ra : Option Addr) (rc : Nat) (ma : Option Addr) (mc : Nat) (da' : Option Addr) (dc' : Nat) (ra' : Option Addr) (rc' : Nat) (ma' : Option Addr) (mc' : Nat) : Prop where
  call : ∀ W, Calls Tryd.prog 22 #[.agg (fcells f (.slice da f.data.length dc) (.slice ra f.ranges.length rc) (.slice ma f.mac.length mc)).toArray] W fun e w' => e = .returned (.agg (fcells (only f) (.slice da' (only f).data.length dc') (.slice ra' (only f).ranges.length rc') (.slice ma' (only f).mac.length mc')).toArray) ∧ Below W.heap.size W w'
  data : (da' = da ∧ (only f).data = f.data) ∨ (only f).data = []
  ranges : (ra' = ra ∧ (only f).ranges = f.ranges) ∨ (only f).ranges = []
  mac : (ma' = ma ∧ (only f).mac = f.mac) ∨ (only f).mac = []
  num : (only f).num ≤ f.num
  off : (only f).off ≤ f.off
  edge : (only f).edge ≤ f.edge
  token : (only f).token ≤ f.token
  nonce : (only f).nonce ≤ f.nonce
theorem only_any {f : Fr} (hk : known f.kind) (da : Option Addr) (dc : Nat) (ra : Option Addr) (rc : Nat) (ma : Option Addr) (mc : Nat) : ∃ da' dc' ra' rc' ma' mc', OnlyGives f da dc ra rc ma mc da' dc' ra' rc' ma' mc' := by
  rcases kinds hk with e | e | e | e | e | e | e | e | e | e | e
  · have hd : (only f).data = f.data := by simp [only, e, Fr.zero]
    have hr : (only f).ranges = [] := by simp [only, e, Fr.zero]
    have hm : (only f).mac = [] := by simp [only, e, Fr.zero]
    refine ⟨da, dc, none, 0, none, 0, ⟨fun W => ?_, .inl ⟨rfl, hd⟩, .inr hr, .inr hm, by simp [only, e, Fr.zero], by simp [only, e, Fr.zero], by simp [only, e, Fr.zero], by simp [only, e, Fr.zero], by simp [only, e, Fr.zero]⟩⟩
    rw [hd, hr, hm]
    exact only_1 e
  · have hd : (only f).data = [] := by simp [only, e, Fr.zero]
    have hr : (only f).ranges = [] := by simp [only, e, Fr.zero]
    have hm : (only f).mac = [] := by simp [only, e, Fr.zero]
    refine ⟨none, 0, none, 0, none, 0, ⟨fun W => ?_, .inr hd, .inr hr, .inr hm, by simp [only, e, Fr.zero], by simp [only, e, Fr.zero], by simp [only, e, Fr.zero], by simp [only, e, Fr.zero], by simp [only, e, Fr.zero]⟩⟩
    rw [hd, hr, hm]
    exact only_2 e
  · have hd : (only f).data = [] := by simp [only, e, Fr.zero]
    have hr : (only f).ranges = [] := by simp [only, e, Fr.zero]
    have hm : (only f).mac = [] := by simp [only, e, Fr.zero]
    refine ⟨none, 0, none, 0, none, 0, ⟨fun W => ?_, .inr hd, .inr hr, .inr hm, by simp [only, e, Fr.zero], by simp [only, e, Fr.zero], by simp [only, e, Fr.zero], by simp [only, e, Fr.zero], by simp [only, e, Fr.zero]⟩⟩
    rw [hd, hr, hm]
    exact only_3 e
  · have hd : (only f).data = [] := by simp [only, e, Fr.zero]
    have hr : (only f).ranges = f.ranges := by simp [only, e, Fr.zero]
    have hm : (only f).mac = [] := by simp [only, e, Fr.zero]
    refine ⟨none, 0, ra, rc, none, 0, ⟨fun W => ?_, .inr hd, .inl ⟨rfl, hr⟩, .inr hm, by simp [only, e, Fr.zero], by simp [only, e, Fr.zero], by simp [only, e, Fr.zero], by simp [only, e, Fr.zero], by simp [only, e, Fr.zero]⟩⟩
    rw [hd, hr, hm]
    exact only_4 e
  · have hd : (only f).data = [] := by simp [only, e, Fr.zero]
    have hr : (only f).ranges = [] := by simp [only, e, Fr.zero]
    have hm : (only f).mac = [] := by simp [only, e, Fr.zero]
    refine ⟨none, 0, none, 0, none, 0, ⟨fun W => ?_, .inr hd, .inr hr, .inr hm, by simp [only, e, Fr.zero], by simp [only, e, Fr.zero], by simp [only, e, Fr.zero], by simp [only, e, Fr.zero], by simp [only, e, Fr.zero]⟩⟩
    rw [hd, hr, hm]
    exact only_5 e
  · have hd : (only f).data = [] := by simp [only, e, Fr.zero]
    have hr : (only f).ranges = [] := by simp [only, e, Fr.zero]
    have hm : (only f).mac = [] := by simp [only, e, Fr.zero]
    refine ⟨none, 0, none, 0, none, 0, ⟨fun W => ?_, .inr hd, .inr hr, .inr hm, by simp [only, e, Fr.zero], by simp [only, e, Fr.zero], by simp [only, e, Fr.zero], by simp [only, e, Fr.zero], by simp [only, e, Fr.zero]⟩⟩
    rw [hd, hr, hm]
    exact only_6 e
  · have hd : (only f).data = [] := by simp [only, e, Fr.zero]
    have hr : (only f).ranges = [] := by simp [only, e, Fr.zero]
    have hm : (only f).mac = [] := by simp [only, e, Fr.zero]
    refine ⟨none, 0, none, 0, none, 0, ⟨fun W => ?_, .inr hd, .inr hr, .inr hm, by simp [only, e, Fr.zero], by simp [only, e, Fr.zero], by simp [only, e, Fr.zero], by simp [only, e, Fr.zero], by simp [only, e, Fr.zero]⟩⟩
    rw [hd, hr, hm]
    exact only_7 e
  · have hd : (only f).data = [] := by simp [only, e, Fr.zero]
    have hr : (only f).ranges = [] := by simp [only, e, Fr.zero]
    have hm : (only f).mac = f.mac := by simp [only, e, Fr.zero]
    refine ⟨none, 0, none, 0, ma, mc, ⟨fun W => ?_, .inr hd, .inr hr, .inl ⟨rfl, hm⟩, by simp [only, e, Fr.zero], by simp [only, e, Fr.zero], by simp [only, e, Fr.zero], by simp [only, e, Fr.zero], by simp [only, e, Fr.zero]⟩⟩
    rw [hd, hr, hm]
    exact only_8 e
  · have hd : (only f).data = [] := by simp [only, e, Fr.zero]
    have hr : (only f).ranges = [] := by simp [only, e, Fr.zero]
    have hm : (only f).mac = f.mac := by simp [only, e, Fr.zero]
    refine ⟨none, 0, none, 0, ma, mc, ⟨fun W => ?_, .inr hd, .inr hr, .inl ⟨rfl, hm⟩, by simp [only, e, Fr.zero], by simp [only, e, Fr.zero], by simp [only, e, Fr.zero], by simp [only, e, Fr.zero], by simp [only, e, Fr.zero]⟩⟩
    rw [hd, hr, hm]
    exact only_9 e
  · have hd : (only f).data = [] := by simp [only, e, Fr.zero]
    have hr : (only f).ranges = [] := by simp [only, e, Fr.zero]
    have hm : (only f).mac = [] := by simp [only, e, Fr.zero]
    refine ⟨none, 0, none, 0, none, 0, ⟨fun W => ?_, .inr hd, .inr hr, .inr hm, by simp [only, e, Fr.zero], by simp [only, e, Fr.zero], by simp [only, e, Fr.zero], by simp [only, e, Fr.zero], by simp [only, e, Fr.zero]⟩⟩
    rw [hd, hr, hm]
    exact only_10 e
  · have hd : (only f).data = [] := by simp [only, e, Fr.zero]
    have hr : (only f).ranges = [] := by simp [only, e, Fr.zero]
    have hm : (only f).mac = [] := by simp [only, e, Fr.zero]
    refine ⟨none, 0, none, 0, none, 0, ⟨fun W => ?_, .inr hd, .inr hr, .inr hm, by simp [only, e, Fr.zero], by simp [only, e, Fr.zero], by simp [only, e, Fr.zero], by simp [only, e, Fr.zero], by simp [only, e, Fr.zero]⟩⟩
    rw [hd, hr, hm]
    exact only_11 e

theorem OnlyGives.at {w : World} {f : Fr} {da ra ma da' ra' ma' : Option Addr} {dc rc mc dc' rc' mc' : Nat} {c : List Value} (h : OnlyGives f da dc ra rc ma mc da' dc' ra' rc' ma' mc') (hF : FrAt w c f da dc ra rc ma mc) :
    FrAt w (fcells (only f) (.slice da' (only f).data.length dc') (.slice ra' (only f).ranges.length rc') (.slice ma' (only f).mac.length mc')) (only f) da' dc' ra' rc' ma' mc' :=
  { cells := rfl
    data := by rcases h.data with ⟨e, e2⟩ | e; (· rw [e, e2]; exact hF.data); (· rw [e]; exact BytesAt_nil _ _)
    ranges := by rcases h.ranges with ⟨e, e2⟩ | e; (· rw [e, e2]; exact hF.ranges); (· rw [e]; exact RangesAt_nil _ _)
    mac := by rcases h.mac with ⟨e, e2⟩ | e; (· rw [e, e2]; exact hF.mac); (· rw [e]; exact BytesAt_nil _ _)
    num := Nat.lt_of_le_of_lt h.num hF.num
    off := Nat.lt_of_le_of_lt h.off hF.off
    edge := Nat.lt_of_le_of_lt h.edge hF.edge
    rlt := by rcases h.ranges with ⟨_, e2⟩ | e; (· rw [e2]; exact hF.rlt); (· rw [e]; exact fun r h => by cases h)
    token := Nat.lt_of_le_of_lt h.token hF.token
    nonce := Nat.lt_of_le_of_lt h.nonce hF.nonce
    dlen := by rcases h.data with ⟨_, e2⟩ | e; (· rw [e2]; exact hF.dlen); (· rw [e]; decide)
    rlen := by rcases h.ranges with ⟨_, e2⟩ | e; (· rw [e2]; exact hF.rlen); (· rw [e]; decide)
    mlen := by rcases h.mac with ⟨_, e2⟩ | e; (· rw [e2]; exact hF.mlen); (· rw [e]; decide) }

set_option maxHeartbeats 2000000 in
/-- The document's Fit of a frame of no kind. -/
theorem rfit_kind {w : World} {f : Fr} {sd sr sm : Value} (hk : ¬known f.kind) :
    Calls Tryd.prog 11 #[.agg (fcells f sd sr sm).toArray] w fun e w' => e = .returned (.bool false) ∧ Below w.heap.size w w' := by
  go_enter Tryd.func11, Tryd.ntmps11
  go_upto_region 1 with (fail)
  refine wp_world fun W0 HW => ?_
  have HQ0 : Hid (Row W0 w.heap.size (fcells f sd sr sm) 27) := by show Row _ _ _ _; rw [HW.out]; exact Row.new' _ _ _ _ _ rfl rfl
  have HB0 : Hid (Below w.heap.size w W0) := by show Below _ _ _; rw [HW.out]; exact (Below.refl _ _).alloc (Nat.le_refl _) _
  clear HW
  have c0 := HQ0.out.cell 0 _ rfl
  by_cases k1 : f.kind < 1
  · have k3 : decide (f.kind < 1) = true := decide_eq_true k1
    clear hk
    go_quiet (fail)
    go_wp2
    go_ret
    exact ⟨rfl, below_drawn HB0.out _⟩
  · have k2 : 11 < f.kind := by unfold known at hk; omega
    have k3 : decide (f.kind < 1) = false := decide_eq_false k1
    have k4 : decide (11 < f.kind) = true := decide_eq_true k2
    clear hk
    go_quiet (fail)
    go_wp2
    go_ret
    exact ⟨rfl, below_drawn HB0.out _⟩

open Classical in
set_option maxHeartbeats 2000000 in
/-- The document's Fit of a frame of a kind. -/
theorem rfit_known {w : World} {f : Fr} {da ra ma : Option Addr} {dc rc mc : Nat} {c : List Value} (hF : FrAt w c f da dc ra rc ma mc) (hk : known f.kind) :
    Calls Tryd.prog 11 #[.agg c.toArray] w fun e w' => e = .returned (.bool (decide (fit f))) ∧ Below w.heap.size w w' := by
  obtain ⟨da', dc', ra', rc', ma', mc', hO⟩ := only_any hk da dc ra rc ma mc
  have HF : Hid (FrAt w c f da dc ra rc ma mc) := hF
  obtain ⟨rfl, _⟩ := hF
  obtain ⟨q, hq⟩ : ∃ q, q = decide (f = only f) := ⟨_, rfl⟩
  have HFT : Hid (fit f ↔ known f.kind ∧ f = only f ∧ within f) := fit_ref f
  have H1 : Hid (∀ W d os, Below w.heap.size w W → Calls Tryd.prog 22 #[.agg (fcells f (.slice da f.data.length dc) (.slice ra f.ranges.length rc) (.slice ma f.mac.length mc)).toArray] (grow (redrawn W d) os) fun e w'' => e = .returned (.agg (fcells (only f) (.slice da' (only f).data.length dc') (.slice ra' (only f).ranges.length rc') (.slice ma' (only f).mac.length mc')).toArray) ∧ ∃ p : Regrown, w'' = grow (redrawn W p.d) p.os) :=
    fun W d os hb => Calls.regrown_of (hO.call _)
  have H2 : Hid (∀ W d os, Below w.heap.size w W → Calls Tryd.prog 13 #[.agg (fcells f (.slice da f.data.length dc) (.slice ra f.ranges.length rc) (.slice ma f.mac.length mc)).toArray, .agg (fcells (only f) (.slice da' (only f).data.length dc') (.slice ra' (only f).ranges.length rc') (.slice ma' (only f).mac.length mc')).toArray] (grow (redrawn W d) os) fun e w'' => e = .returned (.bool q) ∧ ∃ p : Regrown, w'' = grow (redrawn W p.d) p.os) := fun W d os hb => by
    have hA := (HF.out.kept hb).kept (below_regrown W d os)
    have hB := hO.at hA
    by_cases e : f = only f
    · rw [hq, decide_eq_true e]
      have hA2 : FrAt (grow (redrawn W d) os) (fcells f (.slice da f.data.length dc) (.slice ra f.ranges.length rc) (.slice ma f.mac.length mc)) (only f) da dc ra rc ma mc := by
        have := hA; rw [show FrAt (grow (redrawn W d) os) (fcells f (.slice da f.data.length dc) (.slice ra f.ranges.length rc) (.slice ma f.mac.length mc)) f da dc ra rc ma mc = FrAt (grow (redrawn W d) os) (fcells f (.slice da f.data.length dc) (.slice ra f.ranges.length rc) (.slice ma f.mac.length mc)) (only f) da dc ra rc ma mc from congrArg (fun x => FrAt (grow (redrawn W d) os) (fcells f (.slice da f.data.length dc) (.slice ra f.ranges.length rc) (.slice ma f.mac.length mc)) x da dc ra rc ma mc) e] at this
        exact this
      exact Calls.regrown_of (same_eq hA2 hB)
    · rw [hq, decide_eq_false e]
      exact Calls.regrown_of (same_ne hA hB e)
  have H3 : Hid (∀ W, Below w.heap.size w W → Calls Tryd.prog 23 #[.agg (fcells f (.slice da f.data.length dc) (.slice ra f.ranges.length rc) (.slice ma f.mac.length mc)).toArray] W fun e w' => e = .returned (.bool (decide (within f))) ∧ Below W.heap.size W w') :=
    fun W hb => within_any hk HF.out.dlen HF.out.rlen HF.out.off (HF.out.ranges.kept hb)
  have k1 : (1 : Int) ≤ f.kind := by unfold known at hk; omega
  have k2 : f.kind ≤ 11 := by unfold known at hk; omega
  have k3 : decide (f.kind < 1) = false := decide_eq_false (by omega)
  have k4 : decide (11 < f.kind) = false := decide_eq_false (by omega)
  have HQT : Hid (q = true → decide (fit f) = decide (within f)) := fun h => by
    have e : f = only f := of_decide_eq_true (hq.symm.trans h)
    exact decide_eq_decide.2 (by rw [HFT.out]; exact ⟨fun x => x.2.2, fun x => ⟨hk, e, x⟩⟩)
  have HQF : Hid (q = false → decide (fit f) = false) := fun h => by
    have e : ¬f = only f := of_decide_eq_false (hq.symm.trans h)
    exact decide_eq_false fun x => e (HFT.out.1 x).2.1
  clear hO hq hk HFT
  generalize only f = O at *
  cases q
  · have HFF : Hid _ := HQF.out rfl
    clear HQT HQF
    go_enter Tryd.func11, Tryd.ntmps11
    go_upto_region 1 with (fail)
    refine wp_world fun W0 HW => ?_
    have HQ0 : Hid (Row W0 w.heap.size (fcells f (.slice da f.data.length dc) (.slice ra f.ranges.length rc) (.slice ma f.mac.length mc)) 27) := by show Row _ _ _ _; rw [HW.out]; exact Row.new' _ _ _ _ _ rfl rfl
    have HB0 : Hid (Below w.heap.size w W0) := by show Below _ _ _; rw [HW.out]; exact (Below.refl _ _).alloc (Nat.le_refl _) _
    clear HW
    have c0 := cell_regrown (HQ0.out.cell 0 _ rfl)
    have c1 := cell_regrown (HQ0.out.cell 1 _ rfl)
    have c2 := cell_regrown (HQ0.out.cell 2 _ rfl)
    have c3 := cell_regrown (HQ0.out.cell 3 _ rfl)
    have c4 := cell_regrown (HQ0.out.cell 4 _ rfl)
    have c5 := cell_regrown (HQ0.out.cell 5 _ rfl)
    have c6 := cell_regrown (HQ0.out.cell 6 _ rfl)
    have c7 := cell_regrown (HQ0.out.cell 7 _ rfl)
    have c8 := cell_regrown (HQ0.out.cell 8 _ rfl)
    have c9 := cell_regrown (HQ0.out.cell 9 _ rfl)
    have c10 := cell_regrown (HQ0.out.cell 10 _ rfl)
    have c11 := cell_regrown (HQ0.out.cell 11 _ rfl)
    refine wp_region_quiet_below (by kernel_rfl) (by kernel_rfl) ?_
    repeat (quiet_step (first | (go_at_call 22; exact H1.out _ _ _ HB0.out) | (go_at_call 13; exact H2.out _ _ _ HB0.out)))
    refine wpQuiet_nil ?_
    intro _ hw'
    obtain ⟨⟨dq, osq⟩, hw''⟩ := hw'
    subst hw''
    go_wp2
    go_ret
    exact ⟨by rw [HFF.out]; rfl, HB0.out.trans ((below_regrown W0 dq osq).mono HB0.out.size)⟩
  · have HTT : Hid _ := HQT.out rfl
    clear HQT HQF
    go_enter Tryd.func11, Tryd.ntmps11
    go_upto_region 1 with (fail)
    refine wp_world fun W0 HW => ?_
    have HQ0 : Hid (Row W0 w.heap.size (fcells f (.slice da f.data.length dc) (.slice ra f.ranges.length rc) (.slice ma f.mac.length mc)) 27) := by show Row _ _ _ _; rw [HW.out]; exact Row.new' _ _ _ _ _ rfl rfl
    have HB0 : Hid (Below w.heap.size w W0) := by show Below _ _ _; rw [HW.out]; exact (Below.refl _ _).alloc (Nat.le_refl _) _
    clear HW
    have c0 := cell_regrown (HQ0.out.cell 0 _ rfl)
    have c1 := cell_regrown (HQ0.out.cell 1 _ rfl)
    have c2 := cell_regrown (HQ0.out.cell 2 _ rfl)
    have c3 := cell_regrown (HQ0.out.cell 3 _ rfl)
    have c4 := cell_regrown (HQ0.out.cell 4 _ rfl)
    have c5 := cell_regrown (HQ0.out.cell 5 _ rfl)
    have c6 := cell_regrown (HQ0.out.cell 6 _ rfl)
    have c7 := cell_regrown (HQ0.out.cell 7 _ rfl)
    have c8 := cell_regrown (HQ0.out.cell 8 _ rfl)
    have c9 := cell_regrown (HQ0.out.cell 9 _ rfl)
    have c10 := cell_regrown (HQ0.out.cell 10 _ rfl)
    have c11 := cell_regrown (HQ0.out.cell 11 _ rfl)
    refine wp_region_quiet_below (by kernel_rfl) (by kernel_rfl) ?_
    repeat (quiet_step (first | (go_at_call 22; exact H1.out _ _ _ HB0.out) | (go_at_call 13; exact H2.out _ _ _ HB0.out)))
    refine wpQuiet_nil ?_
    intro _ hw'
    obtain ⟨⟨dq, osq⟩, hw''⟩ := hw'
    subst hw''
    clear c0 c1 c2 c3 c4 c5 c6 c7 c8 c9 c10 c11
    go_upto_region 3 with (fail)
    refine wp_world fun W1 HW => ?_
    have HQ1 : Hid (Row W1 w.heap.size (fcells f (.slice da f.data.length dc) (.slice ra f.ranges.length rc) (.slice ma f.mac.length mc)) 27) := by show Row _ _ _ _; rw [HW.out]; exact HQ0.out.kept (below_regrown W0 dq osq) HQ0.out.lt
    have HB1 : Hid (Below w.heap.size w W1) := by show Below _ _ _; rw [HW.out]; exact HB0.out.trans ((below_regrown W0 dq osq).mono HB0.out.size)
    clear HW
    go_wp2_with (first
      | (show wpList _ _ _ (Oper.mk (some 18) (.load 27 (.tmp 1)) _ _ _ _ :: _) _ _; refine HQ1.out.wpLoad 27 (.tmp 1) rfl rfl rfl _ Tryd.underlying27 rfl i27 ?_)
      | (go_at_call 23; refine (H3.out _ HB1.out).mono ?_; rintro e w2 ⟨rfl, hb⟩; have HB2 : Hid _ := hb; clear hb))
    go_ret
    exact ⟨by rw [HTT.out]; rfl, HB1.out.trans (HB2.out.mono HB1.out.size)⟩

open Classical in
/-- The document's Fit. -/
theorem rfit_any {w : World} {f : Fr} {da ra ma : Option Addr} {dc rc mc : Nat} {c : List Value} (hF : FrAt w c f da dc ra rc ma mc) :
    Calls Tryd.prog 11 #[.agg c.toArray] w fun e w' => e = .returned (.bool (decide (fit f))) ∧ Below w.heap.size w w' := by
  by_cases hk : known f.kind
  · exact rfit_known hF hk
  · rw [decide_eq_false (fun h : fit f => hk h.1), hF.cells]
    exact rfit_kind hk
end Go.Proofs.YtgkfnbbgohdalaaDoor
