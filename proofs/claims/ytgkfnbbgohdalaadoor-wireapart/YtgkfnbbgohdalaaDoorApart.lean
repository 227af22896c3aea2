import Derived.Test.YtgkfnbbgohdalaaDoorBack
import Derived.Lib.QuietBelow
namespace Go.Proofs.YtgkfnbbgohdalaaDoor
open Go.RowKit Go.Sort
set_option maxRecDepth 100000

/-- What Encode answers, whatever the frame. -/
def EncTells (w : World) (f : Fr) (e : Ending) (w' : World) : Prop :=
  ∃ (v : Value) (er : Int), e = .returned (.tuple #[v, .int .i64 er]) ∧ Below w.heap.size w w' ∧ (fit f → er = 0) ∧ (¬fit f → er ≠ 0) ∧ (fit f → ∃ g, v = .slice (some ⟨g, 0, none⟩) (enc f).length (enc f).length ∧ Row w' g (bcells (enc f)) 5)
theorem enc_tells {w : World} {c : List Value} {f : Fr} {da ra ma : Option Addr} {dc rc mc : Nat} (h : FrAt w c f da dc ra rc ma mc) (hT : CrcTab w) (hS : SizesTab w) (h2 : 2 ≤ w.heap.size) : Calls Tryd.prog 10 #[.agg c.toArray] w (EncTells w f) := by
  by_cases hf : fit f
  · exact (enc_ok h hf hT hS h2).mono fun e w' ⟨g, he, _, hR, hb⟩ => ⟨_, 0, he, hb, fun _ => rfl, fun x => absurd hf x, fun _ => ⟨g, rfl, hR⟩⟩
  · exact (enc_bad h hf).mono fun e w' ⟨er, hne, he, hb⟩ => ⟨_, er, he, hb, fun x => absurd x hf, fun _ => hne, fun x => absurd x hf⟩
theorem enc_inj {f g : Fr} (hf : fit f) (hg : fit g) (nf : NumsOk f) (ng : NumsOk g) : enc f = enc g ↔ f = g := by
  constructor
  · intro h
    rw [← (back_any hf nf).read, ← (back_any hg ng).read, h]
  · intro h; rw [h]

open Classical in
set_option maxHeartbeats 2000000 in
theorem apart_law {w : World} {c k : List Value} {f h : Fr} {da ra ma da' ra' ma' : Option Addr} {dc rc mc dc' rc' mc' : Nat} (hF : FrAt w c f da dc ra rc ma mc) (hH : FrAt w k h da' dc' ra' rc' ma' mc') (hT : CrcTab w) (hS : SizesTab w) (h2 : 2 ≤ w.heap.size) :
    Calls Tryd.prog 3 #[.agg c.toArray, .agg k.toArray] w fun e w' => e = .returned (.bool true) ∧ Below w.heap.size w w' := by
  have HF : Hid (FrAt w c f da dc ra rc ma mc) := hF
  have HH : Hid (FrAt w k h da' dc' ra' rc' ma' mc') := hH
  have HP : Hid (∀ W, Below w.heap.size w W → Calls Tryd.prog 9 #[] W fun e w' => e = .returned (.bool true) ∧ Below W.heap.size W w') := fun W hb => probe_any (hT.kept hb) (hS.kept hb) (Nat.le_trans h2 hb.size)
  have HE1 : Hid (∀ W, Below w.heap.size w W → Calls Tryd.prog 10 #[.agg c.toArray] W (EncTells W f)) := fun W hb => enc_tells (HF.out.kept hb) (hT.kept hb) (hS.kept hb) (Nat.le_trans h2 hb.size)
  have HE2 : Hid (∀ W, Below w.heap.size w W → Calls Tryd.prog 10 #[.agg k.toArray] W (EncTells W h)) := fun W hb => enc_tells (HH.out.kept hb) (hT.kept hb) (hS.kept hb) (Nat.le_trans h2 hb.size)
  have HR1 : Hid (∀ W, Below w.heap.size w W → Calls Tryd.prog 11 #[.agg c.toArray] W fun e w' => e = .returned (.bool (decide (fit f))) ∧ Below W.heap.size W w') := fun W hb => rfit_any (HF.out.kept hb)
  have HR2 : Hid (∀ W, Below w.heap.size w W → Calls Tryd.prog 11 #[.agg k.toArray] W fun e w' => e = .returned (.bool (decide (fit h))) ∧ Below W.heap.size W w') := fun W hb => rfit_any (HH.out.kept hb)
  have HNF : Hid (NumsOk f) := hF.nums
  have HNH : Hid (NumsOk h) := hH.nums
  obtain ⟨rfl, _⟩ := hF
  obtain ⟨rfl, _⟩ := hH
  clear hT hS h2
  go_enter Tryd.func3, Tryd.ntmps3
  go_upto_region 1 with (fail)
  refine wp_world fun W0 HWE => ?_
  have HQ0 : Hid (Row W0 w.heap.size (fcells f (.slice da f.data.length dc) (.slice ra f.ranges.length rc) (.slice ma f.mac.length mc)) 27) := by show Row _ _ _ _; rw [HWE.out]; exact (Row.new' _ _ _ _ _ rfl rfl).alloc _
  have HP0 : Hid (Row W0 (w.heap.size + 1) (fcells h (.slice da' h.data.length dc') (.slice ra' h.ranges.length rc') (.slice ma' h.mac.length mc')) 27) := by show Row _ _ _ _; rw [HWE.out]; exact Row.new' _ _ _ _ _ (by simp) rfl
  have HB0 : Hid (Below w.heap.size w W0) := by show Below _ _ _; rw [HWE.out]; exact ((Below.refl _ _).alloc (Nat.le_refl _) _).alloc (by simp) _
  clear HWE
  go_upto_region 3 with (go_at_call 9; refine (HP.out _ HB0.out).mono ?_; rintro e w1 ⟨rfl, hb⟩; have HB1 : Hid _ := HB0.out.trans (hb.mono HB0.out.size); have HQ1 : Hid _ := HQ0.out.kept hb HQ0.out.lt; have HP1 : Hid _ := HP0.out.kept hb HP0.out.lt; clear hb)
  go_upto_region 4 with (first
    | (show wpList _ _ _ (Oper.mk (some 12) (.load 27 (.tmp 2)) _ _ _ _ :: _) _ _; refine HQ1.out.wpLoad 27 (.tmp 2) rfl rfl rfl _ Tryd.underlying27 rfl i27 ?_)
    | (go_at_call 10; refine (HE1.out _ HB1.out).mono ?_; rintro e w2 ⟨v1, er1, rfl, hb, h1, h2, h3⟩; have HV1 : Hid _ := h1; have HV2 : Hid _ := h2; have HV3 : Hid (fit f → ∃ g, v1 = .slice (some ⟨g, 0, none⟩) (enc f).length (enc f).length ∧ Row w2 g (bcells (enc f)) 5) := h3; have HB2 : Hid _ := HB1.out.trans (hb.mono HB1.out.size); have HQ2 : Hid _ := HQ1.out.kept hb HQ1.out.lt; have HP2 : Hid _ := HP1.out.kept hb HP1.out.lt; clear hb h1 h2 h3))
  go_upto_region 5 with (first
    | (show wpList _ _ _ (Oper.mk (some 17) (.load 27 (.tmp 3)) _ _ _ _ :: _) _ _; refine HP2.out.wpLoad 27 (.tmp 3) rfl rfl rfl _ Tryd.underlying27 rfl i27 ?_)
    | (go_at_call 10; refine (HE2.out _ HB2.out).mono ?_; rintro e w3 ⟨v2, er2, rfl, hb, h1, h2, h3⟩; have HU1 : Hid _ := h1; have HU2 : Hid _ := h2; have HU3 : Hid (fit h → ∃ g, v2 = .slice (some ⟨g, 0, none⟩) (enc h).length (enc h).length ∧ Row w3 g (bcells (enc h)) 5) := h3; have HB23 : Hid (Below w2.heap.size w2 w3) := hb; have HB3 : Hid _ := HB2.out.trans (hb.mono HB2.out.size); have HQ3 : Hid _ := HQ2.out.kept hb HQ2.out.lt; have HP3 : Hid _ := HP2.out.kept hb HP2.out.lt; clear hb h1 h2 h3))
  clear HP HE1 HE2 HB0 HB1 HQ0 HP0 HQ1 HP1 HQ2 HP2
  by_cases hf : fit f
  · have t1 : decide (fit f) = true := decide_eq_true hf
    have z1 := HV1.out hf
    subst z1
    rw [t1] at HR1
    obtain ⟨ga, rfl, hRa⟩ := HV3.out hf
    have HRa : Hid (Row w2 ga (bcells (enc f)) 5) := hRa
    clear hRa HV1 HV2 HV3
    by_cases hh : fit h
    · have t2 : decide (fit h) = true := decide_eq_true hh
      have z2 := HU1.out hh
      subst z2
      rw [t2] at HR2
      obtain ⟨gb, rfl, hRb⟩ := HU3.out hh
      have HRb : Hid (Row w3 gb (bcells (enc h)) 5) := hRb
      clear hRb HU1 HU2 HU3
      have HIJ : Hid (enc f = enc h ↔ f = h) := enc_inj hf hh HNF.out HNH.out
      obtain ⟨q, hq⟩ : ∃ q, q = decide (f = h) := ⟨_, rfl⟩
      have HQQ : Hid (q = decide (enc f = enc h)) := by show _ = _; rw [hq]; exact (decide_eq_decide.2 HIJ.out).symm
      have HQE : Hid (q = decide (f = h)) := hq
      clear hq
      obtain ⟨c0, c1, c2, c3, c4, c5, c6, c7, c8, c9, c10, c11⟩ := HQ3.out.fr
      go_upto_region 7 with (first
        | (show wpList _ _ _ (Oper.mk (some 21) (.load 27 (.tmp 2)) _ _ _ _ :: _) _ _; refine HQ3.out.wpLoad 27 (.tmp 2) rfl rfl rfl _ Tryd.underlying27 rfl i27 ?_)
        | (go_at_call_of 11 (fcells f (Value.slice da f.data.length dc) (Value.slice ra f.ranges.length rc) (Value.slice ma f.mac.length mc)).toArray; refine (HR1.out _ HB3.out).mono ?_; rintro e w4 ⟨rfl, hb⟩; have HB4 : Hid _ := HB3.out.trans (hb.mono HB3.out.size); have HB34 : Hid (Below w3.heap.size w3 w4) := hb; have HQ4 : Hid _ := HQ3.out.kept hb HQ3.out.lt; have HP4 : Hid _ := HP3.out.kept hb HP3.out.lt; clear hb c0 c1 c2 c3 c4 c5 c6 c7 c8 c9 c10 c11; obtain ⟨c0, c1, c2, c3, c4, c5, c6, c7, c8, c9, c10, c11⟩ := HP4.out.fr)
        | (go_at_call 11; refine (HR2.out _ HB4.out).mono ?_; rintro e w5 ⟨rfl, hb⟩; have HB5 : Hid _ := HB4.out.trans (hb.mono HB4.out.size); have HB35 : Hid (Below w3.heap.size w3 w5) := HB34.out.trans (hb.mono HB34.out.size); have HQ5 : Hid (Row w5 w.heap.size (fcells f (.slice da f.data.length dc) (.slice ra f.ranges.length rc) (.slice ma f.mac.length mc)) 27) := HQ4.out.kept hb HQ4.out.lt; have HP5 : Hid (Row w5 (w.heap.size + 1) (fcells h (.slice da' h.data.length dc') (.slice ra' h.ranges.length rc') (.slice ma' h.mac.length mc')) 27) := HP4.out.kept hb HP4.out.lt; clear hb c0 c1 c2 c3 c4 c5 c6 c7 c8 c9 c10 c11))
      obtain ⟨la, hla⟩ : ∃ n, n = (enc f).length := ⟨_, rfl⟩
      obtain ⟨lb, hlb⟩ : ∃ n, n = (enc h).length := ⟨_, rfl⟩
      rw [← hla, ← hlb]
      have H1 : Hid (∀ d os, Calls Tryd.prog 12 #[.slice (some ⟨ga, 0, none⟩) la la, .slice (some ⟨gb, 0, none⟩) lb lb] (grow (redrawn w5 d) os) fun e w'' => e = .returned (.bool q) ∧ ∃ p : Regrown, w'' = grow (redrawn w5 p.d) p.os) := fun d os => by
        have b1 : BytesAt (grow (redrawn w5 d) os) (some ⟨ga, 0, none⟩) (enc f) := ((HRa.out.bytes.kept HB23.out).kept HB35.out).kept (below_regrown w5 d os)
        have b2 : BytesAt (grow (redrawn w5 d) os) (some ⟨gb, 0, none⟩) (enc h) := (HRb.out.bytes.kept HB35.out).kept (below_regrown w5 d os)
        refine (samePlain_any b1 hla.symm b2 hlb.symm).mono ?_
        rintro e w' ⟨rfl, rfl⟩
        exact ⟨by rw [HQQ.out], ⟨d, os⟩, rfl⟩
      have H2 : Hid (∀ d os, Calls Tryd.prog 13 #[.agg (fcells f (.slice da f.data.length dc) (.slice ra f.ranges.length rc) (.slice ma f.mac.length mc)).toArray, .agg (fcells h (.slice da' h.data.length dc') (.slice ra' h.ranges.length rc') (.slice ma' h.mac.length mc')).toArray] (grow (redrawn w5 d) os) fun e w'' => e = .returned (.bool q) ∧ ∃ p : Regrown, w'' = grow (redrawn w5 p.d) p.os) := fun d os => by
        have hA := (HF.out.kept HB5.out).kept (below_regrown w5 d os)
        have hB := (HH.out.kept HB5.out).kept (below_regrown w5 d os)
        by_cases e : f = h
        · rw [HQE.out, decide_eq_true e]
          subst e
          exact Calls.regrown_of (same_eq hA hB)
        · rw [HQE.out, decide_eq_false e]
          exact Calls.regrown_of (same_ne hA hB e)
      have c0 := cell_regrown (HQ5.out.cell 0 _ rfl)
      have c1 := cell_regrown (HQ5.out.cell 1 _ rfl)
      have c2 := cell_regrown (HQ5.out.cell 2 _ rfl)
      have c3 := cell_regrown (HQ5.out.cell 3 _ rfl)
      have c4 := cell_regrown (HQ5.out.cell 4 _ rfl)
      have c5 := cell_regrown (HQ5.out.cell 5 _ rfl)
      have c6 := cell_regrown (HQ5.out.cell 6 _ rfl)
      have c7 := cell_regrown (HQ5.out.cell 7 _ rfl)
      have c8 := cell_regrown (HQ5.out.cell 8 _ rfl)
      have c9 := cell_regrown (HQ5.out.cell 9 _ rfl)
      have c10 := cell_regrown (HQ5.out.cell 10 _ rfl)
      have c11 := cell_regrown (HQ5.out.cell 11 _ rfl)
      have d0 := cell_regrown (HP5.out.cell 0 _ rfl)
      have d1 := cell_regrown (HP5.out.cell 1 _ rfl)
      have d2 := cell_regrown (HP5.out.cell 2 _ rfl)
      have d3 := cell_regrown (HP5.out.cell 3 _ rfl)
      have d4 := cell_regrown (HP5.out.cell 4 _ rfl)
      have d5 := cell_regrown (HP5.out.cell 5 _ rfl)
      have d6 := cell_regrown (HP5.out.cell 6 _ rfl)
      have d7 := cell_regrown (HP5.out.cell 7 _ rfl)
      have d8 := cell_regrown (HP5.out.cell 8 _ rfl)
      have d9 := cell_regrown (HP5.out.cell 9 _ rfl)
      have d10 := cell_regrown (HP5.out.cell 10 _ rfl)
      have d11 := cell_regrown (HP5.out.cell 11 _ rfl)
      clear hla hlb
      refine wp_region_quiet_below (by kernel_rfl) (by kernel_rfl) ?_
      repeat (quiet_step (first | (go_at_call 12; exact H1.out _ _) | (go_at_call 13; exact H2.out _ _)))
      refine wpQuiet_nil ?_
      intro _ hw'
      obtain ⟨⟨dq, osq⟩, hw''⟩ := hw'
      subst hw''
      clear c0 c1 c2 c3 c4 c5 c6 c7 c8 c9 c10 c11 d0 d1 d2 d3 d4 d5 d6 d7 d8 d9 d10 d11
      go_wp2
      go_ret
      exact ⟨by first | rfl | simp, HB5.out.trans ((below_regrown w5 dq osq).mono HB5.out.size)⟩
    · have t2 : decide (fit h) = false := decide_eq_false hh
      have z2 := HU2.out hh
      have z3 : (er2 != 0) = true := bne_iff_ne.2 z2
      rw [t2] at HR2
      clear HU1 HU2 HU3
      obtain ⟨c0, c1, c2, c3, c4, c5, c6, c7, c8, c9, c10, c11⟩ := HQ3.out.fr
      go_wp2_with (first
        | (show wpList _ _ _ (Oper.mk (some 21) (.load 27 (.tmp 2)) _ _ _ _ :: _) _ _; refine HQ3.out.wpLoad 27 (.tmp 2) rfl rfl rfl _ Tryd.underlying27 rfl i27 ?_)
        | (go_at_call_of 11 (fcells f (Value.slice da f.data.length dc) (Value.slice ra f.ranges.length rc) (Value.slice ma f.mac.length mc)).toArray; refine (HR1.out _ HB3.out).mono ?_; rintro e w4 ⟨rfl, hb⟩; have HB4 : Hid _ := HB3.out.trans (hb.mono HB3.out.size); have HP4 : Hid _ := HP3.out.kept hb HP3.out.lt; clear hb c0 c1 c2 c3 c4 c5 c6 c7 c8 c9 c10 c11; obtain ⟨c0, c1, c2, c3, c4, c5, c6, c7, c8, c9, c10, c11⟩ := HP4.out.fr)
        | (go_at_call 11; refine (HR2.out _ HB4.out).mono ?_; rintro e w5 ⟨rfl, hb⟩; have HB5 : Hid _ := HB4.out.trans (hb.mono HB4.out.size); clear hb c0 c1 c2 c3 c4 c5 c6 c7 c8 c9 c10 c11))
      go_ret
      exact ⟨rfl, HB5.out⟩
  · have t1 : decide (fit f) = false := decide_eq_false hf
    have z1 := HV2.out hf
    have z3 : (er1 != 0) = true := bne_iff_ne.2 z1
    rw [t1] at HR1
    clear HV1 HV2 HV3
    go_wp2_with (first
      | (show wpList _ _ _ (Oper.mk (some 21) (.load 27 (.tmp 2)) _ _ _ _ :: _) _ _; refine HQ3.out.wpLoad 27 (.tmp 2) rfl rfl rfl _ Tryd.underlying27 rfl i27 ?_)
      | (go_at_call 11; refine (HR1.out _ HB3.out).mono ?_; rintro e w4 ⟨rfl, hb⟩; have HB4 : Hid _ := HB3.out.trans (hb.mono HB3.out.size); clear hb))
    go_ret
    exact ⟨rfl, HB4.out⟩
end Go.Proofs.YtgkfnbbgohdalaaDoor
