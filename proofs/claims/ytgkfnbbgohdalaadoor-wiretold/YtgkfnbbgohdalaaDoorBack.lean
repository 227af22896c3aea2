import Derived.Test.YtgkfnbbgohdalaaDoorProbe
import Derived.Test.YtgkfnbbgohdalaaDoorDec6
import Derived.Test.YtgkfnbbgohdalaaDoorRef7
import Derived.Test.YtgkfnbbgohdalaaDoorPure2
namespace Go.Proofs.YtgkfnbbgohdalaaDoor
open Go.RowKit
set_option maxRecDepth 100000

theorem enc_bad {w : World} {c : List Value} {f : Fr} {da ra ma : Option Addr} {dc rc mc : Nat} (h : FrAt w c f da dc ra rc ma mc) (hf : ¬fit f) :
    Calls Tryd.prog 10 #[.agg c.toArray] w fun e w' => ∃ er : Int, er ≠ 0 ∧ e = .returned (.tuple #[.slice none 0 0, .int .i64 er]) ∧ Below w.heap.size w w' := by
  by_cases hk : known f.kind
  · exact (enc_field h hk hf).mono fun e w' ⟨he, hb⟩ => ⟨35, by decide, he, hb⟩
  · exact (enc_kind h hk).mono fun e w' ⟨he, hb⟩ => ⟨33, by decide, he, hb⟩
theorem FrAt.nums {w : World} {c : List Value} {f : Fr} {da ra ma : Option Addr} {dc rc mc : Nat} (h : FrAt w c f da dc ra rc ma mc) : NumsOk f := ⟨h.num, h.off, h.edge, h.rlt, h.token, h.nonce⟩
theorem Row.bytes {w : World} {g t : Nat} {bs : List (BitVec 8)} (R : Row w g (bcells bs) t) : BytesAt w (some ⟨g, 0, none⟩) bs := fun k hk => ⟨g, 0, rfl, by rw [Nat.zero_add]; exact R.cell k _ (bcells_get hk)⟩

open Classical in
set_option maxHeartbeats 2000000 in
theorem back_unfit {w : World} {c : List Value} {f : Fr} {da ra ma : Option Addr} {dc rc mc : Nat} (h : FrAt w c f da dc ra rc ma mc) (hf : ¬fit f) (hT : CrcTab w) (hS : SizesTab w) (h2 : 2 ≤ w.heap.size) :
    Calls Tryd.prog 4 #[.agg c.toArray] w fun e w' => e = .returned (.bool true) ∧ Below w.heap.size w w' := by
  have HF : Hid (FrAt w c f da dc ra rc ma mc) := h
  have HP : Hid (∀ W, Below w.heap.size w W → Calls Tryd.prog 9 #[] W fun e w' => e = .returned (.bool true) ∧ Below W.heap.size W w') := fun W hb => probe_any (hT.kept hb) (hS.kept hb) (Nat.le_trans h2 hb.size)
  have HE : Hid (∀ W, Below w.heap.size w W → Calls Tryd.prog 10 #[.agg c.toArray] W fun e w' => ∃ er : Int, er ≠ 0 ∧ e = .returned (.tuple #[.slice none 0 0, .int .i64 er]) ∧ Below W.heap.size W w') := fun W hb => enc_bad (HF.out.kept hb) hf
  have HR : Hid (∀ W, Below w.heap.size w W → Calls Tryd.prog 11 #[.agg c.toArray] W fun e w' => e = .returned (.bool false) ∧ Below W.heap.size W w') := fun W hb => by
    have := rfit_any (HF.out.kept hb); rw [decide_eq_false hf] at this; exact this
  have HW : Hid (∀ W, Below w.heap.size w W → Calls Tryd.prog 14 #[.agg c.toArray] W fun e w' => e = .returned (.bool false) ∧ Below W.heap.size W w') := fun W hb => by
    have := fit_any (HF.out.kept hb); rw [decide_eq_false hf] at this; exact this
  obtain ⟨rfl, _⟩ := h
  clear hf hT hS h2
  go_enter Tryd.func4, Tryd.ntmps4
  go_upto_region 1 with (fail)
  refine wp_world fun W0 HWE => ?_
  have HQ0 : Hid (Row W0 w.heap.size (fcells f (.slice da f.data.length dc) (.slice ra f.ranges.length rc) (.slice ma f.mac.length mc)) 27) := by show Row _ _ _ _; rw [HWE.out]; exact Row.new' _ _ _ _ _ rfl rfl
  have HB0 : Hid (Below w.heap.size w W0) := by show Below _ _ _; rw [HWE.out]; exact (Below.refl _ _).alloc (Nat.le_refl _) _
  clear HWE
  go_upto_region 5 with (first
    | (go_at_call 9; refine (HP.out _ HB0.out).mono ?_; rintro e w1 ⟨rfl, hb⟩; have HB1 : Hid _ := HB0.out.trans (hb.mono HB0.out.size); have HQ1 : Hid _ := HQ0.out.kept hb HQ0.out.lt; clear hb)
    | (show wpList _ _ _ (Oper.mk (some 10) (.load 27 (.tmp 1)) _ _ _ _ :: _) _ _; refine HQ1.out.wpLoad 27 (.tmp 1) rfl rfl rfl _ Tryd.underlying27 rfl i27 ?_)
    | (go_at_call 10; refine (HE.out _ HB1.out).mono ?_; rintro e w2 ⟨er, her, rfl, hb⟩; have HB2 : Hid _ := HB1.out.trans (hb.mono HB1.out.size); have HQ2 : Hid _ := HQ1.out.kept hb HQ1.out.lt; have e1 : (er != 0) = true := bne_iff_ne.2 her; clear hb)
    | (show wpList _ _ _ (Oper.mk (some 14) (.load 27 (.tmp 1)) _ _ _ _ :: _) _ _; refine HQ2.out.wpLoad 27 (.tmp 1) rfl rfl rfl _ Tryd.underlying27 rfl i27 ?_)
    | (go_at_call 11; refine (HR.out _ HB2.out).mono ?_; rintro e w3 ⟨rfl, hb⟩; have HB3 : Hid _ := HB2.out.trans (hb.mono HB2.out.size); have HQ3 : Hid _ := HQ2.out.kept hb HQ2.out.lt; clear hb))
  obtain ⟨c0, c1, c2, c3, c4, c5, c6, c7, c8, c9, c10, c11⟩ := HQ3.out.fr
  go_wp2_with (go_at_call 14; refine (HW.out _ HB3.out).mono ?_; rintro e w4 ⟨rfl, hb⟩; have HB4 : Hid _ := HB3.out.trans (hb.mono HB3.out.size); clear hb c0 c1 c2 c3 c4 c5 c6 c7 c8 c9 c10 c11)
  go_ret
  exact ⟨rfl, HB4.out⟩

open Classical in
set_option maxHeartbeats 2000000 in
theorem back_fit {w : World} {c : List Value} {f : Fr} {da ra ma : Option Addr} {dc rc mc : Nat} (h : FrAt w c f da dc ra rc ma mc) (hf : fit f) (hT : CrcTab w) (hS : SizesTab w) (h2 : 2 ≤ w.heap.size) :
    Calls Tryd.prog 4 #[.agg c.toArray] w fun e w' => e = .returned (.bool true) ∧ Below w.heap.size w w' := by
  have HF : Hid (FrAt w c f da dc ra rc ma mc) := h
  have HP : Hid (∀ W, Below w.heap.size w W → Calls Tryd.prog 9 #[] W fun e w' => e = .returned (.bool true) ∧ Below W.heap.size W w') := fun W hb => probe_any (hT.kept hb) (hS.kept hb) (Nat.le_trans h2 hb.size)
  have HE : Hid (∀ W, Below w.heap.size w W → Calls Tryd.prog 10 #[.agg c.toArray] W (EncGives W f)) := fun W hb => enc_ok (HF.out.kept hb) hf (hT.kept hb) (hS.kept hb) (Nat.le_trans h2 hb.size)
  have HR : Hid (∀ W, Below w.heap.size w W → Calls Tryd.prog 11 #[.agg c.toArray] W fun e w' => e = .returned (.bool true) ∧ Below W.heap.size W w') := fun W hb => by
    have := rfit_any (HF.out.kept hb); rw [decide_eq_true hf] at this; exact this
  have HD : Hid (∀ W g, Below w.heap.size w W → Row W g (bcells (enc f)) 5 → Calls Tryd.prog 15 #[.slice (some ⟨g, 0, none⟩) (enc f).length (enc f).length] W (DecGives W (enc f) 0)) := fun W g hb hR => by
    have := decode_any (cap := (enc f).length) hR.bytes rfl (Nat.le_refl _) (hT.kept hb) (hS.kept hb)
    rw [decE_enc hf h.nums] at this; exact this
  have HRD : Hid (rdf (enc f) = f) := (back_any hf h.nums).read
  have HFI : Hid (fit f) := hf
  have hz := sizeF_bd hf
  have hl := enc_len hf
  obtain ⟨n, hn⟩ : ∃ n, n = (enc f).length := ⟨_, rfl⟩
  have n1 : (n : Int) ≤ 1048 := by omega
  have n2 : (7 : Int) ≤ (n : Int) := by omega
  have HN : Hid _ := hn
  rw [← hn] at HD
  obtain ⟨rfl, _⟩ := h
  clear hf hT hS h2 hz hl hn
  go_enter Tryd.func4, Tryd.ntmps4
  go_upto_region 1 with (fail)
  refine wp_world fun W0 HWE => ?_
  have HQ0 : Hid (Row W0 w.heap.size (fcells f (.slice da f.data.length dc) (.slice ra f.ranges.length rc) (.slice ma f.mac.length mc)) 27) := by show Row _ _ _ _; rw [HWE.out]; exact Row.new' _ _ _ _ _ rfl rfl
  have HB0 : Hid (Below w.heap.size w W0) := by show Below _ _ _; rw [HWE.out]; exact (Below.refl _ _).alloc (Nat.le_refl _) _
  clear HWE
  go_upto_region 7 with (first
    | (go_at_call 9; refine (HP.out _ HB0.out).mono ?_; rintro e w1 ⟨rfl, hb⟩; have HB1 : Hid _ := HB0.out.trans (hb.mono HB0.out.size); have HQ1 : Hid _ := HQ0.out.kept hb HQ0.out.lt; clear hb)
    | (show wpList _ _ _ (Oper.mk (some 10) (.load 27 (.tmp 1)) _ _ _ _ :: _) _ _; refine HQ1.out.wpLoad 27 (.tmp 1) rfl rfl rfl _ Tryd.underlying27 rfl i27 ?_)
    | (go_at_call 10; refine (HE.out _ HB1.out).mono ?_; rintro e w2 ⟨g, rfl, hg, hR, hb⟩; rw [← HN.out]; have HB2 : Hid _ := HB1.out.trans (hb.mono HB1.out.size); have HQ2 : Hid _ := HQ1.out.kept hb HQ1.out.lt; have HR2 : Hid (Row w2 g (bcells (enc f)) 5) := hR; clear hb hR hg)
    | (show wpList _ _ _ (Oper.mk (some 14) (.load 27 (.tmp 1)) _ _ _ _ :: _) _ _; refine HQ2.out.wpLoad 27 (.tmp 1) rfl rfl rfl _ Tryd.underlying27 rfl i27 ?_)
    | (go_at_call 11; refine (HR.out _ HB2.out).mono ?_; rintro e w3 ⟨rfl, hb⟩; have HB3 : Hid _ := HB2.out.trans (hb.mono HB2.out.size); have HQ3 : Hid _ := HQ2.out.kept hb HQ2.out.lt; have HR3 : Hid (Row w3 g (bcells (enc f)) 5) := HR2.out.kept hb HR2.out.lt; clear hb)
    | (go_at_call 15; refine (HD.out _ _ HB3.out HR3.out).mono ?_; rintro e w4 ⟨da', dc', ra', rc', ma', mc', c', rfl, hfr, hb, hf1, hf2, hf3⟩; rw [if_pos rfl, HRD.out] at hfr; have HFR : Hid (FrAt w4 c' f da' dc' ra' rc' ma' mc') := hfr; have HB4 : Hid _ := HB3.out.trans (hb.mono HB3.out.size); have HQ4 : Hid _ := HQ3.out.kept hb HQ3.out.lt; clear hfr hb hf1 hf2 hf3)
    | (show wpList _ _ _ (Oper.mk none (.store 27 (.tmp 5) (.tmp 32)) _ _ _ _ :: _) _ _; refine (Row.new' w4 _ (fcells Fr.zero (.slice none 0 0) (.slice none 0 0) (.slice none 0 0)) 27 _ rfl rfl).wpStore' 27 (.tmp 5) (.tmp 32) c' rfl rfl rfl rfl (by rw [HFR.out.cells]; rfl) (by rw [HFR.out.cells]; exact fcells_one _ _ _ _ _ _ _ _ _ _) (by rw [HFR.out.cells]; exact i27) ?_; intro w5 HW))
  have HP5 : Hid (Row w5 w4.heap.size c' 27) := by show Row _ _ _ _; rw [HW.out]; exact (Row.new' w4 _ (fcells Fr.zero (.slice none 0 0) (.slice none 0 0) (.slice none 0 0)) 27 _ rfl rfl).row _
  have HB45 : Hid (Below w4.heap.size w4 w5) := by show Below _ _ _; rw [HW.out]; exact Go.below_setRow ((Below.refl _ _).alloc (Nat.le_refl _) _) (Nat.le_refl _) _
  have HF5 : Hid (FrAt w5 c' f da' dc' ra' rc' ma' mc') := HFR.out.kept HB45.out
  have HB5 : Hid (Below w.heap.size w w5) := HB4.out.trans (HB45.out.mono HB4.out.size)
  have HQ5 : Hid (Row w5 w.heap.size (fcells f (.slice da f.data.length dc) (.slice ra f.ranges.length rc) (.slice ma f.mac.length mc)) 27) := HQ4.out.kept HB45.out HQ4.out.lt
  clear HW HFR HB45 HB1 HQ1 HB2 HQ2 HR2 HB3 HQ3 HR3 HB4 HQ4 HD HP HE HR HB0 HQ0
  have HS1 : Hid (Calls Tryd.prog 13 #[.agg (fcells f (.slice da f.data.length dc) (.slice ra f.ranges.length rc) (.slice ma f.mac.length mc)).toArray, .agg c'.toArray] w5 fun e w' => e = .returned (.bool true) ∧ Below w5.heap.size w5 w') := same_eq (HF.out.kept HB5.out) HF5.out
  have HZ : Hid (∀ W, Below w5.heap.size w5 W → Calls Tryd.prog 14 #[.agg c'.toArray] W fun e w' => e = .returned (.bool true) ∧ Below W.heap.size W w') := fun W hb => by
    have := fit_any (HF5.out.kept hb); rw [decide_eq_true HFI.out] at this; exact this
  have hc := HF5.out.cells
  subst hc
  obtain ⟨c0, c1, c2, c3, c4, c5, c6, c7, c8, c9, c10, c11⟩ := HQ5.out.fr
  obtain ⟨d0, d1, d2, d3, d4, d5, d6, d7, d8, d9, d10, d11⟩ := HP5.out.fr
  go_wp2_with (first
    | (go_at_call 13; refine Calls.mono HS1.out ?_; rintro e w6 ⟨rfl, hb⟩; have HB6 : Hid _ := hb; clear hb c0 c1 c2 c3 c4 c5 c6 c7 c8 c9 c10 c11 d0 d1 d2 d3 d4 d5 d6 d7 d8 d9 d10 d11; obtain ⟨d0, d1, d2, d3, d4, d5, d6, d7, d8, d9, d10, d11⟩ := (HP5.out.kept HB6.out HP5.out.lt).fr)
    | (go_at_call 14; refine (HZ.out _ HB6.out).mono ?_; rintro e w7 ⟨rfl, hb⟩; have HB7 : Hid _ := hb; clear hb d0 d1 d2 d3 d4 d5 d6 d7 d8 d9 d10 d11))
  go_ret
  exact ⟨by first | rfl | simp, HB5.out.trans ((HB6.out.trans (HB7.out.mono HB6.out.size)).mono HB5.out.size)⟩

/-- The law. -/
theorem back_law {w : World} {c : List Value} {f : Fr} {da ra ma : Option Addr} {dc rc mc : Nat} (h : FrAt w c f da dc ra rc ma mc) (hT : CrcTab w) (hS : SizesTab w) (h2 : 2 ≤ w.heap.size) :
    Calls Tryd.prog 4 #[.agg c.toArray] w fun e w' => e = .returned (.bool true) ∧ Below w.heap.size w w' := by
  by_cases hf : fit f
  · exact back_fit h hf hT hS h2
  · exact back_unfit h hf hT hS h2
end Go.Proofs.YtgkfnbbgohdalaaDoor
