import Derived.Test.YtgkfnbbgohdalaaDoorProbe
import Derived.Test.YtgkfnbbgohdalaaDoorDec6
import Derived.Test.YtgkfnbbgohdalaaDoorRef4
namespace Go.Proofs.YtgkfnbbgohdalaaDoor
open Go.RowKit
set_option maxRecDepth 100000

theorem zero_unfit : ¬fit Fr.zero := fun h => absurd h.1 (by decide)
theorem decE_err {bs : List (BitVec 8)} (h : decE bs ≠ 0) : (decE bs != 0) = true := by rw [bne_iff_ne]; exact h

open Classical in
set_option maxHeartbeats 2000000 in
theorem oneform_err {w : World} {a : Option Addr} {n cap : Nat} {bs : List (BitVec 8)} (hB : BytesAt w a bs) (hn : bs.length = n) (hcap : n ≤ cap) (hT : CrcTab w) (hS : SizesTab w) (h2 : 2 ≤ w.heap.size) (hne : decE bs ≠ 0) :
    Calls Tryd.prog 5 #[.slice a n cap] w fun e w' => e = .returned (.bool true) ∧ Below w.heap.size w w' := by
  have HP : Hid _ := probe_any hT hS h2
  have HD : Hid (∀ W, Below w.heap.size w W → Calls Tryd.prog 15 #[.slice a n cap] W (DecGives W bs (decE bs))) := fun W hb => decode_any (hB.kept hb) hn hcap (hT.kept hb) (hS.kept hb)
  have e1 := decE_err hne
  have e2 : ¬ decE bs = 0 := hne
  clear hB hn hcap hT hS h2 hne
  generalize hde : decE bs = er at *
  clear hde
  go_enter Tryd.func5, Tryd.ntmps5
  go_upto_region 4 with (first
    | (go_at_call 9; refine Calls.mono HP.out ?_; rintro e w1 ⟨rfl, hb⟩; have HB1 : Hid _ := hb; clear hb)
    | (go_at_call 15; refine (HD.out _ HB1.out).mono ?_; rintro e w2 ⟨da, dc, ra, rc, ma, mc, c, rfl, hfr, hb, hf1, hf2, hf3⟩; rw [if_neg e2] at hfr; have HFR : Hid (FrAt w2 c Fr.zero da dc ra rc ma mc) := hfr; have HB2 : Hid _ := hb; clear hfr hb hf1 hf2 hf3)
    | (show wpList _ _ _ (Oper.mk none (.store 27 (.tmp 3) (.tmp 12)) _ _ _ _ :: _) _ _; refine (Row.new' w2 _ (fcells Fr.zero (.slice none 0 0) (.slice none 0 0) (.slice none 0 0)) 27 _ rfl rfl).wpStore' 27 (.tmp 3) (.tmp 12) c rfl rfl rfl rfl (by rw [HFR.out.cells]; rfl) (by rw [HFR.out.cells]; exact fcells_one _ _ _ _ _ _ _ _ _ _) (by rw [HFR.out.cells]; exact i27) ?_; intro w3 HW))
  have HQ3 : Hid (Row w3 w2.heap.size c 27) := by show Row _ _ _ _; rw [HW.out]; exact (Row.new' w2 _ (fcells Fr.zero (.slice none 0 0) (.slice none 0 0) (.slice none 0 0)) 27 _ rfl rfl).row _
  have HB23 : Hid (Below w2.heap.size w2 w3) := by show Below _ _ _; rw [HW.out]; exact Go.below_setRow ((Below.refl _ _).alloc (Nat.le_refl _) _) (Nat.le_refl _) _
  have HF3 : Hid (FrAt w3 c Fr.zero da dc ra rc ma mc) := HFR.out.kept HB23.out
  have HBw : Hid (Below w.heap.size w w3) := HB1.out.trans ((HB2.out.trans (HB23.out.mono HB2.out.size)).mono HB1.out.size)
  clear HW HFR HB1 HB2 HB23 HD HP
  have HS1 : Hid (Calls Tryd.prog 13 #[.agg c.toArray, .agg (fcells Fr.zero (.slice none 0 0) (.slice none 0 0) (.slice none 0 0)).toArray] w3 fun e w' => e = .returned (.bool true) ∧ Below w3.heap.size w3 w') := same_eq HF3.out (zero_at w3)
  have HZ : Hid (∀ W, Below w3.heap.size w3 W → Calls Tryd.prog 14 #[.agg c.toArray] W fun e w' => e = .returned (.bool false) ∧ Below W.heap.size W w') := fun W hb => by
    have := fit_any (HF3.out.kept hb)
    rw [decide_eq_false zero_unfit] at this
    exact this
  have hc := HF3.out.cells
  subst hc
  obtain ⟨c0, c1, c2, c3, c4, c5, c6, c7, c8, c9, c10, c11⟩ := HQ3.out.fr
  go_wp2_with (first
    | (go_at_call 13; refine Calls.mono HS1.out ?_; rintro e w4 ⟨rfl, hb⟩; have HB4 : Hid _ := hb; clear hb c0 c1 c2 c3 c4 c5 c6 c7 c8 c9 c10 c11; obtain ⟨c0, c1, c2, c3, c4, c5, c6, c7, c8, c9, c10, c11⟩ := (HQ3.out.kept HB4.out HQ3.out.lt).fr)
    | (go_at_call 14; refine (HZ.out _ HB4.out).mono ?_; rintro e w5 ⟨rfl, hb⟩; have HB5 : Hid _ := hb; clear hb c0 c1 c2 c3 c4 c5 c6 c7 c8 c9 c10 c11))
  go_ret
  exact ⟨rfl, HBw.out.trans ((HB4.out.trans (HB5.out.mono HB4.out.size)).mono HBw.out.size)⟩

open Classical in
set_option maxHeartbeats 2000000 in
theorem oneform_ok {w : World} {a : Option Addr} {n cap : Nat} {bs : List (BitVec 8)} (hB : BytesAt w a bs) (hn : bs.length = n) (hcap : n ≤ cap) (hT : CrcTab w) (hS : SizesTab w) (h2 : 2 ≤ w.heap.size) (hz : decE bs = 0) :
    Calls Tryd.prog 5 #[.slice a n cap] w fun e w' => e = .returned (.bool true) ∧ Below w.heap.size w w' := by
  have HP : Hid _ := probe_any hT hS h2
  have HD : Hid (∀ W, Below w.heap.size w W → Calls Tryd.prog 15 #[.slice a n cap] W (DecGives W bs 0)) := fun W hb => by
    have := decode_any (hB.kept hb) hn hcap (hT.kept hb) (hS.kept hb)
    rw [hz] at this; exact this
  have HFI : Hid (fit (rdf bs)) := (decE_zero hz).2.2.2.2.2.2
  have HEN : Hid (enc (rdf bs) = bs) := enc_rdf hz
  have HEL : Hid ((enc (rdf bs)).length = n) := by show _ = _; rw [HEN.out, hn]
  have HB : Hid (BytesAt w a bs) := hB
  have HN : Hid (bs.length = n) := hn
  have HT : Hid (CrcTab w) := hT
  have HS : Hid (SizesTab w) := hS
  have H2 : Hid _ := h2
  clear hB hn hcap hT hS h2 hz
  go_enter Tryd.func5, Tryd.ntmps5
  go_upto_region 4 with (first
    | (go_at_call 9; refine Calls.mono HP.out ?_; rintro e w1 ⟨rfl, hb⟩; have HB1 : Hid _ := hb; clear hb)
    | (go_at_call 15; refine (HD.out _ HB1.out).mono ?_; rintro e w2 ⟨da, dc, ra, rc, ma, mc, c, rfl, hfr, hb, hf1, hf2, hf3⟩; rw [if_pos rfl] at hfr; have HFR : Hid (FrAt w2 c (rdf bs) da dc ra rc ma mc) := hfr; have HB2 : Hid _ := hb; clear hfr hb hf1 hf2 hf3)
    | (show wpList _ _ _ (Oper.mk none (.store 27 (.tmp 3) (.tmp 12)) _ _ _ _ :: _) _ _; refine (Row.new' w2 _ (fcells Fr.zero (.slice none 0 0) (.slice none 0 0) (.slice none 0 0)) 27 _ rfl rfl).wpStore' 27 (.tmp 3) (.tmp 12) c rfl rfl rfl rfl (by rw [HFR.out.cells]; rfl) (by rw [HFR.out.cells]; exact fcells_one _ _ _ _ _ _ _ _ _ _) (by rw [HFR.out.cells]; exact i27) ?_; intro w3 HW))
  have HQ3 : Hid (Row w3 w2.heap.size c 27) := by show Row _ _ _ _; rw [HW.out]; exact (Row.new' w2 _ (fcells Fr.zero (.slice none 0 0) (.slice none 0 0) (.slice none 0 0)) 27 _ rfl rfl).row _
  have HB23 : Hid (Below w2.heap.size w2 w3) := by show Below _ _ _; rw [HW.out]; exact Go.below_setRow ((Below.refl _ _).alloc (Nat.le_refl _) _) (Nat.le_refl _) _
  have HF3 : Hid (FrAt w3 c (rdf bs) da dc ra rc ma mc) := HFR.out.kept HB23.out
  have HBw : Hid (Below w.heap.size w w3) := HB1.out.trans ((HB2.out.trans (HB23.out.mono HB2.out.size)).mono HB1.out.size)
  clear HW HFR HB1 HB2 HB23 HD HP
  have HE : Hid (Calls Tryd.prog 10 #[.agg c.toArray] w3 (EncGives w3 (rdf bs))) := enc_ok HF3.out HFI.out (HT.out.kept HBw.out) (HS.out.kept HBw.out) (Nat.le_trans H2.out HBw.out.size)
  have HZ : Hid (∀ W, Below w3.heap.size w3 W → Calls Tryd.prog 14 #[.agg c.toArray] W fun e w' => e = .returned (.bool true) ∧ Below W.heap.size W w') := fun W hb => by
    have := fit_any (HF3.out.kept hb)
    rw [decide_eq_true HFI.out] at this
    exact this
  have HRF : Hid (∀ W, Below w3.heap.size w3 W → Calls Tryd.prog 11 #[.agg c.toArray] W fun e w' => e = .returned (.bool true) ∧ Below W.heap.size W w') := fun W hb => rfit_yes (HF3.out.kept hb) HFI.out
  have hc := HF3.out.cells
  subst hc
  generalize hF : rdf bs = F at *
  clear hF
  obtain ⟨c0, c1, c2, c3, c4, c5, c6, c7, c8, c9, c10, c11⟩ := HQ3.out.fr
  go_wp2_with (first
    | (go_at_call 10; refine Calls.mono HE.out ?_; rintro e w4 ⟨g, rfl, hg, hR, hb⟩; rw [HEL.out]; have HB4 : Hid _ := hb; have HR4 : Hid (Row w4 g (bcells (enc F)) 5) := hR; clear hg hR hb c0 c1 c2 c3 c4 c5 c6 c7 c8 c9 c10 c11; obtain ⟨c0, c1, c2, c3, c4, c5, c6, c7, c8, c9, c10, c11⟩ := (HQ3.out.kept HB4.out HQ3.out.lt).fr)
    | (go_at_call 14; refine (HZ.out _ HB4.out).mono ?_; rintro e w5 ⟨rfl, hb⟩; have HB5 : Hid _ := hb; clear hb c0 c1 c2 c3 c4 c5 c6 c7 c8 c9 c10 c11; obtain ⟨c0, c1, c2, c3, c4, c5, c6, c7, c8, c9, c10, c11⟩ := ((HQ3.out.kept HB4.out HQ3.out.lt).kept HB5.out (Nat.lt_of_lt_of_le HQ3.out.lt HB4.out.size)).fr)
    | (go_at_call 11; refine (HRF.out _ (HB4.out.trans (HB5.out.mono HB4.out.size))).mono ?_; rintro e w6 ⟨rfl, hb⟩; have HB6 : Hid _ := hb; clear hb c0 c1 c2 c3 c4 c5 c6 c7 c8 c9 c10 c11)
    | (go_at_call 12; refine (samePlain_any (x := bs) (y := bs) (HB.out.kept (HBw.out.trans ((HB4.out.trans ((HB5.out.trans (HB6.out.mono HB5.out.size)).mono HB4.out.size)).mono HBw.out.size))) HN.out ((show BytesAt w4 (some ⟨g, 0, none⟩) bs from fun k hk => ⟨g, 0, rfl, by rw [Nat.zero_add]; exact HR4.out.cell k _ (by rw [HEN.out]; exact bcells_get hk)⟩).kept (HB5.out.trans (HB6.out.mono HB5.out.size))) HN.out).mono ?_; rintro e w7 ⟨rfl, rfl⟩; rw [decide_eq_true rfl]))
  go_ret
  exact ⟨rfl, HBw.out.trans ((HB4.out.trans ((HB5.out.trans (HB6.out.mono HB5.out.size)).mono HB4.out.size)).mono HBw.out.size)⟩

/-- The law. -/
theorem oneform_any {w : World} {a : Option Addr} {n cap : Nat} {bs : List (BitVec 8)} (hB : BytesAt w a bs) (hn : bs.length = n) (hcap : n ≤ cap) (hT : CrcTab w) (hS : SizesTab w) (h2 : 2 ≤ w.heap.size) :
    Calls Tryd.prog 5 #[.slice a n cap] w fun e w' => e = .returned (.bool true) ∧ Below w.heap.size w w' := by
  by_cases h : decE bs = 0
  · exact oneform_ok hB hn hcap hT hS h2 h
  · exact oneform_err hB hn hcap hT hS h2 h
end Go.Proofs.YtgkfnbbgohdalaaDoor
