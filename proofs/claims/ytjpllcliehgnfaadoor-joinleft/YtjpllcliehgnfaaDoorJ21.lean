import Derived.Test.YtjpllcliehgnfaaDoorJ20
namespace Go.Proofs.YtjpllcliehgnfaaDoor
open Go.RowKit Go.Sort
set_option maxRecDepth 100000

set_option maxHeartbeats 4000000 in
/-- Who is Joined leaves once and for good; who is not can't. -/
theorem left_any {w : World} (path : Int) (a b : Nat) (ha : a < 18446744073709551616) (hb : b < 18446744073709551616) (hK : KTab w) (h1 : 1 ≤ w.heap.size) :
    Calls Tryd.prog 4 #[.int .i64 path, .int .u64 (a : Int), .int .u64 (b : Int)] w fun e w' => e = .returned (.bool true) ∧ Below w.heap.size w w' := by
  have HAB := hid (And.intro ha hb)
  have HK := hid hK
  have H1 := hid h1
  clear ha hb hK h1
  go_enter Tryd.func4, Tryd.ntmps4
  go_upto_region 4 with (first
    | (go_at_call_of 9 (Value.int IntKind.i64 1); refine (new_side 1 1 path b a 3 rfl).mono ?_; rintro e w2 ⟨rfl, hf2, hb2⟩
       have HT2 : Hid (Tw w w.heap.size w1.heap.size (mk0 0 path a b 3) (mk0 1 path b a 3) w2) := ⟨HF1.out.kept hb2, hf2, HB1.out.trans (hb2.mono HB1.out.size), Row.lt HF1.out, Nat.le_refl _⟩
       clear hf2 hb2)
    | (go_at_call_of 9 (Value.int IntKind.i64 0); refine (new_side 0 0 path a b 3 rfl).mono ?_; rintro e w1 ⟨rfl, hf1, hb1⟩; have HF1 := hid hf1; have HB1 := hid hb1; clear hf1 hb1))
  clear HF1 HB1
  generalize w1.heap.size = q at *
  by_cases hp : path = 0
  · subst hp
    have HT : Hid (Tw w w.heap.size q ⟨0, 0, a, b, 3, 3, false, 0#32, 0, 0⟩ ⟨1, 0, b, a, 3, 3, false, 0#32, 0, 0⟩ w2) := HT2.out
    clear HT2
    go_wp2_with (first
      | (go_at_call_of 13 (Value.pointer (some ⟨q, 0, none⟩)); refine (state_any HT4.out.hb).mono ?_; rintro e wy ⟨rfl, hwy⟩; subst hwy)
      | (go_at_call_of 13 (Value.pointer (some ⟨w.heap.size, 0, none⟩)); refine (state_any HT4.out.ha).mono ?_; rintro e wx ⟨rfl, hwx⟩; subst hwx)
      | (go_at_call_of 14 (Value.pointer (some ⟨w.heap.size, 0, none⟩)); refine (leave_no HT4.out.ha (by show ¬ (4 : Int) = 3; decide)).mono ?_; rintro e wv ⟨rfl, hwv⟩; subst hwv)
      | (go_at_call_of 14 (Value.pointer (some ⟨q, 0, none⟩)); refine (leave_yes HT3.out.hb rfl).mono ?_; rintro e w4 ⟨rfl, hf, ho⟩; have HT4 := hid (HT3.out.onB ho hf); clear hf ho)
      | (go_at_call_of 14 (Value.pointer (some ⟨w.heap.size, 0, none⟩)); refine (leave_yes HT.out.ha rfl).mono ?_; rintro e w3 ⟨rfl, hf, ho⟩; have HT3 := hid (HT.out.onA ho hf); clear hf ho))
    go_ret
    exact ⟨rfl, HT4.out.bel⟩
  · have HT : Hid (Tw w w.heap.size q (⟨0, path, a, b, 3, 0, false, 0#32, 0, 0⟩ : Hf) (⟨1, path, b, a, 3, 0, false, 0#32, 0, 0⟩ : Hf) w2) := by
      have := HT2.out
      unfold mk0 at this
      rw [if_neg hp] at this
      exact this
    clear HT2
    have HP := hid hp
    go_upto_region 7 with (first
      | (go_at_call_of 14 (Value.pointer (some ⟨w.heap.size, 0, none⟩)); refine (leave_no HT.out.ha (by show ¬ (0 : Int) = 3; decide)).mono ?_; rintro e wx ⟨rfl, hwx⟩; subst hwx)
      | (go_at_call_of 14 (Value.pointer (some ⟨q, 0, none⟩)); refine (leave_no HT.out.hb (by show ¬ (0 : Int) = 3; decide)).mono ?_; rintro e wx ⟨rfl, hwx⟩; subst hwx))
    go_upto_region 8 with (first
      | (go_at_call 10; refine (start_yes HT.out.ha rfl rfl HAB.out.2 (HT.out.k HK.out) (Nat.le_trans H1.out HT.out.ge) 0 false).mono ?_; rintro e w11 ⟨v, rfl, ⟨m11, hv, om⟩, hf, ho⟩; have HT11 := hid (HT.out.onA ho hf); have HM11 := hid om; have HV11 := hid hv; have HO11 := hid ho; clear hv om hf ho)
      | (show wpList _ _ _ (Oper.mk none (.store 29 (.tmp 9) (.tmp 44)) _ _ _ _ :: _) _ _; refine (Row.new' w11 _ frZ 29 _ rfl rfl).wpStore' 29 (.tmp 9) (.tmp 44) (frC ((⟨0, path, a, b, 3, 1, false, 0#32, 0, 0⟩ : Hf).ask).k ((⟨0, path, a, b, 3, 1, false, 0#32, 0, 0⟩ : Hf).ask).p ((⟨0, path, a, b, 3, 1, false, 0#32, 0, 0⟩ : Hf).ask).tok ((⟨0, path, a, b, 3, 1, false, 0#32, 0, 0⟩ : Hf).ask).non m11 ((⟨0, path, a, b, 3, 1, false, 0#32, 0, 0⟩ : Hf).ask).bk) rfl rfl rfl HV11.out rfl (frC_m HM11.out) i29 ?_; intro wz11 HZ11))
    have HB11 : Hid (Below w11.heap.size w11 wz11) := by show Below _ _ _; rw [HZ11.out]; exact below_put _ _ _
    have HX11_ask : Hid (Bx q w11.heap.size ((⟨0, path, a, b, 3, 1, false, 0#32, 0, 0⟩ : Hf).ask) m11 wz11) := by show Bx _ _ _ _ _; rw [HZ11.out]; exact Bx.new HM11.out HT.out.lt (Nat.lt_of_lt_of_le HT.out.lt HO11.out.size)
    have HU11 := hid (HT11.out.kept HB11.out)
    clear HT HT11 HB11 HZ11 HM11 HV11 HO11
    generalize w11.heap.size = g11 at *
    go_upto_region 9 with (first
      | (show wpList _ _ _ (Oper.mk (some 48) (.load 29 (.tmp 9)) _ _ _ _ :: _) _ _; refine HX11_ask.out.row.wpLoad 29 (.tmp 9) rfl rfl rfl _ Tryd.underlying29 rfl i29 ?_)
      | (go_at_call 15; refine (hear_join HU11.out.hb HX11_ask.out.frin HP.out rfl rfl rfl (.inl rfl) rfl HAB.out.2 (by have := HU11.out.ge; have := HU11.out.ne; have := H1.out; omega) (HU11.out.k HK.out) (HU11.out.one H1.out) 0).mono ?_; rintro e w12 ⟨v, rfl, ⟨m12, hv, om⟩, hf, ho⟩; have HT12 := hid (HU11.out.onB ho hf); have HM12 := hid om; have HV12 := hid hv; have HO12 := hid ho; clear hv om hf ho)
      | (show wpList _ _ _ (Oper.mk none (.store 29 (.tmp 11) (.tmp 50)) _ _ _ _ :: _) _ _; refine (Row.new' w12 _ frZ 29 _ rfl rfl).wpStore' 29 (.tmp 11) (.tmp 50) (frC ((⟨1, path, b, a, 3, 2, false, (nonceOf a path), 0, 0⟩ : Hf).answer).k ((⟨1, path, b, a, 3, 2, false, (nonceOf a path), 0, 0⟩ : Hf).answer).p ((⟨1, path, b, a, 3, 2, false, (nonceOf a path), 0, 0⟩ : Hf).answer).tok ((⟨1, path, b, a, 3, 2, false, (nonceOf a path), 0, 0⟩ : Hf).answer).non m12 ((⟨1, path, b, a, 3, 2, false, (nonceOf a path), 0, 0⟩ : Hf).answer).bk) rfl rfl rfl HV12.out rfl (frC_m HM12.out) i29 ?_; intro wz12 HZ12))
    have HX12_ask := hid (HX11_ask.out.only HO12.out (Nat.le_refl _))
    clear HX11_ask
    have HB12 : Hid (Below w12.heap.size w12 wz12) := by show Below _ _ _; rw [HZ12.out]; exact below_put _ _ _
    have HX12_ans : Hid (Bx q w12.heap.size ((⟨1, path, b, a, 3, 2, false, (nonceOf a path), 0, 0⟩ : Hf).answer) m12 wz12) := by show Bx _ _ _ _ _; rw [HZ12.out]; exact Bx.new HM12.out HU11.out.lt (Nat.lt_of_lt_of_le HU11.out.lt HO12.out.size)
    have HY12_ask := hid (HX12_ask.out.kept HB12.out)
    clear HX12_ask
    have HU12 := hid (HT12.out.kept HB12.out)
    clear HU11 HT12 HB12 HZ12 HM12 HV12 HO12
    generalize w12.heap.size = g12 at *
    go_upto_region 10 with (first
      | (show wpList _ _ _ (Oper.mk (some 54) (.load 29 (.tmp 11)) _ _ _ _ :: _) _ _; refine HX12_ans.out.row.wpLoad 29 (.tmp 11) rfl rfl rfl _ Tryd.underlying29 rfl i29 ?_)
      | (go_at_call 15; refine (hear_joined HU12.out.ha HX12_ans.out.frin HP.out rfl rfl rfl (.inl rfl) rfl (Nat.le_trans H1.out HU12.out.ge) (HU12.out.k HK.out) (HU12.out.one H1.out) 0).mono ?_; rintro e w13 ⟨v, rfl, ⟨m13, hv, om⟩, hf, ho⟩; have HT13 := hid (HU12.out.onA ho hf); have HM13 := hid om; have HV13 := hid hv; have HO13 := hid ho; clear hv om hf ho)
      | (show wpList _ _ _ (Oper.mk none (.store 29 (.tmp 13) (.tmp 56)) _ _ _ _ :: _) _ _; refine (Row.new' w13 _ frZ 29 _ rfl rfl).wpStore' 29 (.tmp 13) (.tmp 56) (frC ((⟨0, path, a, b, 3, 3, false, 0#32, 0, 0⟩ : Hf).proves (nonceOf b path)).k ((⟨0, path, a, b, 3, 3, false, 0#32, 0, 0⟩ : Hf).proves (nonceOf b path)).p ((⟨0, path, a, b, 3, 3, false, 0#32, 0, 0⟩ : Hf).proves (nonceOf b path)).tok ((⟨0, path, a, b, 3, 3, false, 0#32, 0, 0⟩ : Hf).proves (nonceOf b path)).non m13 ((⟨0, path, a, b, 3, 3, false, 0#32, 0, 0⟩ : Hf).proves (nonceOf b path)).bk) rfl rfl rfl HV13.out rfl (frC_m HM13.out) i29 ?_; intro wz13 HZ13))
    have HX13_ask := hid (HY12_ask.out.only HO13.out (by have := HU12.out.ne; omega))
    clear HY12_ask
    have HX13_ans := hid (HX12_ans.out.only HO13.out (by have := HU12.out.ne; omega))
    clear HX12_ans
    have HB13 : Hid (Below w13.heap.size w13 wz13) := by show Below _ _ _; rw [HZ13.out]; exact below_put _ _ _
    have HX13_prf : Hid (Bx q w13.heap.size ((⟨0, path, a, b, 3, 3, false, 0#32, 0, 0⟩ : Hf).proves (nonceOf b path)) m13 wz13) := by show Bx _ _ _ _ _; rw [HZ13.out]; exact Bx.new HM13.out HU12.out.lt (Nat.lt_of_lt_of_le HU12.out.lt HO13.out.size)
    have HY13_ask := hid (HX13_ask.out.kept HB13.out)
    clear HX13_ask
    have HY13_ans := hid (HX13_ans.out.kept HB13.out)
    clear HX13_ans
    have HU13 := hid (HT13.out.kept HB13.out)
    clear HU12 HT13 HB13 HZ13 HM13 HV13 HO13
    generalize w13.heap.size = g13 at *
    go_upto_region 12 with (go_at_call 14; refine (leave_no HU13.out.hb (by show ¬ (2 : Int) = 3; decide)).mono ?_; rintro e wx ⟨rfl, hwx⟩; subst hwx)
    go_upto_region 13 with (first
      | (show wpList _ _ _ (Oper.mk (some 61) (.load 29 (.tmp 13)) _ _ _ _ :: _) _ _; refine HX13_prf.out.row.wpLoad 29 (.tmp 13) rfl rfl rfl _ Tryd.underlying29 rfl i29 ?_)
      | (go_at_call 15; refine (hear_prove HU13.out.hb HX13_prf.out.frin HP.out rfl rfl rfl rfl (HU13.out.k HK.out) (HU13.out.one H1.out) 0).mono ?_; rintro e w14 ⟨v, rfl, ⟨m14, hv, om⟩, hf, ho⟩; have HT14 := hid (HU13.out.onB ho hf); have HM14 := hid om; have HV14 := hid hv; have HO14 := hid ho; clear hv om hf ho))
    have HX14_ask := hid (HY13_ask.out.only HO14.out (Nat.le_refl _))
    clear HY13_ask
    have HX14_ans := hid (HY13_ans.out.only HO14.out (Nat.le_refl _))
    clear HY13_ans
    have HX14_prf := hid (HX13_prf.out.only HO14.out (Nat.le_refl _))
    clear HX13_prf
    clear HU13 HM14 HV14 HO14
    go_upto_region 15 with (go_at_call 14; refine (leave_yes HT14.out.ha rfl).mono ?_; rintro e w15 ⟨rfl, hf, ho⟩; have HT15 := hid (HT14.out.onA ho hf); have HO15 := hid ho; clear hf ho)
    have HX15_ask := hid (HX14_ask.out.only HO15.out (by have := HT14.out.ne; omega))
    clear HX14_ask
    have HX15_ans := hid (HX14_ans.out.only HO15.out (by have := HT14.out.ne; omega))
    clear HX14_ans
    have HX15_prf := hid (HX14_prf.out.only HO15.out (by have := HT14.out.ne; omega))
    clear HX14_prf
    clear HT14 HO15
    go_upto_region 16 with (first
      | (go_at_call 10; refine (start_no HT15.out.ha (by rintro ⟨_, h⟩; revert h; show ¬ (4 : Int) = 0; decide) 0 false).mono ?_; rintro e w16 ⟨v, rfl, ⟨m16, hv, om⟩, hf, ho⟩; have HT16 := hid (HT15.out.onA ho hf); have HM16 := hid om; have HV16 := hid hv; have HO16 := hid ho; clear hv om hf ho)
      | (show wpList _ _ _ (Oper.mk none (.store 29 (.tmp 15) (.tmp 69)) _ _ _ _ :: _) _ _; refine (Row.new' w16 _ frZ 29 _ rfl rfl).wpStore' 29 (.tmp 15) (.tmp 69) (frC (Fo.zero).k (Fo.zero).p (Fo.zero).tok (Fo.zero).non m16 (Fo.zero).bk) rfl rfl rfl HV16.out rfl (frC_m HM16.out) i29 ?_; intro wz16 HZ16))
    have HX16_ask := hid (HX15_ask.out.only HO16.out (by have := HT15.out.ne; omega))
    clear HX15_ask
    have HX16_ans := hid (HX15_ans.out.only HO16.out (by have := HT15.out.ne; omega))
    clear HX15_ans
    have HX16_prf := hid (HX15_prf.out.only HO16.out (by have := HT15.out.ne; omega))
    clear HX15_prf
    have HB16 : Hid (Below w16.heap.size w16 wz16) := by show Below _ _ _; rw [HZ16.out]; exact below_put _ _ _
    have HY16_ask := hid (HX16_ask.out.kept HB16.out)
    clear HX16_ask
    have HY16_ans := hid (HX16_ans.out.kept HB16.out)
    clear HX16_ans
    have HY16_prf := hid (HX16_prf.out.kept HB16.out)
    clear HX16_prf
    have HU16 := hid (HT16.out.kept HB16.out)
    clear HT15 HT16 HB16 HZ16 HM16 HV16 HO16
    generalize w16.heap.size = g16 at *
    go_upto_region 17 with (first
      | (show wpList _ _ _ (Oper.mk (some 73) (.load 29 (.tmp 11)) _ _ _ _ :: _) _ _; refine HY16_ans.out.row.wpLoad 29 (.tmp 11) rfl rfl rfl _ Tryd.underlying29 rfl i29 ?_)
      | (go_at_call 15; refine (hear_joined_no HU16.out.ha HY16_ans.out.frin HP.out rfl rfl (by rintro ⟨_, h, _⟩; revert h; show ¬ ((4 : Int) = 1 ∨ (4 : Int) = 3); decide) (HU16.out.k HK.out) (HU16.out.one H1.out) 0).mono ?_; rintro e w17 ⟨v, rfl, ⟨m17, hv, om⟩, hf, ho⟩; have HT17 := hid (HU16.out.onA ho hf); have HM17 := hid om; have HV17 := hid hv; have HO17 := hid ho; clear hv om hf ho)
      | (show wpList _ _ _ (Oper.mk none (.store 29 (.tmp 17) (.tmp 75)) _ _ _ _ :: _) _ _; refine (Row.new' w17 _ frZ 29 _ rfl rfl).wpStore' 29 (.tmp 17) (.tmp 75) (frC (Fo.zero).k (Fo.zero).p (Fo.zero).tok (Fo.zero).non m17 (Fo.zero).bk) rfl rfl rfl HV17.out rfl (frC_m HM17.out) i29 ?_; intro wz17 HZ17))
    have HX17_ask := hid (HY16_ask.out.only HO17.out (by have := HU16.out.ne; omega))
    clear HY16_ask
    have HX17_ans := hid (HY16_ans.out.only HO17.out (by have := HU16.out.ne; omega))
    clear HY16_ans
    have HX17_prf := hid (HY16_prf.out.only HO17.out (by have := HU16.out.ne; omega))
    clear HY16_prf
    have HB17 : Hid (Below w17.heap.size w17 wz17) := by show Below _ _ _; rw [HZ17.out]; exact below_put _ _ _
    have HY17_ask := hid (HX17_ask.out.kept HB17.out)
    clear HX17_ask
    have HY17_ans := hid (HX17_ans.out.kept HB17.out)
    clear HX17_ans
    have HY17_prf := hid (HX17_prf.out.kept HB17.out)
    clear HX17_prf
    have HU17 := hid (HT17.out.kept HB17.out)
    clear HU16 HT17 HB17 HZ17 HM17 HV17 HO17
    generalize w17.heap.size = g17 at *
    go_upto_region 19 with (first
      | (go_at_call 13; refine (state_any HU17.out.ha).mono ?_; rintro e wx ⟨rfl, hwx⟩; subst hwx)
      | (go_at_call 14; refine (leave_yes HU17.out.hb rfl).mono ?_; rintro e w18 ⟨rfl, hf, ho⟩; have HT18 := hid (HU17.out.onB ho hf); have HO18 := hid ho; clear hf ho))
    have HX18_ask := hid (HY17_ask.out.only HO18.out (Nat.le_refl _))
    clear HY17_ask
    have HX18_ans := hid (HY17_ans.out.only HO18.out (Nat.le_refl _))
    clear HY17_ans
    have HX18_prf := hid (HY17_prf.out.only HO18.out (Nat.le_refl _))
    clear HY17_prf
    clear HU17 HO18
    go_upto_region 20 with (first
      | (show wpList _ _ _ (Oper.mk (some 93) (.load 29 (.tmp 9)) _ _ _ _ :: _) _ _; refine HX18_ask.out.row.wpLoad 29 (.tmp 9) rfl rfl rfl _ Tryd.underlying29 rfl i29 ?_)
      | (go_at_call 15; refine (hear_join_no HT18.out.hb HX18_ask.out.frin HP.out rfl rfl (by rintro ⟨_, h, _⟩; revert h; show ¬ ((4 : Int) = 0 ∨ (4 : Int) = 2); decide) HAB.out.2 (HT18.out.k HK.out) (HT18.out.one H1.out) 0).mono ?_; rintro e w19 ⟨v, rfl, ⟨m19, hv, om⟩, hf, ho⟩; have HT19 := hid (HT18.out.onB ho hf); have HM19 := hid om; have HV19 := hid hv; have HO19 := hid ho; clear hv om hf ho))
    have HX19_ask := hid (HX18_ask.out.only HO19.out (Nat.le_refl _))
    clear HX18_ask
    have HX19_ans := hid (HX18_ans.out.only HO19.out (Nat.le_refl _))
    clear HX18_ans
    have HX19_prf := hid (HX18_prf.out.only HO19.out (Nat.le_refl _))
    clear HX18_prf
    clear HT18 HM19 HV19 HO19
    go_wp2_with (first
      | (go_at_call 13; refine (state_any HT19.out.hb).mono ?_; rintro e wx ⟨rfl, hwx⟩; subst hwx)
      | (go_at_call_of 14 (Value.pointer (some ⟨w.heap.size, 0, none⟩)); refine (leave_no HT19.out.ha (by show ¬ (4 : Int) = 3; decide)).mono ?_; rintro e wx ⟨rfl, hwx⟩; subst hwx)
      | (go_at_call_of 14 (Value.pointer (some ⟨q, 0, none⟩)); refine (leave_no HT19.out.hb (by show ¬ (4 : Int) = 3; decide)).mono ?_; rintro e wx ⟨rfl, hwx⟩; subst hwx))
    go_ret
    exact ⟨rfl, HT19.out.bel⟩
end Go.Proofs.YtjpllcliehgnfaaDoor
