import Derived.Test.YtjpllcliehgnfaaDoorJ26
namespace Go.Proofs.YtjpllcliehgnfaaDoor
open Go.RowKit Go.Sort
set_option maxRecDepth 100000

set_option maxHeartbeats 40000000 in
theorem comes_zero {w : World} (a b : Nat) (ret : Int) (bk : Bool) (L : List (Int × Int)) (ad : Option Addr) (cap : Nat) (hL : TnAt w ad L) (hlen : L.length ≤ 281474976710656) (ha : a < 18446744073709551616) (hb : b < 18446744073709551616) (hK : KTab w) (h1 : 1 ≤ w.heap.size) :
    Calls Tryd.prog 5 #[.int .i64 0, .int .u64 (a : Int), .int .u64 (b : Int), .int .i64 ret, .bool bk, .slice ad L.length cap] w fun e w' => e = .returned (.bool true) ∧ Below w.heap.size w w' := by
  obtain ⟨Rn, hRn⟩ : ∃ Rn : Nat, clampR ret = (Rn : Int) := ⟨(clampR ret).toNat, by unfold clampR; omega⟩
  have hR16 : Rn ≤ 16 := by unfold clampR at hRn; omega
  have hq : ¬ (1 : Int) = 0 := by decide
  have HF0 : Hid (mk0 0 (1 : Int) a b ret = ⟨0, (1 : Int), a, b, (Rn : Int), 0, false, 0#32, 0, 0⟩) := by show _ = _; unfold mk0; rw [hRn, if_neg hq]
  have HG0 : Hid (mk0 1 (1 : Int) b a ret = (⟨1, (1 : Int), b, a, (Rn : Int), 0, false, 0#32, 0, 0⟩ : Hf)) := by show _ = _; unfold mk0; rw [hRn, if_neg hq]
  have HP := hid hq
  have HAB := hid (And.intro ha hb)
  have HK := hid hK
  have H1 := hid h1
  have HR := hid hR16
  have HL := hid hL
  have HLN := hid hlen
  clear ha hb hK h1 hRn hR16 hq hL hlen
  go_enter Tryd.func5, Tryd.ntmps5
  go_upto_region 6 with (first
    | (go_at_call 9; have HFx := HF1; clear HFx; refine (new_side 1 1 (1 : Int) b a ret rfl).mono ?_; rintro e w2 ⟨rfl, hf2, hb2⟩; rw [HG0.out] at hf2
       have HT : Hid (Tw w w.heap.size w1.heap.size (⟨0, (1 : Int), a, b, (Rn : Int), 0, false, 0#32, 0, 0⟩ : Hf) (⟨1, (1 : Int), b, a, (Rn : Int), 0, false, 0#32, 0, 0⟩ : Hf) w2) := ⟨HF1.out.kept hb2, hf2, HB1.out.trans (hb2.mono HB1.out.size), Row.lt HF1.out, Nat.le_refl _⟩
       clear hf2 hb2)
    | (go_at_call 9; refine (new_side 0 0 (1 : Int) a b ret rfl).mono ?_; rintro e w1 ⟨rfl, hf1, hb1⟩; rw [HF0.out] at hf1; have HF1 := hid hf1; have HB1 := hid hb1; clear hf1 hb1)
    | (go_at_call_of 13 (Value.pointer (some ⟨w.heap.size, 0, none⟩)); refine (state_any HT.out.ha).mono ?_; rintro e wx ⟨rfl, hwx⟩; subst hwx)
    | (go_at_call_of 13 (Value.pointer (some ⟨w1.heap.size, 0, none⟩)); refine (state_any HT.out.hb).mono ?_; rintro e wx ⟨rfl, hwx⟩; subst hwx))
  clear HF1 HB1
  generalize w1.heap.size = q at *
  go_upto_region 7 with (first
    | (go_at_call 10; refine (start_yes HT.out.ha rfl rfl HAB.out.2 (HT.out.k HK.out) (Nat.le_trans H1.out HT.out.ge) 0 bk).mono ?_; rintro e w11 ⟨v, rfl, ⟨m11, hv, om⟩, hf, ho⟩; have HT11 := hid (HT.out.onA ho hf); have HM11 := hid om; have HV11 := hid hv; have HO11 := hid ho; clear hv om hf ho)
    | (show wpList _ _ _ (Oper.mk none (.store 29 (.tmp 15) (.tmp 61)) _ _ _ _ :: _) _ _; refine (Row.new' w11 _ frZ 29 _ rfl rfl).wpStore' 29 (.tmp 15) (.tmp 61) (frC ((⟨0, (1 : Int), a, b, (Rn : Int), 1, bk, 0#32, 0, 0⟩ : Hf).ask).k ((⟨0, (1 : Int), a, b, (Rn : Int), 1, bk, 0#32, 0, 0⟩ : Hf).ask).p ((⟨0, (1 : Int), a, b, (Rn : Int), 1, bk, 0#32, 0, 0⟩ : Hf).ask).tok ((⟨0, (1 : Int), a, b, (Rn : Int), 1, bk, 0#32, 0, 0⟩ : Hf).ask).non m11 ((⟨0, (1 : Int), a, b, (Rn : Int), 1, bk, 0#32, 0, 0⟩ : Hf).ask).bk) rfl rfl rfl HV11.out rfl (frC_m HM11.out) i29 ?_; intro wz11 HZ11))
  have HB11 : Hid (Below w11.heap.size w11 wz11) := by show Below _ _ _; rw [HZ11.out]; exact below_put _ _ _
  have HX11_ask : Hid (Bx q w11.heap.size ((⟨0, (1 : Int), a, b, (Rn : Int), 1, bk, 0#32, 0, 0⟩ : Hf).ask) m11 wz11) := by show Bx _ _ _ _ _; rw [HZ11.out]; exact Bx.new HM11.out HT.out.lt (Nat.lt_of_lt_of_le HT.out.lt HO11.out.size)
  have HU11 := hid (HT11.out.kept HB11.out)
  clear HT HT11 HB11 HZ11 HM11 HV11 HO11
  generalize w11.heap.size = g11 at *
  have HA0 : Hid (Bx q g11 (askF (1 : Int) a b bk) m11 wz11) := HX11_ask.out
  clear HX11_ask
  go_upto_region 9 with (go_at_call 13; refine (state_any HU11.out.ha).mono ?_; rintro e wx ⟨rfl, hwx⟩; subst hwx)
  go_upto_region 10 with (first
    | (show wpList _ _ _ (Oper.mk (some 70) (.load 29 (.tmp 15)) _ _ _ _ :: _) _ _; refine HA0.out.row.wpLoad 29 (.tmp 15) rfl rfl rfl _ Tryd.underlying29 rfl i29 ?_)
    | (show wpList _ _ _ (Oper.mk none (.store 29 (.tmp 17) (.tmp 70)) _ _ _ _ :: _) _ _; refine (((Row.new' wx _ frZ 29 _ rfl rfl).alloc _).alloc _).wpStore' 29 (.tmp 17) (.tmp 70) (frC (askF (1 : Int) a b bk).k (askF (1 : Int) a b bk).p (askF (1 : Int) a b bk).tok (askF (1 : Int) a b bk).non m11 (askF (1 : Int) a b bk).bk) rfl rfl rfl rfl rfl (frC_m HA0.out.own) i29 ?_; intro wA HZA
       have HA17 : Hid (Row wA wx.heap.size (frC (askF (1 : Int) a b bk).k (askF (1 : Int) a b bk).p (askF (1 : Int) a b bk).tok (askF (1 : Int) a b bk).non m11 (askF (1 : Int) a b bk).bk) 29) := by show Row _ _ _ _; rw [HZA.out]; exact (((Row.new' wx _ frZ 29 _ rfl rfl).alloc _).alloc _).row _
       have HA18 : Hid (Row wA (wx.heap.size + 1) frZ 29) := by show Row _ _ _ _; rw [HZA.out]; exact ((Row.new' _ _ frZ 29 _ (by simp) rfl).alloc _).rowOther (by omega) _
       have HA19 : Hid (Row wA (wx.heap.size + 1 + 1) frZ 29) := by show Row _ _ _ _; rw [HZA.out]; exact (Row.new' _ _ frZ 29 _ (by simp) rfl).rowOther (by omega) _
       have HBA : Hid (Below wx.heap.size wx wA) := by show Below _ _ _; rw [HZA.out]; exact Go.below_setRow ((((Below.refl _ _).alloc (Nat.le_refl _) _).alloc (by simp) _).alloc (by simp; omega) _) (Nat.le_refl _) _
       clear HZA)
    | (show wpList _ _ _ (Oper.mk none (.store 29 (.tmp 18) (.tmp 71)) _ _ _ _ :: _) _ _; refine HA18.out.wpStore' 29 (.tmp 18) (.tmp 71) frZ rfl rfl rfl rfl rfl frZ_one i29 ?_; intro wB HZB
       have HB17 : Hid (Row wB wx.heap.size (frC (askF (1 : Int) a b bk).k (askF (1 : Int) a b bk).p (askF (1 : Int) a b bk).tok (askF (1 : Int) a b bk).non m11 (askF (1 : Int) a b bk).bk) 29) := by show Row _ _ _ _; rw [HZB.out]; exact HA17.out.rowOther (by omega) _
       have HB18 : Hid (Row wB (wx.heap.size + 1) frZ 29) := by show Row _ _ _ _; rw [HZB.out]; exact HA18.out.row _
       have HB19 : Hid (Row wB (wx.heap.size + 1 + 1) frZ 29) := by show Row _ _ _ _; rw [HZB.out]; exact HA19.out.rowOther (by omega) _
       have HBB : Hid (Below wx.heap.size wx wB) := by show Below _ _ _; rw [HZB.out]; exact Go.below_setRow HBA.out (by omega) _
       clear HZB HA17 HA18 HA19 HBA)
    | (show wpList _ _ _ (Oper.mk none (.store 29 (.tmp 19) (.tmp 72)) _ _ _ _ :: _) _ _; refine HB19.out.wpStore' 29 (.tmp 19) (.tmp 72) frZ rfl rfl rfl rfl rfl frZ_one i29 ?_; intro wC HZC))
  have HC17 : Hid (Row wC wx.heap.size (frC (askF (1 : Int) a b bk).k (askF (1 : Int) a b bk).p (askF (1 : Int) a b bk).tok (askF (1 : Int) a b bk).non m11 (askF (1 : Int) a b bk).bk) 29) := by show Row _ _ _ _; rw [HZC.out]; exact HB17.out.rowOther (by omega) _
  have HC18 : Hid (Row wC (wx.heap.size + 1) frZ 29) := by show Row _ _ _ _; rw [HZC.out]; exact HB18.out.rowOther (by omega) _
  have HC19 : Hid (Row wC (wx.heap.size + 1 + 1) frZ 29) := by show Row _ _ _ _; rw [HZC.out]; exact HB19.out.row _
  have HBC : Hid (Below wx.heap.size wx wC) := by show Below _ _ _; rw [HZC.out]; exact Go.below_setRow HBB.out (by omega) _
  clear HZC HB17 HB18 HB19 HBB
  simp only [Act.put]
  go_upto_region 12 with (show wpList _ _ _ (Oper.mk none (.store 40 (.tmp 22) (.tmp 73)) _ _ _ _ :: _) _ _; refine (Row.new' wC _ [.int .u64 0, .int .u64 0] 40 _ rfl rfl).wpStore' 40 (.tmp 22) (.tmp 73) [.int .u64 0, .int .u64 0] rfl rfl rfl rfl rfl (by intro v hv; simp at hv; subst hv; rfl) i40 ?_; intro wD HZD)
  have HBD : Hid (Below wC.heap.size wC wD) := by show Below _ _ _; rw [HZD.out]; exact Go.below_setRow (below_new _ _) (Nat.le_refl _) _
  have HQL : Hid (q < wx.heap.size) := HU11.out.lt
  have HX22 : Hid (Rw q wC.heap.size [.int .u64 ((0 : Nat) : Int), .int .u64 ((0 : Nat) : Int)] 40 wD) := ⟨by rw [HZD.out]; exact (Row.new' wC _ [.int .u64 0, .int .u64 0] 40 _ rfl rfl).row _, Nat.lt_of_lt_of_le HQL.out HBC.out.size⟩
  have HX17 : Hid (Bx q wx.heap.size (askF (1 : Int) a b bk) m11 wD) := ⟨HC17.out.kept HBD.out HC17.out.lt, (HA0.out.own.kept HBC.out).kept HBD.out, HQL.out⟩
  have HX18 : Hid (Bx q (wx.heap.size + 1) Fo.zero (.slice none 0 0) wD) := ⟨HC18.out.kept HBD.out HC18.out.lt, OwnB.nil _ _, Nat.lt_succ_of_lt HQL.out⟩
  have HX19 : Hid (Bx q (wx.heap.size + 1 + 1) Fo.zero (.slice none 0 0) wD) := ⟨HC19.out.kept HBD.out HC19.out.lt, OwnB.nil _ _, Nat.lt_succ_of_lt (Nat.lt_succ_of_lt HQL.out)⟩
  have HTD := hid ((HU11.out.kept HBC.out).kept HBD.out)
  have HG22 : Hid (wx.heap.size + 1 + 1 < wC.heap.size) := HC19.out.lt
  clear HU11 HC17 HC18 HC19 HBC HBD HZD HA0 HQL
  generalize wx.heap.size = g17 at *
  generalize wC.heap.size = g22 at *
  simp only [Act.put]
  go_wp2_with (fail)
  go_loopw [20, 21, 76] (fun v20 v21 v76 wr => CmI w q g17 (g17 + 1) (g17 + 1 + 1) g22 (1 : Int) a b Rn L.length bk v20 v21 v76 wr) (fun _ _ v76 _ => L.length + 1 - (intOf v76).toNat)
  case atStart =>
    exact ⟨0, false, false, 1, 0, 0, _, 0, 0, m11, _, _, rfl, rfl, rfl, Nat.zero_le _, HTD.out, .inl rfl, Nat.zero_le _, .inl ⟨rfl, rfl⟩, fun h => (by cases h), HX17.out, HX18.out, HX19.out, HX22.out, by decide, by decide⟩
  case round =>
    obtain ⟨i, said, proved, sA, agA, mkA, B, n0, n1, m17, m18, m19, rfl, rfl, rfl, hi, hT, hsA, hagA, hB, hpr, hx17, hx18, hx19, hx22, hn0, hn1⟩ := hrel
    by_cases hlt : i < L.length
    · have HTr := hid hT
      have HX17 := hid hx17
      have HX18 := hid hx18
      have HX19 := hid hx19
      have HX22 := hid hx22
      have HN := hid (And.intro hn0 hn1)
      have HAG := hid hagA
      have HLT := hid hlt
      have hlti : (i : Int) < (L.length : Int) := by omega
      have hi48 : (i : Int) ≤ 281474976710656 := by have := HLN.out; omega
      have hi0 : (0 : Int) ≤ (i : Int) := by omega
      clear hT hx17 hx18 hx19 hx22 hn0 hn1 hagA hi
      obtain ⟨gL, oL, eL, cK, cM⟩ := HL.out i hlt
      generalize L[i].1 = KK at *
      generalize L[i].2 = MM at *
      clear hlt
      have HRG : Hid (wr.rangeAt gL (oL + i * 2) [.int .i64 KK, .int .i64 MM]) := tn_range (cell_kept HTr.out.bel cK) (cell_kept HTr.out.bel cM)
      have HEL := hid eL
      rw [eL]
      clear cK cM eL
      go_upto_region 15 with (first
        | (show wpList _ _ _ (Oper.mk (some 79) (.load 42 (.tmp 78)) _ _ _ _ :: _) _ _; refine wpList_load_mid rfl 42 (.tmp 78) rfl gL (oL + i * 2) rfl _ _ HRG.out Tryd.underlying42 rfl i42 ?_)
        | (show wpList _ _ _ (Oper.mk none (.store 42 (.tmp 24) (.tmp 79)) _ _ _ _ :: _) _ _; refine (Row.new' wr _ [.int .i64 0, .int .i64 0] 42 _ rfl rfl).wpStore' 42 (.tmp 24) (.tmp 79) [.int .i64 KK, .int .i64 MM] rfl rfl rfl rfl rfl (by intro v hv; simp at hv; rcases hv with rfl | rfl <;> rfl) i42 ?_; intro wb HZb))
      have HBb : Hid (Below wr.heap.size wr wb) := by show Below _ _ _; rw [HZb.out]; exact Go.below_setRow (below_new _ _) (Nat.le_refl _) _
      have HT24 : Hid (Rw q wr.heap.size [.int .i64 KK, .int .i64 MM] 42 wb) := ⟨by rw [HZb.out]; exact (Row.new' wr _ [.int .i64 0, .int .i64 0] 42 _ rfl rfl).row _, HTr.out.lt⟩
      have HTb := hid (HTr.out.kept HBb.out)
      have HX17b := hid (HX17.out.kept HBb.out)
      have HX18b := hid (HX18.out.kept HBb.out)
      have HX19b := hid (HX19.out.kept HBb.out)
      have HX22b := hid (HX22.out.kept HBb.out)
      clear HTr HX17 HX18 HX19 HX22 HZb HBb HRG
      generalize wr.heap.size = g24 at *
      obtain ⟨U, hU⟩ : ∃ U : Nat, (IntKind.u64.wrap MM) % 100000 = (U : Int) := ⟨((IntKind.u64.wrap MM) % 100000).toNat, by omega⟩
      have hU2 : (MM % 18446744073709551616) % 100000 = (U : Int) := by rw [← IntKind.wrap_u64]; exact hU
      have hU3 : (IntKind.u64.wrap MM).tmod 100000 = (U : Int) := by rw [Int.tmod_eq_emod_of_nonneg (by rw [IntKind.wrap_u64]; omega)]; exact hU
      simp only [Act.put]
      have ck := HT24.out.row.cell 0 _ rfl
      rcases hB with ⟨rfl, rfl⟩ | ⟨rfl, sB, agB, mkB, rfl, hsB, hagB⟩
      · have hpf : proved = false := by cases hq : proved with
          | false => rfl
          | true => exact absurd (hpr hq).1 (by decide)
        subst hpf
        clear hpr
        have HSA := hid hsA
        have hA0 : (sA == 0) = false := by rcases hsA with rfl | rfl <;> decide
        clear hsA
        by_cases hk : KK = 0
        · subst hk
          clear hU hU2 hU3
          have cn := HX22b.out.row.cell 1 _ rfl
          go_upto_region 18 with (first
            | (show wpList _ _ _ (Oper.mk (some 88) (.load 29 (.tmp 17)) _ _ _ _ :: _) _ _; refine HX17b.out.row.wpLoad 29 (.tmp 17) rfl rfl rfl _ Tryd.underlying29 rfl i29 ?_)
            | (go_at_call 15; refine (hear_join HTb.out.hb HX17b.out.frin HP.out rfl rfl rfl (.inl rfl) rfl HAB.out.2 (by have := HTb.out.ge; have := HTb.out.ne; have := H1.out; omega) (HTb.out.k HK.out) (HTb.out.one H1.out) n1).mono ?_; rintro e w31 ⟨v, rfl, ⟨m31, hv, om⟩, hf, ho⟩; have HT31 := hid (HTb.out.onB ho hf); have HM31 := hid om; have HV31 := hid hv; have HO31 := hid ho; clear hv om hf ho)
            | (show wpList _ _ _ (Oper.mk none (.store 29 (.tmp 25) (.tmp 90)) _ _ _ _ :: _) _ _; refine (Row.new' w31 _ frZ 29 _ rfl rfl).wpStore' 29 (.tmp 25) (.tmp 90) (frC ((ansF (1 : Int) a b)).k ((ansF (1 : Int) a b)).p ((ansF (1 : Int) a b)).tok ((ansF (1 : Int) a b)).non m31 ((ansF (1 : Int) a b)).bk) rfl rfl rfl HV31.out rfl (frC_m HM31.out) i29 ?_; intro wz31 HZ31))
          have HX31_x17 := hid (HX17b.out.only HO31.out (Nat.le_refl _))
          clear HX17b
          have HX31_x18 := hid (HX18b.out.only HO31.out (Nat.le_refl _))
          clear HX18b
          have HX31_x19 := hid (HX19b.out.only HO31.out (Nat.le_refl _))
          clear HX19b
          have HX31_now := hid (HX22b.out.only HO31.out (Nat.le_refl _))
          clear HX22b
          have HX31_t24 := hid (HT24.out.only HO31.out (Nat.le_refl _))
          clear HT24
          have HB31 : Hid (Below w31.heap.size w31 wz31) := by show Below _ _ _; rw [HZ31.out]; exact below_put _ _ _
          have HX31_new : Hid (Bx q w31.heap.size ((ansF (1 : Int) a b)) m31 wz31) := by show Bx _ _ _ _ _; rw [HZ31.out]; exact Bx.new HM31.out HTb.out.lt (Nat.lt_of_lt_of_le HTb.out.lt HO31.out.size)
          have HY31_x17 := hid (HX31_x17.out.kept HB31.out)
          clear HX31_x17
          have HY31_x18 := hid (HX31_x18.out.kept HB31.out)
          clear HX31_x18
          have HY31_x19 := hid (HX31_x19.out.kept HB31.out)
          clear HX31_x19
          have HY31_now := hid (HX31_now.out.kept HB31.out)
          clear HX31_now
          have HY31_t24 := hid (HX31_t24.out.kept HB31.out)
          clear HX31_t24
          have HU31 := hid (HT31.out.kept HB31.out)
          clear HTb HT31 HB31 HZ31 HM31 HV31 HO31
          generalize w31.heap.size = g31 at *
          clear cn
          go_upto_region 20 with (first
            | (show wpList _ _ _ (Oper.mk (some 93) (.load 29 (.tmp 25)) _ _ _ _ :: _) _ _; refine HX31_new.out.row.wpLoad 29 (.tmp 25) rfl rfl rfl _ Tryd.underlying29 rfl i29 ?_)
            | (show wpList _ _ _ (Oper.mk none (.store 29 (.tmp 18) (.tmp 93)) _ _ _ _ :: _) _ _; refine HY31_x18.out.row.wpStore' 29 (.tmp 18) (.tmp 93) (frC (ansF (1 : Int) a b).k (ansF (1 : Int) a b).p (ansF (1 : Int) a b).tok (ansF (1 : Int) a b).non m31 (ansF (1 : Int) a b).bk) rfl rfl rfl rfl rfl (frC_m HX31_new.out.own) i29 ?_; intro wS HZS))
          have HS18 : Hid (Bx q (g17 + 1) (ansF (1 : Int) a b) m31 wS) := ⟨by rw [HZS.out]; exact HY31_x18.out.row.row _, by rw [HZS.out]; exact ownB_off HX31_new.out.own (only_setRow _ _ _) HY31_x18.out.row (by decide), HY31_x18.out.gt⟩
          have HS17 : Hid (Bx q g17 (askF (1 : Int) a b bk) m17 wS) := by show Bx _ _ _ _ _; rw [HZS.out]; exact HY31_x17.out.off (only_setRow _ _ _) HY31_x18.out.row (by decide) (by omega)
          have HS19 : Hid (Bx q (g17 + 1 + 1) (if false then (prfF (1 : Int) a b) else Fo.zero) m19 wS) := by show Bx _ _ _ _ _; rw [HZS.out]; exact HY31_x19.out.off (only_setRow _ _ _) HY31_x18.out.row (by decide) (by omega)
          have HS22 := hid (show Rw q g22 _ 40 wS by rw [HZS.out]; exact HY31_now.out.off (only_setRow _ _ _) (by have := HG22.out; omega))
          have HST := hid (show Tw w w.heap.size q _ _ wS by rw [HZS.out]; exact HU31.out.off (only_setRow _ _ _) HY31_x18.out.gt)
          clear HZS HY31_x17 HY31_x18 HY31_x19 HY31_now HY31_t24 HX31_new HU31
          go_wp2_with (first
            | (go_at_call_of 13 (Value.pointer (some ⟨w.heap.size, 0, none⟩)); refine (state_any HST.out.ha).mono ?_; rintro e wx ⟨rfl, hwx⟩; subst hwx)
            | (go_at_call_of 13 (Value.pointer (some ⟨q, 0, none⟩)); refine (state_any HST.out.hb).mono ?_; rintro e wx ⟨rfl, hwx⟩; subst hwx))
          go_roundw
          case rel =>
            exact ⟨i + 1, true, false, sA, agA, mkA, _, n0, n1, m17, m31, m19, rfl, rfl, by go_num, HLT.out, HST.out, HSA.out, HAG.out, (.inr ⟨rfl, 2, 0, n1, rfl, .inl rfl, (Nat.zero_le _)⟩), (fun h => by cases h), HS17.out, HS18.out, HS19.out, HS22.out, HN.out.1, HN.out.2⟩
          case measure => simp [intOf]; have := HLT.out; omega
        · by_cases hk1 : KK = 1
          · subst hk1
            clear hU hU2 hU3 hk
            as_aux_lemma =>
              go_wp2_with (first
                | (go_at_call_of 13 (Value.pointer (some ⟨w.heap.size, 0, none⟩)); refine (state_any HTb.out.ha).mono ?_; rintro e wx ⟨rfl, hwx⟩; subst hwx)
                | (go_at_call_of 13 (Value.pointer (some ⟨q, 0, none⟩)); refine (state_any HTb.out.hb).mono ?_; rintro e wx ⟨rfl, hwx⟩; subst hwx))
              go_roundw
              case rel =>
                exact ⟨i + 1, false, false, sA, agA, mkA, _, n0, n1, m17, m18, m19, rfl, rfl, by go_num, HLT.out, HTb.out, HSA.out, HAG.out, (.inl ⟨rfl, rfl⟩), (fun h => by cases h), HX17b.out, HX18b.out, HX19b.out, HX22b.out, HN.out.1, HN.out.2⟩
              case measure => simp [intOf]; have := HLT.out; omega
          · by_cases hk2 : KK = 2
            · subst hk2
              clear hU hU2 hU3 hk hk1
              as_aux_lemma =>
                go_wp2_with (first
                  | (go_at_call_of 13 (Value.pointer (some ⟨w.heap.size, 0, none⟩)); refine (state_any HTb.out.ha).mono ?_; rintro e wx ⟨rfl, hwx⟩; subst hwx)
                  | (go_at_call_of 13 (Value.pointer (some ⟨q, 0, none⟩)); refine (state_any HTb.out.hb).mono ?_; rintro e wx ⟨rfl, hwx⟩; subst hwx))
                go_roundw
                case rel =>
                  exact ⟨i + 1, false, false, sA, agA, mkA, _, n0, n1, m17, m18, m19, rfl, rfl, by go_num, HLT.out, HTb.out, HSA.out, HAG.out, (.inl ⟨rfl, rfl⟩), (fun h => by cases h), HX17b.out, HX18b.out, HX19b.out, HX22b.out, HN.out.1, HN.out.2⟩
                case measure => simp [intOf]; have := HLT.out; omega
            · by_cases hk3 : KK = 3
              · subst hk3
                clear hk hk1 hk2
                as_aux_lemma =>
                  have cn := HX22b.out.row.cell 0 _ rfl
                  have cf := HX22b.out.row.frozen 0
                  have cm := HT24.out.row.cell 1 _ rfl
                  obtain ⟨NN, hNN⟩ : ∃ NN : Nat, IntKind.u64.wrap ((n0 : Int) + (U : Int)) = (NN : Int) := ⟨(IntKind.u64.wrap ((n0 : Int) + (U : Int))).toNat, by rw [IntKind.wrap_u64]; omega⟩
                  have hN2 : ((n0 : Int) + (U : Int)) % 18446744073709551616 = (NN : Int) := by rw [← IntKind.wrap_u64]; exact hNN
                  have HN64 := hid (show NN < 18446744073709551616 by rw [IntKind.wrap_u64] at hNN; omega)
                  go_upto_region 34 with fail
                  have HS22 : Hid (Rw q g22 [.int .u64 (NN : Int), .int .u64 (n1 : Int)] 40 (wb.setCell ⟨g22, 0, none⟩ (.int .u64 (NN : Int)))) := ⟨HX22b.out.row.set 0 _, HX22b.out.gt⟩
                  have HOS : Hid (Only g22 wb (wb.setCell ⟨g22, 0, none⟩ (.int .u64 (NN : Int)))) := (Only.refl _ _).setCell _ _
                  have HSx17 := hid (HX17b.out.off HOS.out HX22b.out.row (by decide) (by have := HG22.out; omega))
                  have HSx18 := hid (HX18b.out.off HOS.out HX22b.out.row (by decide) (by have := HG22.out; omega))
                  have HSx19 := hid (HX19b.out.off HOS.out HX22b.out.row (by decide) (by have := HG22.out; omega))
                  have HST := hid (HTb.out.off HOS.out HX22b.out.gt)
                  clear cn cf cm hNN hN2 HOS HX17b HX18b HX19b HX22b HT24 HTb
                  generalize wb.setCell ⟨g22, 0, none⟩ (.int .u64 (NN : Int)) = wS at *
                  have cn := HS22.out.row.cell 0 _ rfl
                  go_upto_region 38 with (go_at_call 11; refine (tick_any HST.out.ha Rn rfl HR.out HAG.out NN HN64.out HAB.out.2 (HST.out.k HK.out) (Nat.le_trans H1.out HST.out.ge)).mono ?_; rintro e wT ⟨F', fo, bo, ⟨vT, rfl, fT, hfT, hoT⟩, hcT⟩; have HHU11 := hid (HST.out.onA hoT hfT); have HOT := hid hoT; have HCT := hid hcT; clear fT hfT hoT hcT)
                  have HTx17 := hid (HSx17.out.only HOT.out (by have := HST.out.ne; omega))
                  clear HSx17
                  have HTx18 := hid (HSx18.out.only HOT.out (by have := HST.out.ne; omega))
                  clear HSx18
                  have HTx19 := hid (HSx19.out.only HOT.out (by have := HST.out.ne; omega))
                  clear HSx19
                  have HTnow := hid (HS22.out.only HOT.out (by have := HST.out.ne; omega))
                  clear HS22
                  clear HST HOT cn
                  rcases HCT.out with rfl | ⟨hwt, rfl⟩ | ⟨hwt, hlag, mk, rfl⟩
                  · clear HCT
                    go_wp2_with (first
                      | (go_at_call_of 13 (Value.pointer (some ⟨w.heap.size, 0, none⟩)); refine (state_any HHU11.out.ha).mono ?_; rintro e wx ⟨rfl, hwx⟩; subst hwx)
                      | (go_at_call_of 13 (Value.pointer (some ⟨q, 0, none⟩)); refine (state_any HHU11.out.hb).mono ?_; rintro e wx ⟨rfl, hwx⟩; subst hwx))
                    go_roundw
                    case rel =>
                      exact ⟨i + 1, false, false, sA, agA, mkA, _, NN, n1, m17, m18, m19, rfl, rfl, by go_num, HLT.out, HHU11.out, HSA.out, HAG.out, (.inl ⟨rfl, rfl⟩), (fun h => by cases h), HTx17.out, HTx18.out, HTx19.out, HTnow.out, HN64.out, HN.out.2⟩
                    case measure => simp [intOf]; have := HLT.out; omega
                  · clear HCT hwt
                    go_wp2_with (first
                      | (go_at_call_of 13 (Value.pointer (some ⟨w.heap.size, 0, none⟩)); refine (state_any HHU11.out.ha).mono ?_; rintro e wx ⟨rfl, hwx⟩; subst hwx)
                      | (go_at_call_of 13 (Value.pointer (some ⟨q, 0, none⟩)); refine (state_any HHU11.out.hb).mono ?_; rintro e wx ⟨rfl, hwx⟩; subst hwx))
                    go_ret
                    exact ⟨rfl, HHU11.out.bel⟩
                  · have HLA := hid (show _ + 1 ≤ Rn from hlag)
                    clear HCT hwt hlag
                    go_wp2_with (first
                      | (go_at_call_of 13 (Value.pointer (some ⟨w.heap.size, 0, none⟩)); refine (state_any HHU11.out.ha).mono ?_; rintro e wx ⟨rfl, hwx⟩; subst hwx)
                      | (go_at_call_of 13 (Value.pointer (some ⟨q, 0, none⟩)); refine (state_any HHU11.out.hb).mono ?_; rintro e wx ⟨rfl, hwx⟩; subst hwx))
                    go_roundw
                    case rel =>
                      exact ⟨i + 1, false, false, sA, (agA + 1), mk, _, NN, n1, m17, m18, m19, rfl, rfl, by go_num, HLT.out, HHU11.out, HSA.out, HLA.out, (.inl ⟨rfl, rfl⟩), (fun h => by cases h), HTx17.out, HTx18.out, HTx19.out, HTnow.out, HN64.out, HN.out.2⟩
                    case measure => simp [intOf]; have := HLT.out; omega
              · by_cases hk4 : KK = 4
                · subst hk4
                  clear hk hk1 hk2 hk3
                  as_aux_lemma =>
                    have cn := HX22b.out.row.cell 1 _ rfl
                    have cf := HX22b.out.row.frozen 1
                    have cm := HT24.out.row.cell 1 _ rfl
                    obtain ⟨NN, hNN⟩ : ∃ NN : Nat, IntKind.u64.wrap ((n1 : Int) + (U : Int)) = (NN : Int) := ⟨(IntKind.u64.wrap ((n1 : Int) + (U : Int))).toNat, by rw [IntKind.wrap_u64]; omega⟩
                    have hN2 : ((n1 : Int) + (U : Int)) % 18446744073709551616 = (NN : Int) := by rw [← IntKind.wrap_u64]; exact hNN
                    have HN64 := hid (show NN < 18446744073709551616 by rw [IntKind.wrap_u64] at hNN; omega)
                    go_upto_region 37 with fail
                    have HS22 : Hid (Rw q g22 [.int .u64 (n0 : Int), .int .u64 (NN : Int)] 40 (wb.setCell ⟨g22, 1, none⟩ (.int .u64 (NN : Int)))) := ⟨HX22b.out.row.set 1 _, HX22b.out.gt⟩
                    have HOS : Hid (Only g22 wb (wb.setCell ⟨g22, 1, none⟩ (.int .u64 (NN : Int)))) := (Only.refl _ _).setCell _ _
                    have HSx17 := hid (HX17b.out.off HOS.out HX22b.out.row (by decide) (by have := HG22.out; omega))
                    have HSx18 := hid (HX18b.out.off HOS.out HX22b.out.row (by decide) (by have := HG22.out; omega))
                    have HSx19 := hid (HX19b.out.off HOS.out HX22b.out.row (by decide) (by have := HG22.out; omega))
                    have HST := hid (HTb.out.off HOS.out HX22b.out.gt)
                    clear cn cf cm hNN hN2 HOS HX17b HX18b HX19b HX22b HT24 HTb
                    generalize wb.setCell ⟨g22, 1, none⟩ (.int .u64 (NN : Int)) = wS at *
                    have cn := HS22.out.row.cell 1 _ rfl
                    go_upto_region 38 with (go_at_call 11; refine (tick_any HST.out.hb Rn rfl HR.out (Nat.zero_le _) NN HN64.out HAB.out.1 (HST.out.k HK.out) (by have := HST.out.ge; have := HST.out.ne; have := H1.out; omega)).mono ?_; rintro e wT ⟨F', fo, bo, ⟨vT, rfl, fT, hfT, hoT⟩, hcT⟩; have HHU11 := hid (HST.out.onB hoT hfT); have HOT := hid hoT; have HCT := hid hcT; clear fT hfT hoT hcT)
                    have HTx17 := hid (HSx17.out.only HOT.out (Nat.le_refl _))
                    clear HSx17
                    have HTx18 := hid (HSx18.out.only HOT.out (Nat.le_refl _))
                    clear HSx18
                    have HTx19 := hid (HSx19.out.only HOT.out (Nat.le_refl _))
                    clear HSx19
                    have HTnow := hid (HS22.out.only HOT.out (Nat.le_refl _))
                    clear HS22
                    clear HST HOT cn
                    rcases HCT.out with rfl | ⟨hwt, rfl⟩ | ⟨hwt, hlag, mk, rfl⟩
                    · clear HCT
                      go_wp2_with (first
                        | (go_at_call_of 13 (Value.pointer (some ⟨w.heap.size, 0, none⟩)); refine (state_any HHU11.out.ha).mono ?_; rintro e wx ⟨rfl, hwx⟩; subst hwx)
                        | (go_at_call_of 13 (Value.pointer (some ⟨q, 0, none⟩)); refine (state_any HHU11.out.hb).mono ?_; rintro e wx ⟨rfl, hwx⟩; subst hwx))
                      go_roundw
                      case rel =>
                        exact ⟨i + 1, false, false, sA, agA, mkA, _, n0, NN, m17, m18, m19, rfl, rfl, by go_num, HLT.out, HHU11.out, HSA.out, HAG.out, (.inl ⟨rfl, rfl⟩), (fun h => by cases h), HTx17.out, HTx18.out, HTx19.out, HTnow.out, HN.out.1, HN64.out⟩
                      case measure => simp [intOf]; have := HLT.out; omega
                    · exact absurd hwt (by simp [Hf.waits])
                    · exact absurd hwt (by simp [Hf.waits])
                · have b0 := beq_i hk
                  have b1 := beq_i hk1
                  have b2 := beq_i hk2
                  have b3 := beq_i hk3
                  have b4 := beq_i hk4
                  clear hU hU2 hU3 hk hk1 hk2 hk3 hk4
                  as_aux_lemma =>
                    go_wp2_with (first
                      | (go_at_call_of 13 (Value.pointer (some ⟨w.heap.size, 0, none⟩)); refine (state_any HTb.out.ha).mono ?_; rintro e wx ⟨rfl, hwx⟩; subst hwx)
                      | (go_at_call_of 13 (Value.pointer (some ⟨q, 0, none⟩)); refine (state_any HTb.out.hb).mono ?_; rintro e wx ⟨rfl, hwx⟩; subst hwx))
                    go_roundw
                    case rel =>
                      exact ⟨i + 1, false, false, sA, agA, mkA, _, n0, n1, m17, m18, m19, rfl, rfl, by go_num, HLT.out, HTb.out, HSA.out, HAG.out, (.inl ⟨rfl, rfl⟩), (fun h => by cases h), HX17b.out, HX18b.out, HX19b.out, HX22b.out, HN.out.1, HN.out.2⟩
                    case measure => simp [intOf]; have := HLT.out; omega
      · have HBG := hid hagB
        clear hagB
        cases proved with
        | false =>
          clear hpr
          rcases hsB with rfl | ⟨rfl, rfl⟩
          · skip
            have HSA := hid hsA
            have hA0 : (sA == 0) = false := by rcases hsA with rfl | rfl <;> decide
            clear hsA
            by_cases hk : KK = 0
            · subst hk
              clear hU hU2 hU3
              have cn := HX22b.out.row.cell 1 _ rfl
              go_upto_region 18 with (first
                | (show wpList _ _ _ (Oper.mk (some 88) (.load 29 (.tmp 17)) _ _ _ _ :: _) _ _; refine HX17b.out.row.wpLoad 29 (.tmp 17) rfl rfl rfl _ Tryd.underlying29 rfl i29 ?_)
                | (go_at_call 15; refine (hear_join HTb.out.hb HX17b.out.frin HP.out rfl rfl rfl (.inr rfl) rfl HAB.out.2 (by have := HTb.out.ge; have := HTb.out.ne; have := H1.out; omega) (HTb.out.k HK.out) (HTb.out.one H1.out) n1).mono ?_; rintro e w31 ⟨v, rfl, ⟨m31, hv, om⟩, hf, ho⟩; have HT31 := hid (HTb.out.onB ho hf); have HM31 := hid om; have HV31 := hid hv; have HO31 := hid ho; clear hv om hf ho)
                | (show wpList _ _ _ (Oper.mk none (.store 29 (.tmp 25) (.tmp 90)) _ _ _ _ :: _) _ _; refine (Row.new' w31 _ frZ 29 _ rfl rfl).wpStore' 29 (.tmp 25) (.tmp 90) (frC ((ansF (1 : Int) a b)).k ((ansF (1 : Int) a b)).p ((ansF (1 : Int) a b)).tok ((ansF (1 : Int) a b)).non m31 ((ansF (1 : Int) a b)).bk) rfl rfl rfl HV31.out rfl (frC_m HM31.out) i29 ?_; intro wz31 HZ31))
              have HX31_x17 := hid (HX17b.out.only HO31.out (Nat.le_refl _))
              clear HX17b
              have HX31_x18 := hid (HX18b.out.only HO31.out (Nat.le_refl _))
              clear HX18b
              have HX31_x19 := hid (HX19b.out.only HO31.out (Nat.le_refl _))
              clear HX19b
              have HX31_now := hid (HX22b.out.only HO31.out (Nat.le_refl _))
              clear HX22b
              have HX31_t24 := hid (HT24.out.only HO31.out (Nat.le_refl _))
              clear HT24
              have HB31 : Hid (Below w31.heap.size w31 wz31) := by show Below _ _ _; rw [HZ31.out]; exact below_put _ _ _
              have HX31_new : Hid (Bx q w31.heap.size ((ansF (1 : Int) a b)) m31 wz31) := by show Bx _ _ _ _ _; rw [HZ31.out]; exact Bx.new HM31.out HTb.out.lt (Nat.lt_of_lt_of_le HTb.out.lt HO31.out.size)
              have HY31_x17 := hid (HX31_x17.out.kept HB31.out)
              clear HX31_x17
              have HY31_x18 := hid (HX31_x18.out.kept HB31.out)
              clear HX31_x18
              have HY31_x19 := hid (HX31_x19.out.kept HB31.out)
              clear HX31_x19
              have HY31_now := hid (HX31_now.out.kept HB31.out)
              clear HX31_now
              have HY31_t24 := hid (HX31_t24.out.kept HB31.out)
              clear HX31_t24
              have HU31 := hid (HT31.out.kept HB31.out)
              clear HTb HT31 HB31 HZ31 HM31 HV31 HO31
              generalize w31.heap.size = g31 at *
              clear cn
              go_upto_region 20 with (first
                | (show wpList _ _ _ (Oper.mk (some 93) (.load 29 (.tmp 25)) _ _ _ _ :: _) _ _; refine HX31_new.out.row.wpLoad 29 (.tmp 25) rfl rfl rfl _ Tryd.underlying29 rfl i29 ?_)
                | (show wpList _ _ _ (Oper.mk none (.store 29 (.tmp 18) (.tmp 93)) _ _ _ _ :: _) _ _; refine HY31_x18.out.row.wpStore' 29 (.tmp 18) (.tmp 93) (frC (ansF (1 : Int) a b).k (ansF (1 : Int) a b).p (ansF (1 : Int) a b).tok (ansF (1 : Int) a b).non m31 (ansF (1 : Int) a b).bk) rfl rfl rfl rfl rfl (frC_m HX31_new.out.own) i29 ?_; intro wS HZS))
              have HS18 : Hid (Bx q (g17 + 1) (ansF (1 : Int) a b) m31 wS) := ⟨by rw [HZS.out]; exact HY31_x18.out.row.row _, by rw [HZS.out]; exact ownB_off HX31_new.out.own (only_setRow _ _ _) HY31_x18.out.row (by decide), HY31_x18.out.gt⟩
              have HS17 : Hid (Bx q g17 (askF (1 : Int) a b bk) m17 wS) := by show Bx _ _ _ _ _; rw [HZS.out]; exact HY31_x17.out.off (only_setRow _ _ _) HY31_x18.out.row (by decide) (by omega)
              have HS19 : Hid (Bx q (g17 + 1 + 1) (if false then (prfF (1 : Int) a b) else Fo.zero) m19 wS) := by show Bx _ _ _ _ _; rw [HZS.out]; exact HY31_x19.out.off (only_setRow _ _ _) HY31_x18.out.row (by decide) (by omega)
              have HS22 := hid (show Rw q g22 _ 40 wS by rw [HZS.out]; exact HY31_now.out.off (only_setRow _ _ _) (by have := HG22.out; omega))
              have HST := hid (show Tw w w.heap.size q _ _ wS by rw [HZS.out]; exact HU31.out.off (only_setRow _ _ _) HY31_x18.out.gt)
              clear HZS HY31_x17 HY31_x18 HY31_x19 HY31_now HY31_t24 HX31_new HU31
              go_wp2_with (first
                | (go_at_call_of 13 (Value.pointer (some ⟨w.heap.size, 0, none⟩)); refine (state_any HST.out.ha).mono ?_; rintro e wx ⟨rfl, hwx⟩; subst hwx)
                | (go_at_call_of 13 (Value.pointer (some ⟨q, 0, none⟩)); refine (state_any HST.out.hb).mono ?_; rintro e wx ⟨rfl, hwx⟩; subst hwx))
              go_roundw
              case rel =>
                exact ⟨i + 1, true, false, sA, agA, mkA, _, n0, n1, m17, m31, m19, rfl, rfl, by go_num, HLT.out, HST.out, HSA.out, HAG.out, (.inr ⟨rfl, 2, 0, n1, rfl, .inl rfl, (Nat.zero_le _)⟩), (fun h => by cases h), HS17.out, HS18.out, HS19.out, HS22.out, HN.out.1, HN.out.2⟩
              case measure => simp [intOf]; have := HLT.out; omega
            · by_cases hk1 : KK = 1
              · subst hk1
                clear hU hU2 hU3 hk
                as_aux_lemma =>
                  have cn := HX22b.out.row.cell 0 _ rfl
                  go_upto_region 25 with (first
                    | (show wpList _ _ _ (Oper.mk (some 110) (.load 29 (.tmp 18)) _ _ _ _ :: _) _ _; refine HX18b.out.row.wpLoad 29 (.tmp 18) rfl rfl rfl _ Tryd.underlying29 rfl i29 ?_)
                    | (go_at_call 15; refine (hear_joined HTb.out.ha HX18b.out.frin HP.out rfl rfl rfl HSA.out rfl (Nat.le_trans H1.out HTb.out.ge) (HTb.out.k HK.out) (HTb.out.one H1.out) n0).mono ?_; rintro e w31 ⟨v, rfl, ⟨m31, hv, om⟩, hf, ho⟩; have HT31 := hid (HTb.out.onA ho hf); have HM31 := hid om; have HV31 := hid hv; have HO31 := hid ho; clear hv om hf ho)
                    | (show wpList _ _ _ (Oper.mk none (.store 29 (.tmp 27) (.tmp 112)) _ _ _ _ :: _) _ _; refine (Row.new' w31 _ frZ 29 _ rfl rfl).wpStore' 29 (.tmp 27) (.tmp 112) (frC ((prfF (1 : Int) a b)).k ((prfF (1 : Int) a b)).p ((prfF (1 : Int) a b)).tok ((prfF (1 : Int) a b)).non m31 ((prfF (1 : Int) a b)).bk) rfl rfl rfl HV31.out rfl (frC_m HM31.out) i29 ?_; intro wz31 HZ31))
                  have HX31_x17 := hid (HX17b.out.only HO31.out (by have := HTb.out.ne; omega))
                  clear HX17b
                  have HX31_x18 := hid (HX18b.out.only HO31.out (by have := HTb.out.ne; omega))
                  clear HX18b
                  have HX31_x19 := hid (HX19b.out.only HO31.out (by have := HTb.out.ne; omega))
                  clear HX19b
                  have HX31_now := hid (HX22b.out.only HO31.out (by have := HTb.out.ne; omega))
                  clear HX22b
                  have HX31_t24 := hid (HT24.out.only HO31.out (by have := HTb.out.ne; omega))
                  clear HT24
                  have HB31 : Hid (Below w31.heap.size w31 wz31) := by show Below _ _ _; rw [HZ31.out]; exact below_put _ _ _
                  have HX31_new : Hid (Bx q w31.heap.size ((prfF (1 : Int) a b)) m31 wz31) := by show Bx _ _ _ _ _; rw [HZ31.out]; exact Bx.new HM31.out HTb.out.lt (Nat.lt_of_lt_of_le HTb.out.lt HO31.out.size)
                  have HY31_x17 := hid (HX31_x17.out.kept HB31.out)
                  clear HX31_x17
                  have HY31_x18 := hid (HX31_x18.out.kept HB31.out)
                  clear HX31_x18
                  have HY31_x19 := hid (HX31_x19.out.kept HB31.out)
                  clear HX31_x19
                  have HY31_now := hid (HX31_now.out.kept HB31.out)
                  clear HX31_now
                  have HY31_t24 := hid (HX31_t24.out.kept HB31.out)
                  clear HX31_t24
                  have HU31 := hid (HT31.out.kept HB31.out)
                  clear HTb HT31 HB31 HZ31 HM31 HV31 HO31
                  generalize w31.heap.size = g31 at *
                  clear cn
                  go_upto_region 38 with (first
                    | (go_at_call_of 13 (Value.pointer (some ⟨w.heap.size, 0, none⟩)); refine (state_any HU31.out.ha).mono ?_; rintro e wx ⟨rfl, hwx⟩; subst hwx)
                    | (go_at_call_of 13 (Value.pointer (some ⟨q, 0, none⟩)); refine (state_any HU31.out.hb).mono ?_; rintro e wx ⟨rfl, hwx⟩; subst hwx)
                    | (show wpList _ _ _ (Oper.mk (some 120) (.load 29 (.tmp 27)) _ _ _ _ :: _) _ _; refine HX31_new.out.row.wpLoad 29 (.tmp 27) rfl rfl rfl _ Tryd.underlying29 rfl i29 ?_)
                    | (show wpList _ _ _ (Oper.mk none (.store 29 (.tmp 19) (.tmp 120)) _ _ _ _ :: _) _ _; refine HY31_x19.out.row.wpStore' 29 (.tmp 19) (.tmp 120) (frC (prfF (1 : Int) a b).k (prfF (1 : Int) a b).p (prfF (1 : Int) a b).tok (prfF (1 : Int) a b).non m31 (prfF (1 : Int) a b).bk) rfl rfl rfl rfl rfl (frC_m HX31_new.out.own) i29 ?_; intro wS HZS))
                  have HS19 : Hid (Bx q (g17 + 1 + 1) (prfF (1 : Int) a b) m31 wS) := ⟨by rw [HZS.out]; exact HY31_x19.out.row.row _, by rw [HZS.out]; exact ownB_off HX31_new.out.own (only_setRow _ _ _) HY31_x19.out.row (by decide), HY31_x19.out.gt⟩
                  have HS17 : Hid (Bx q g17 (askF (1 : Int) a b bk) m17 wS) := by show Bx _ _ _ _ _; rw [HZS.out]; exact HY31_x17.out.off (only_setRow _ _ _) HY31_x19.out.row (by decide) (by omega)
                  have HS18 : Hid (Bx q (g17 + 1) (ansF (1 : Int) a b) m18 wS) := by show Bx _ _ _ _ _; rw [HZS.out]; exact HY31_x18.out.off (only_setRow _ _ _) HY31_x19.out.row (by decide) (by omega)
                  have HS22 := hid (show Rw q g22 _ 40 wS by rw [HZS.out]; exact HY31_now.out.off (only_setRow _ _ _) (by have := HG22.out; omega))
                  have HST := hid (show Tw w w.heap.size q _ _ wS by rw [HZS.out]; exact HU31.out.off (only_setRow _ _ _) HY31_x19.out.gt)
                  clear HZS HY31_x17 HY31_x18 HY31_x19 HY31_now HY31_t24 HX31_new HU31
                  go_wp2_with (first
                    | (go_at_call_of 13 (Value.pointer (some ⟨w.heap.size, 0, none⟩)); refine (state_any HST.out.ha).mono ?_; rintro e wx ⟨rfl, hwx⟩; subst hwx)
                    | (go_at_call_of 13 (Value.pointer (some ⟨q, 0, none⟩)); refine (state_any HST.out.hb).mono ?_; rintro e wx ⟨rfl, hwx⟩; subst hwx))
                  go_roundw
                  case rel =>
                    exact ⟨i + 1, true, true, 3, agA, mkA, _, n0, n1, m17, m18, m31, rfl, rfl, by go_num, HLT.out, HST.out, (.inr rfl), HAG.out, (.inr ⟨rfl, 2, agB, mkB, rfl, .inl rfl, HBG.out⟩), (fun _ => ⟨rfl, rfl⟩), HS17.out, HS18.out, HS19.out, HS22.out, HN.out.1, HN.out.2⟩
                  case measure => simp [intOf]; have := HLT.out; omega
              · by_cases hk2 : KK = 2
                · subst hk2
                  clear hU hU2 hU3 hk hk1
                  as_aux_lemma =>
                    go_wp2_with (first
                      | (go_at_call_of 13 (Value.pointer (some ⟨w.heap.size, 0, none⟩)); refine (state_any HTb.out.ha).mono ?_; rintro e wx ⟨rfl, hwx⟩; subst hwx)
                      | (go_at_call_of 13 (Value.pointer (some ⟨q, 0, none⟩)); refine (state_any HTb.out.hb).mono ?_; rintro e wx ⟨rfl, hwx⟩; subst hwx))
                    go_roundw
                    case rel =>
                      exact ⟨i + 1, true, false, sA, agA, mkA, _, n0, n1, m17, m18, m19, rfl, rfl, by go_num, HLT.out, HTb.out, HSA.out, HAG.out, (.inr ⟨rfl, 2, agB, mkB, rfl, .inl rfl, HBG.out⟩), (fun h => by cases h), HX17b.out, HX18b.out, HX19b.out, HX22b.out, HN.out.1, HN.out.2⟩
                    case measure => simp [intOf]; have := HLT.out; omega
                · by_cases hk3 : KK = 3
                  · subst hk3
                    clear hk hk1 hk2
                    as_aux_lemma =>
                      have cn := HX22b.out.row.cell 0 _ rfl
                      have cf := HX22b.out.row.frozen 0
                      have cm := HT24.out.row.cell 1 _ rfl
                      obtain ⟨NN, hNN⟩ : ∃ NN : Nat, IntKind.u64.wrap ((n0 : Int) + (U : Int)) = (NN : Int) := ⟨(IntKind.u64.wrap ((n0 : Int) + (U : Int))).toNat, by rw [IntKind.wrap_u64]; omega⟩
                      have hN2 : ((n0 : Int) + (U : Int)) % 18446744073709551616 = (NN : Int) := by rw [← IntKind.wrap_u64]; exact hNN
                      have HN64 := hid (show NN < 18446744073709551616 by rw [IntKind.wrap_u64] at hNN; omega)
                      go_upto_region 34 with fail
                      have HS22 : Hid (Rw q g22 [.int .u64 (NN : Int), .int .u64 (n1 : Int)] 40 (wb.setCell ⟨g22, 0, none⟩ (.int .u64 (NN : Int)))) := ⟨HX22b.out.row.set 0 _, HX22b.out.gt⟩
                      have HOS : Hid (Only g22 wb (wb.setCell ⟨g22, 0, none⟩ (.int .u64 (NN : Int)))) := (Only.refl _ _).setCell _ _
                      have HSx17 := hid (HX17b.out.off HOS.out HX22b.out.row (by decide) (by have := HG22.out; omega))
                      have HSx18 := hid (HX18b.out.off HOS.out HX22b.out.row (by decide) (by have := HG22.out; omega))
                      have HSx19 := hid (HX19b.out.off HOS.out HX22b.out.row (by decide) (by have := HG22.out; omega))
                      have HST := hid (HTb.out.off HOS.out HX22b.out.gt)
                      clear cn cf cm hNN hN2 HOS HX17b HX18b HX19b HX22b HT24 HTb
                      generalize wb.setCell ⟨g22, 0, none⟩ (.int .u64 (NN : Int)) = wS at *
                      have cn := HS22.out.row.cell 0 _ rfl
                      go_upto_region 38 with (go_at_call 11; refine (tick_any HST.out.ha Rn rfl HR.out HAG.out NN HN64.out HAB.out.2 (HST.out.k HK.out) (Nat.le_trans H1.out HST.out.ge)).mono ?_; rintro e wT ⟨F', fo, bo, ⟨vT, rfl, fT, hfT, hoT⟩, hcT⟩; have HHU11 := hid (HST.out.onA hoT hfT); have HOT := hid hoT; have HCT := hid hcT; clear fT hfT hoT hcT)
                      have HTx17 := hid (HSx17.out.only HOT.out (by have := HST.out.ne; omega))
                      clear HSx17
                      have HTx18 := hid (HSx18.out.only HOT.out (by have := HST.out.ne; omega))
                      clear HSx18
                      have HTx19 := hid (HSx19.out.only HOT.out (by have := HST.out.ne; omega))
                      clear HSx19
                      have HTnow := hid (HS22.out.only HOT.out (by have := HST.out.ne; omega))
                      clear HS22
                      clear HST HOT cn
                      rcases HCT.out with rfl | ⟨hwt, rfl⟩ | ⟨hwt, hlag, mk, rfl⟩
                      · clear HCT
                        go_wp2_with (first
                          | (go_at_call_of 13 (Value.pointer (some ⟨w.heap.size, 0, none⟩)); refine (state_any HHU11.out.ha).mono ?_; rintro e wx ⟨rfl, hwx⟩; subst hwx)
                          | (go_at_call_of 13 (Value.pointer (some ⟨q, 0, none⟩)); refine (state_any HHU11.out.hb).mono ?_; rintro e wx ⟨rfl, hwx⟩; subst hwx))
                        go_roundw
                        case rel =>
                          exact ⟨i + 1, true, false, sA, agA, mkA, _, NN, n1, m17, m18, m19, rfl, rfl, by go_num, HLT.out, HHU11.out, HSA.out, HAG.out, (.inr ⟨rfl, 2, agB, mkB, rfl, .inl rfl, HBG.out⟩), (fun h => by cases h), HTx17.out, HTx18.out, HTx19.out, HTnow.out, HN64.out, HN.out.2⟩
                        case measure => simp [intOf]; have := HLT.out; omega
                      · clear HCT hwt
                        go_wp2_with (first
                          | (go_at_call_of 13 (Value.pointer (some ⟨w.heap.size, 0, none⟩)); refine (state_any HHU11.out.ha).mono ?_; rintro e wx ⟨rfl, hwx⟩; subst hwx)
                          | (go_at_call_of 13 (Value.pointer (some ⟨q, 0, none⟩)); refine (state_any HHU11.out.hb).mono ?_; rintro e wx ⟨rfl, hwx⟩; subst hwx))
                        go_ret
                        exact ⟨rfl, HHU11.out.bel⟩
                      · have HLA := hid (show _ + 1 ≤ Rn from hlag)
                        clear HCT hwt hlag
                        go_wp2_with (first
                          | (go_at_call_of 13 (Value.pointer (some ⟨w.heap.size, 0, none⟩)); refine (state_any HHU11.out.ha).mono ?_; rintro e wx ⟨rfl, hwx⟩; subst hwx)
                          | (go_at_call_of 13 (Value.pointer (some ⟨q, 0, none⟩)); refine (state_any HHU11.out.hb).mono ?_; rintro e wx ⟨rfl, hwx⟩; subst hwx))
                        go_roundw
                        case rel =>
                          exact ⟨i + 1, true, false, sA, (agA + 1), mk, _, NN, n1, m17, m18, m19, rfl, rfl, by go_num, HLT.out, HHU11.out, HSA.out, HLA.out, (.inr ⟨rfl, 2, agB, mkB, rfl, .inl rfl, HBG.out⟩), (fun h => by cases h), HTx17.out, HTx18.out, HTx19.out, HTnow.out, HN64.out, HN.out.2⟩
                        case measure => simp [intOf]; have := HLT.out; omega
                  · by_cases hk4 : KK = 4
                    · subst hk4
                      clear hk hk1 hk2 hk3
                      as_aux_lemma =>
                        have cn := HX22b.out.row.cell 1 _ rfl
                        have cf := HX22b.out.row.frozen 1
                        have cm := HT24.out.row.cell 1 _ rfl
                        obtain ⟨NN, hNN⟩ : ∃ NN : Nat, IntKind.u64.wrap ((n1 : Int) + (U : Int)) = (NN : Int) := ⟨(IntKind.u64.wrap ((n1 : Int) + (U : Int))).toNat, by rw [IntKind.wrap_u64]; omega⟩
                        have hN2 : ((n1 : Int) + (U : Int)) % 18446744073709551616 = (NN : Int) := by rw [← IntKind.wrap_u64]; exact hNN
                        have HN64 := hid (show NN < 18446744073709551616 by rw [IntKind.wrap_u64] at hNN; omega)
                        go_upto_region 37 with fail
                        have HS22 : Hid (Rw q g22 [.int .u64 (n0 : Int), .int .u64 (NN : Int)] 40 (wb.setCell ⟨g22, 1, none⟩ (.int .u64 (NN : Int)))) := ⟨HX22b.out.row.set 1 _, HX22b.out.gt⟩
                        have HOS : Hid (Only g22 wb (wb.setCell ⟨g22, 1, none⟩ (.int .u64 (NN : Int)))) := (Only.refl _ _).setCell _ _
                        have HSx17 := hid (HX17b.out.off HOS.out HX22b.out.row (by decide) (by have := HG22.out; omega))
                        have HSx18 := hid (HX18b.out.off HOS.out HX22b.out.row (by decide) (by have := HG22.out; omega))
                        have HSx19 := hid (HX19b.out.off HOS.out HX22b.out.row (by decide) (by have := HG22.out; omega))
                        have HST := hid (HTb.out.off HOS.out HX22b.out.gt)
                        clear cn cf cm hNN hN2 HOS HX17b HX18b HX19b HX22b HT24 HTb
                        generalize wb.setCell ⟨g22, 1, none⟩ (.int .u64 (NN : Int)) = wS at *
                        have cn := HS22.out.row.cell 1 _ rfl
                        go_upto_region 38 with (go_at_call 11; refine (tick_any HST.out.hb Rn rfl HR.out HBG.out NN HN64.out HAB.out.1 (HST.out.k HK.out) (by have := HST.out.ge; have := HST.out.ne; have := H1.out; omega)).mono ?_; rintro e wT ⟨F', fo, bo, ⟨vT, rfl, fT, hfT, hoT⟩, hcT⟩; have HHU11 := hid (HST.out.onB hoT hfT); have HOT := hid hoT; have HCT := hid hcT; clear fT hfT hoT hcT)
                        have HTx17 := hid (HSx17.out.only HOT.out (Nat.le_refl _))
                        clear HSx17
                        have HTx18 := hid (HSx18.out.only HOT.out (Nat.le_refl _))
                        clear HSx18
                        have HTx19 := hid (HSx19.out.only HOT.out (Nat.le_refl _))
                        clear HSx19
                        have HTnow := hid (HS22.out.only HOT.out (Nat.le_refl _))
                        clear HS22
                        clear HST HOT cn
                        rcases HCT.out with rfl | ⟨hwt, rfl⟩ | ⟨hwt, hlag, mk, rfl⟩
                        · clear HCT
                          go_wp2_with (first
                            | (go_at_call_of 13 (Value.pointer (some ⟨w.heap.size, 0, none⟩)); refine (state_any HHU11.out.ha).mono ?_; rintro e wx ⟨rfl, hwx⟩; subst hwx)
                            | (go_at_call_of 13 (Value.pointer (some ⟨q, 0, none⟩)); refine (state_any HHU11.out.hb).mono ?_; rintro e wx ⟨rfl, hwx⟩; subst hwx))
                          go_roundw
                          case rel =>
                            exact ⟨i + 1, true, false, sA, agA, mkA, _, n0, NN, m17, m18, m19, rfl, rfl, by go_num, HLT.out, HHU11.out, HSA.out, HAG.out, (.inr ⟨rfl, 2, agB, mkB, rfl, .inl rfl, HBG.out⟩), (fun h => by cases h), HTx17.out, HTx18.out, HTx19.out, HTnow.out, HN.out.1, HN64.out⟩
                          case measure => simp [intOf]; have := HLT.out; omega
                        · clear HCT hwt
                          go_wp2_with (first
                            | (go_at_call_of 13 (Value.pointer (some ⟨w.heap.size, 0, none⟩)); refine (state_any HHU11.out.ha).mono ?_; rintro e wx ⟨rfl, hwx⟩; subst hwx)
                            | (go_at_call_of 13 (Value.pointer (some ⟨q, 0, none⟩)); refine (state_any HHU11.out.hb).mono ?_; rintro e wx ⟨rfl, hwx⟩; subst hwx))
                          go_ret
                          exact ⟨rfl, HHU11.out.bel⟩
                        · have HLA := hid (show _ + 1 ≤ Rn from hlag)
                          clear HCT hwt hlag
                          go_wp2_with (first
                            | (go_at_call_of 13 (Value.pointer (some ⟨w.heap.size, 0, none⟩)); refine (state_any HHU11.out.ha).mono ?_; rintro e wx ⟨rfl, hwx⟩; subst hwx)
                            | (go_at_call_of 13 (Value.pointer (some ⟨q, 0, none⟩)); refine (state_any HHU11.out.hb).mono ?_; rintro e wx ⟨rfl, hwx⟩; subst hwx))
                          go_roundw
                          case rel =>
                            exact ⟨i + 1, true, false, sA, agA, mkA, _, n0, NN, m17, m18, m19, rfl, rfl, by go_num, HLT.out, HHU11.out, HSA.out, HAG.out, (.inr ⟨rfl, 2, (agB + 1), mk, rfl, .inl rfl, HLA.out⟩), (fun h => by cases h), HTx17.out, HTx18.out, HTx19.out, HTnow.out, HN.out.1, HN64.out⟩
                          case measure => simp [intOf]; have := HLT.out; omega
                    · have b0 := beq_i hk
                      have b1 := beq_i hk1
                      have b2 := beq_i hk2
                      have b3 := beq_i hk3
                      have b4 := beq_i hk4
                      clear hU hU2 hU3 hk hk1 hk2 hk3 hk4
                      as_aux_lemma =>
                        go_wp2_with (first
                          | (go_at_call_of 13 (Value.pointer (some ⟨w.heap.size, 0, none⟩)); refine (state_any HTb.out.ha).mono ?_; rintro e wx ⟨rfl, hwx⟩; subst hwx)
                          | (go_at_call_of 13 (Value.pointer (some ⟨q, 0, none⟩)); refine (state_any HTb.out.hb).mono ?_; rintro e wx ⟨rfl, hwx⟩; subst hwx))
                        go_roundw
                        case rel =>
                          exact ⟨i + 1, true, false, sA, agA, mkA, _, n0, n1, m17, m18, m19, rfl, rfl, by go_num, HLT.out, HTb.out, HSA.out, HAG.out, (.inr ⟨rfl, 2, agB, mkB, rfl, .inl rfl, HBG.out⟩), (fun h => by cases h), HX17b.out, HX18b.out, HX19b.out, HX22b.out, HN.out.1, HN.out.2⟩
                        case measure => simp [intOf]; have := HLT.out; omega
          · clear hsA
            by_cases hk : KK = 0
            · subst hk
              clear hU hU2 hU3
              as_aux_lemma =>
                have cn := HX22b.out.row.cell 1 _ rfl
                go_upto_region 18 with (first
                  | (show wpList _ _ _ (Oper.mk (some 88) (.load 29 (.tmp 17)) _ _ _ _ :: _) _ _; refine HX17b.out.row.wpLoad 29 (.tmp 17) rfl rfl rfl _ Tryd.underlying29 rfl i29 ?_)
                  | (go_at_call 15; refine (hear_join_no HTb.out.hb HX17b.out.frin HP.out rfl rfl (by rintro ⟨_, h, _⟩; revert h; show ¬ ((3 : Int) = 0 ∨ (3 : Int) = 2); decide) HAB.out.2 (HTb.out.k HK.out) (HTb.out.one H1.out) n1).mono ?_; rintro e w31 ⟨v, rfl, ⟨m31, hv, om⟩, hf, ho⟩; have HT31 := hid (HTb.out.onB ho hf); have HM31 := hid om; have HV31 := hid hv; have HO31 := hid ho; clear hv om hf ho)
                  | (show wpList _ _ _ (Oper.mk none (.store 29 (.tmp 25) (.tmp 90)) _ _ _ _ :: _) _ _; refine (Row.new' w31 _ frZ 29 _ rfl rfl).wpStore' 29 (.tmp 25) (.tmp 90) (frC (Fo.zero).k (Fo.zero).p (Fo.zero).tok (Fo.zero).non m31 (Fo.zero).bk) rfl rfl rfl HV31.out rfl (frC_m HM31.out) i29 ?_; intro wz31 HZ31))
                have HX31_x17 := hid (HX17b.out.only HO31.out (Nat.le_refl _))
                clear HX17b
                have HX31_x18 := hid (HX18b.out.only HO31.out (Nat.le_refl _))
                clear HX18b
                have HX31_x19 := hid (HX19b.out.only HO31.out (Nat.le_refl _))
                clear HX19b
                have HX31_now := hid (HX22b.out.only HO31.out (Nat.le_refl _))
                clear HX22b
                have HX31_t24 := hid (HT24.out.only HO31.out (Nat.le_refl _))
                clear HT24
                have HB31 : Hid (Below w31.heap.size w31 wz31) := by show Below _ _ _; rw [HZ31.out]; exact below_put _ _ _
                have HY31_x17 := hid (HX31_x17.out.kept HB31.out)
                clear HX31_x17
                have HY31_x18 := hid (HX31_x18.out.kept HB31.out)
                clear HX31_x18
                have HY31_x19 := hid (HX31_x19.out.kept HB31.out)
                clear HX31_x19
                have HY31_now := hid (HX31_now.out.kept HB31.out)
                clear HX31_now
                have HY31_t24 := hid (HX31_t24.out.kept HB31.out)
                clear HX31_t24
                have HU31 := hid (HT31.out.kept HB31.out)
                clear HTb HT31 HB31 HZ31 HM31 HV31 HO31
                generalize w31.heap.size = g31 at *
                clear cn
                go_wp2_with (first
                  | (go_at_call_of 13 (Value.pointer (some ⟨w.heap.size, 0, none⟩)); refine (state_any HU31.out.ha).mono ?_; rintro e wx ⟨rfl, hwx⟩; subst hwx)
                  | (go_at_call_of 13 (Value.pointer (some ⟨q, 0, none⟩)); refine (state_any HU31.out.hb).mono ?_; rintro e wx ⟨rfl, hwx⟩; subst hwx))
                go_roundw
                case rel =>
                  exact ⟨i + 1, true, false, 3, agA, mkA, _, n0, n1, m17, m18, m19, rfl, rfl, by go_num, HLT.out, HU31.out, (.inr rfl), HAG.out, (.inr ⟨rfl, 3, agB, mkB, rfl, .inr ⟨rfl, rfl⟩, HBG.out⟩), (fun h => by cases h), HY31_x17.out, HY31_x18.out, HY31_x19.out, HY31_now.out, HN.out.1, HN.out.2⟩
                case measure => simp [intOf]; have := HLT.out; omega
            · by_cases hk1 : KK = 1
              · subst hk1
                clear hU hU2 hU3 hk
                as_aux_lemma =>
                  have cn := HX22b.out.row.cell 0 _ rfl
                  go_upto_region 25 with (first
                    | (show wpList _ _ _ (Oper.mk (some 110) (.load 29 (.tmp 18)) _ _ _ _ :: _) _ _; refine HX18b.out.row.wpLoad 29 (.tmp 18) rfl rfl rfl _ Tryd.underlying29 rfl i29 ?_)
                    | (go_at_call 15; refine (hear_joined HTb.out.ha HX18b.out.frin HP.out rfl rfl rfl (.inr rfl) rfl (Nat.le_trans H1.out HTb.out.ge) (HTb.out.k HK.out) (HTb.out.one H1.out) n0).mono ?_; rintro e w31 ⟨v, rfl, ⟨m31, hv, om⟩, hf, ho⟩; have HT31 := hid (HTb.out.onA ho hf); have HM31 := hid om; have HV31 := hid hv; have HO31 := hid ho; clear hv om hf ho)
                    | (show wpList _ _ _ (Oper.mk none (.store 29 (.tmp 27) (.tmp 112)) _ _ _ _ :: _) _ _; refine (Row.new' w31 _ frZ 29 _ rfl rfl).wpStore' 29 (.tmp 27) (.tmp 112) (frC ((prfF (1 : Int) a b)).k ((prfF (1 : Int) a b)).p ((prfF (1 : Int) a b)).tok ((prfF (1 : Int) a b)).non m31 ((prfF (1 : Int) a b)).bk) rfl rfl rfl HV31.out rfl (frC_m HM31.out) i29 ?_; intro wz31 HZ31))
                  have HX31_x17 := hid (HX17b.out.only HO31.out (by have := HTb.out.ne; omega))
                  clear HX17b
                  have HX31_x18 := hid (HX18b.out.only HO31.out (by have := HTb.out.ne; omega))
                  clear HX18b
                  have HX31_x19 := hid (HX19b.out.only HO31.out (by have := HTb.out.ne; omega))
                  clear HX19b
                  have HX31_now := hid (HX22b.out.only HO31.out (by have := HTb.out.ne; omega))
                  clear HX22b
                  have HX31_t24 := hid (HT24.out.only HO31.out (by have := HTb.out.ne; omega))
                  clear HT24
                  have HB31 : Hid (Below w31.heap.size w31 wz31) := by show Below _ _ _; rw [HZ31.out]; exact below_put _ _ _
                  have HX31_new : Hid (Bx q w31.heap.size ((prfF (1 : Int) a b)) m31 wz31) := by show Bx _ _ _ _ _; rw [HZ31.out]; exact Bx.new HM31.out HTb.out.lt (Nat.lt_of_lt_of_le HTb.out.lt HO31.out.size)
                  have HY31_x17 := hid (HX31_x17.out.kept HB31.out)
                  clear HX31_x17
                  have HY31_x18 := hid (HX31_x18.out.kept HB31.out)
                  clear HX31_x18
                  have HY31_x19 := hid (HX31_x19.out.kept HB31.out)
                  clear HX31_x19
                  have HY31_now := hid (HX31_now.out.kept HB31.out)
                  clear HX31_now
                  have HY31_t24 := hid (HX31_t24.out.kept HB31.out)
                  clear HX31_t24
                  have HU31 := hid (HT31.out.kept HB31.out)
                  clear HTb HT31 HB31 HZ31 HM31 HV31 HO31
                  generalize w31.heap.size = g31 at *
                  clear cn
                  go_upto_region 38 with (first
                    | (go_at_call_of 13 (Value.pointer (some ⟨w.heap.size, 0, none⟩)); refine (state_any HU31.out.ha).mono ?_; rintro e wx ⟨rfl, hwx⟩; subst hwx)
                    | (go_at_call_of 13 (Value.pointer (some ⟨q, 0, none⟩)); refine (state_any HU31.out.hb).mono ?_; rintro e wx ⟨rfl, hwx⟩; subst hwx)
                    | (show wpList _ _ _ (Oper.mk (some 120) (.load 29 (.tmp 27)) _ _ _ _ :: _) _ _; refine HX31_new.out.row.wpLoad 29 (.tmp 27) rfl rfl rfl _ Tryd.underlying29 rfl i29 ?_)
                    | (show wpList _ _ _ (Oper.mk none (.store 29 (.tmp 19) (.tmp 120)) _ _ _ _ :: _) _ _; refine HY31_x19.out.row.wpStore' 29 (.tmp 19) (.tmp 120) (frC (prfF (1 : Int) a b).k (prfF (1 : Int) a b).p (prfF (1 : Int) a b).tok (prfF (1 : Int) a b).non m31 (prfF (1 : Int) a b).bk) rfl rfl rfl rfl rfl (frC_m HX31_new.out.own) i29 ?_; intro wS HZS))
                  have HS19 : Hid (Bx q (g17 + 1 + 1) (prfF (1 : Int) a b) m31 wS) := ⟨by rw [HZS.out]; exact HY31_x19.out.row.row _, by rw [HZS.out]; exact ownB_off HX31_new.out.own (only_setRow _ _ _) HY31_x19.out.row (by decide), HY31_x19.out.gt⟩
                  have HS17 : Hid (Bx q g17 (askF (1 : Int) a b bk) m17 wS) := by show Bx _ _ _ _ _; rw [HZS.out]; exact HY31_x17.out.off (only_setRow _ _ _) HY31_x19.out.row (by decide) (by omega)
                  have HS18 : Hid (Bx q (g17 + 1) (ansF (1 : Int) a b) m18 wS) := by show Bx _ _ _ _ _; rw [HZS.out]; exact HY31_x18.out.off (only_setRow _ _ _) HY31_x19.out.row (by decide) (by omega)
                  have HS22 := hid (show Rw q g22 _ 40 wS by rw [HZS.out]; exact HY31_now.out.off (only_setRow _ _ _) (by have := HG22.out; omega))
                  have HST := hid (show Tw w w.heap.size q _ _ wS by rw [HZS.out]; exact HU31.out.off (only_setRow _ _ _) HY31_x19.out.gt)
                  clear HZS HY31_x17 HY31_x18 HY31_x19 HY31_now HY31_t24 HX31_new HU31
                  go_wp2_with (first
                    | (go_at_call_of 13 (Value.pointer (some ⟨w.heap.size, 0, none⟩)); refine (state_any HST.out.ha).mono ?_; rintro e wx ⟨rfl, hwx⟩; subst hwx)
                    | (go_at_call_of 13 (Value.pointer (some ⟨q, 0, none⟩)); refine (state_any HST.out.hb).mono ?_; rintro e wx ⟨rfl, hwx⟩; subst hwx))
                  go_roundw
                  case rel =>
                    exact ⟨i + 1, true, true, 3, agA, mkA, _, n0, n1, m17, m18, m31, rfl, rfl, by go_num, HLT.out, HST.out, (.inr rfl), HAG.out, (.inr ⟨rfl, 3, agB, mkB, rfl, .inr ⟨rfl, rfl⟩, HBG.out⟩), (fun _ => ⟨rfl, rfl⟩), HS17.out, HS18.out, HS19.out, HS22.out, HN.out.1, HN.out.2⟩
                  case measure => simp [intOf]; have := HLT.out; omega
              · by_cases hk2 : KK = 2
                · subst hk2
                  clear hU hU2 hU3 hk hk1
                  as_aux_lemma =>
                    go_wp2_with (first
                      | (go_at_call_of 13 (Value.pointer (some ⟨w.heap.size, 0, none⟩)); refine (state_any HTb.out.ha).mono ?_; rintro e wx ⟨rfl, hwx⟩; subst hwx)
                      | (go_at_call_of 13 (Value.pointer (some ⟨q, 0, none⟩)); refine (state_any HTb.out.hb).mono ?_; rintro e wx ⟨rfl, hwx⟩; subst hwx))
                    go_roundw
                    case rel =>
                      exact ⟨i + 1, true, false, 3, agA, mkA, _, n0, n1, m17, m18, m19, rfl, rfl, by go_num, HLT.out, HTb.out, (.inr rfl), HAG.out, (.inr ⟨rfl, 3, agB, mkB, rfl, .inr ⟨rfl, rfl⟩, HBG.out⟩), (fun h => by cases h), HX17b.out, HX18b.out, HX19b.out, HX22b.out, HN.out.1, HN.out.2⟩
                    case measure => simp [intOf]; have := HLT.out; omega
                · by_cases hk3 : KK = 3
                  · subst hk3
                    clear hk hk1 hk2
                    as_aux_lemma =>
                      have cn := HX22b.out.row.cell 0 _ rfl
                      have cf := HX22b.out.row.frozen 0
                      have cm := HT24.out.row.cell 1 _ rfl
                      obtain ⟨NN, hNN⟩ : ∃ NN : Nat, IntKind.u64.wrap ((n0 : Int) + (U : Int)) = (NN : Int) := ⟨(IntKind.u64.wrap ((n0 : Int) + (U : Int))).toNat, by rw [IntKind.wrap_u64]; omega⟩
                      have hN2 : ((n0 : Int) + (U : Int)) % 18446744073709551616 = (NN : Int) := by rw [← IntKind.wrap_u64]; exact hNN
                      have HN64 := hid (show NN < 18446744073709551616 by rw [IntKind.wrap_u64] at hNN; omega)
                      go_upto_region 34 with fail
                      have HS22 : Hid (Rw q g22 [.int .u64 (NN : Int), .int .u64 (n1 : Int)] 40 (wb.setCell ⟨g22, 0, none⟩ (.int .u64 (NN : Int)))) := ⟨HX22b.out.row.set 0 _, HX22b.out.gt⟩
                      have HOS : Hid (Only g22 wb (wb.setCell ⟨g22, 0, none⟩ (.int .u64 (NN : Int)))) := (Only.refl _ _).setCell _ _
                      have HSx17 := hid (HX17b.out.off HOS.out HX22b.out.row (by decide) (by have := HG22.out; omega))
                      have HSx18 := hid (HX18b.out.off HOS.out HX22b.out.row (by decide) (by have := HG22.out; omega))
                      have HSx19 := hid (HX19b.out.off HOS.out HX22b.out.row (by decide) (by have := HG22.out; omega))
                      have HST := hid (HTb.out.off HOS.out HX22b.out.gt)
                      clear cn cf cm hNN hN2 HOS HX17b HX18b HX19b HX22b HT24 HTb
                      generalize wb.setCell ⟨g22, 0, none⟩ (.int .u64 (NN : Int)) = wS at *
                      have cn := HS22.out.row.cell 0 _ rfl
                      go_upto_region 38 with (go_at_call 11; refine (tick_any HST.out.ha Rn rfl HR.out HAG.out NN HN64.out HAB.out.2 (HST.out.k HK.out) (Nat.le_trans H1.out HST.out.ge)).mono ?_; rintro e wT ⟨F', fo, bo, ⟨vT, rfl, fT, hfT, hoT⟩, hcT⟩; have HHU11 := hid (HST.out.onA hoT hfT); have HOT := hid hoT; have HCT := hid hcT; clear fT hfT hoT hcT)
                      have HTx17 := hid (HSx17.out.only HOT.out (by have := HST.out.ne; omega))
                      clear HSx17
                      have HTx18 := hid (HSx18.out.only HOT.out (by have := HST.out.ne; omega))
                      clear HSx18
                      have HTx19 := hid (HSx19.out.only HOT.out (by have := HST.out.ne; omega))
                      clear HSx19
                      have HTnow := hid (HS22.out.only HOT.out (by have := HST.out.ne; omega))
                      clear HS22
                      clear HST HOT cn
                      rcases HCT.out with rfl | ⟨hwt, rfl⟩ | ⟨hwt, hlag, mk, rfl⟩
                      · clear HCT
                        go_wp2_with (first
                          | (go_at_call_of 13 (Value.pointer (some ⟨w.heap.size, 0, none⟩)); refine (state_any HHU11.out.ha).mono ?_; rintro e wx ⟨rfl, hwx⟩; subst hwx)
                          | (go_at_call_of 13 (Value.pointer (some ⟨q, 0, none⟩)); refine (state_any HHU11.out.hb).mono ?_; rintro e wx ⟨rfl, hwx⟩; subst hwx))
                        go_roundw
                        case rel =>
                          exact ⟨i + 1, true, false, 3, agA, mkA, _, NN, n1, m17, m18, m19, rfl, rfl, by go_num, HLT.out, HHU11.out, (.inr rfl), HAG.out, (.inr ⟨rfl, 3, agB, mkB, rfl, .inr ⟨rfl, rfl⟩, HBG.out⟩), (fun h => by cases h), HTx17.out, HTx18.out, HTx19.out, HTnow.out, HN64.out, HN.out.2⟩
                        case measure => simp [intOf]; have := HLT.out; omega
                      · exact absurd hwt (by simp [Hf.waits])
                      · exact absurd hwt (by simp [Hf.waits])
                  · by_cases hk4 : KK = 4
                    · subst hk4
                      clear hk hk1 hk2 hk3
                      as_aux_lemma =>
                        have cn := HX22b.out.row.cell 1 _ rfl
                        have cf := HX22b.out.row.frozen 1
                        have cm := HT24.out.row.cell 1 _ rfl
                        obtain ⟨NN, hNN⟩ : ∃ NN : Nat, IntKind.u64.wrap ((n1 : Int) + (U : Int)) = (NN : Int) := ⟨(IntKind.u64.wrap ((n1 : Int) + (U : Int))).toNat, by rw [IntKind.wrap_u64]; omega⟩
                        have hN2 : ((n1 : Int) + (U : Int)) % 18446744073709551616 = (NN : Int) := by rw [← IntKind.wrap_u64]; exact hNN
                        have HN64 := hid (show NN < 18446744073709551616 by rw [IntKind.wrap_u64] at hNN; omega)
                        go_upto_region 37 with fail
                        have HS22 : Hid (Rw q g22 [.int .u64 (n0 : Int), .int .u64 (NN : Int)] 40 (wb.setCell ⟨g22, 1, none⟩ (.int .u64 (NN : Int)))) := ⟨HX22b.out.row.set 1 _, HX22b.out.gt⟩
                        have HOS : Hid (Only g22 wb (wb.setCell ⟨g22, 1, none⟩ (.int .u64 (NN : Int)))) := (Only.refl _ _).setCell _ _
                        have HSx17 := hid (HX17b.out.off HOS.out HX22b.out.row (by decide) (by have := HG22.out; omega))
                        have HSx18 := hid (HX18b.out.off HOS.out HX22b.out.row (by decide) (by have := HG22.out; omega))
                        have HSx19 := hid (HX19b.out.off HOS.out HX22b.out.row (by decide) (by have := HG22.out; omega))
                        have HST := hid (HTb.out.off HOS.out HX22b.out.gt)
                        clear cn cf cm hNN hN2 HOS HX17b HX18b HX19b HX22b HT24 HTb
                        generalize wb.setCell ⟨g22, 1, none⟩ (.int .u64 (NN : Int)) = wS at *
                        have cn := HS22.out.row.cell 1 _ rfl
                        go_upto_region 38 with (go_at_call 11; refine (tick_any HST.out.hb Rn rfl HR.out HBG.out NN HN64.out HAB.out.1 (HST.out.k HK.out) (by have := HST.out.ge; have := HST.out.ne; have := H1.out; omega)).mono ?_; rintro e wT ⟨F', fo, bo, ⟨vT, rfl, fT, hfT, hoT⟩, hcT⟩; have HHU11 := hid (HST.out.onB hoT hfT); have HOT := hid hoT; have HCT := hid hcT; clear fT hfT hoT hcT)
                        have HTx17 := hid (HSx17.out.only HOT.out (Nat.le_refl _))
                        clear HSx17
                        have HTx18 := hid (HSx18.out.only HOT.out (Nat.le_refl _))
                        clear HSx18
                        have HTx19 := hid (HSx19.out.only HOT.out (Nat.le_refl _))
                        clear HSx19
                        have HTnow := hid (HS22.out.only HOT.out (Nat.le_refl _))
                        clear HS22
                        clear HST HOT cn
                        rcases HCT.out with rfl | ⟨hwt, rfl⟩ | ⟨hwt, hlag, mk, rfl⟩
                        · clear HCT
                          go_wp2_with (first
                            | (go_at_call_of 13 (Value.pointer (some ⟨w.heap.size, 0, none⟩)); refine (state_any HHU11.out.ha).mono ?_; rintro e wx ⟨rfl, hwx⟩; subst hwx)
                            | (go_at_call_of 13 (Value.pointer (some ⟨q, 0, none⟩)); refine (state_any HHU11.out.hb).mono ?_; rintro e wx ⟨rfl, hwx⟩; subst hwx))
                          go_roundw
                          case rel =>
                            exact ⟨i + 1, true, false, 3, agA, mkA, _, n0, NN, m17, m18, m19, rfl, rfl, by go_num, HLT.out, HHU11.out, (.inr rfl), HAG.out, (.inr ⟨rfl, 3, agB, mkB, rfl, .inr ⟨rfl, rfl⟩, HBG.out⟩), (fun h => by cases h), HTx17.out, HTx18.out, HTx19.out, HTnow.out, HN.out.1, HN64.out⟩
                          case measure => simp [intOf]; have := HLT.out; omega
                        · exact absurd hwt (by simp [Hf.waits])
                        · exact absurd hwt (by simp [Hf.waits])
                    · have b0 := beq_i hk
                      have b1 := beq_i hk1
                      have b2 := beq_i hk2
                      have b3 := beq_i hk3
                      have b4 := beq_i hk4
                      clear hU hU2 hU3 hk hk1 hk2 hk3 hk4
                      as_aux_lemma =>
                        go_wp2_with (first
                          | (go_at_call_of 13 (Value.pointer (some ⟨w.heap.size, 0, none⟩)); refine (state_any HTb.out.ha).mono ?_; rintro e wx ⟨rfl, hwx⟩; subst hwx)
                          | (go_at_call_of 13 (Value.pointer (some ⟨q, 0, none⟩)); refine (state_any HTb.out.hb).mono ?_; rintro e wx ⟨rfl, hwx⟩; subst hwx))
                        go_roundw
                        case rel =>
                          exact ⟨i + 1, true, false, 3, agA, mkA, _, n0, n1, m17, m18, m19, rfl, rfl, by go_num, HLT.out, HTb.out, (.inr rfl), HAG.out, (.inr ⟨rfl, 3, agB, mkB, rfl, .inr ⟨rfl, rfl⟩, HBG.out⟩), (fun h => by cases h), HX17b.out, HX18b.out, HX19b.out, HX22b.out, HN.out.1, HN.out.2⟩
                        case measure => simp [intOf]; have := HLT.out; omega
        | true =>
          obtain rfl : sA = 3 := (hpr rfl).2
          clear hpr hsA
          rcases hsB with rfl | ⟨rfl, _⟩
          · skip
            by_cases hk : KK = 0
            · subst hk
              clear hU hU2 hU3
              have cn := HX22b.out.row.cell 1 _ rfl
              go_upto_region 18 with (first
                | (show wpList _ _ _ (Oper.mk (some 88) (.load 29 (.tmp 17)) _ _ _ _ :: _) _ _; refine HX17b.out.row.wpLoad 29 (.tmp 17) rfl rfl rfl _ Tryd.underlying29 rfl i29 ?_)
                | (go_at_call 15; refine (hear_join HTb.out.hb HX17b.out.frin HP.out rfl rfl rfl (.inr rfl) rfl HAB.out.2 (by have := HTb.out.ge; have := HTb.out.ne; have := H1.out; omega) (HTb.out.k HK.out) (HTb.out.one H1.out) n1).mono ?_; rintro e w31 ⟨v, rfl, ⟨m31, hv, om⟩, hf, ho⟩; have HT31 := hid (HTb.out.onB ho hf); have HM31 := hid om; have HV31 := hid hv; have HO31 := hid ho; clear hv om hf ho)
                | (show wpList _ _ _ (Oper.mk none (.store 29 (.tmp 25) (.tmp 90)) _ _ _ _ :: _) _ _; refine (Row.new' w31 _ frZ 29 _ rfl rfl).wpStore' 29 (.tmp 25) (.tmp 90) (frC ((ansF (1 : Int) a b)).k ((ansF (1 : Int) a b)).p ((ansF (1 : Int) a b)).tok ((ansF (1 : Int) a b)).non m31 ((ansF (1 : Int) a b)).bk) rfl rfl rfl HV31.out rfl (frC_m HM31.out) i29 ?_; intro wz31 HZ31))
              have HX31_x17 := hid (HX17b.out.only HO31.out (Nat.le_refl _))
              clear HX17b
              have HX31_x18 := hid (HX18b.out.only HO31.out (Nat.le_refl _))
              clear HX18b
              have HX31_x19 := hid (HX19b.out.only HO31.out (Nat.le_refl _))
              clear HX19b
              have HX31_now := hid (HX22b.out.only HO31.out (Nat.le_refl _))
              clear HX22b
              have HX31_t24 := hid (HT24.out.only HO31.out (Nat.le_refl _))
              clear HT24
              have HB31 : Hid (Below w31.heap.size w31 wz31) := by show Below _ _ _; rw [HZ31.out]; exact below_put _ _ _
              have HX31_new : Hid (Bx q w31.heap.size ((ansF (1 : Int) a b)) m31 wz31) := by show Bx _ _ _ _ _; rw [HZ31.out]; exact Bx.new HM31.out HTb.out.lt (Nat.lt_of_lt_of_le HTb.out.lt HO31.out.size)
              have HY31_x17 := hid (HX31_x17.out.kept HB31.out)
              clear HX31_x17
              have HY31_x18 := hid (HX31_x18.out.kept HB31.out)
              clear HX31_x18
              have HY31_x19 := hid (HX31_x19.out.kept HB31.out)
              clear HX31_x19
              have HY31_now := hid (HX31_now.out.kept HB31.out)
              clear HX31_now
              have HY31_t24 := hid (HX31_t24.out.kept HB31.out)
              clear HX31_t24
              have HU31 := hid (HT31.out.kept HB31.out)
              clear HTb HT31 HB31 HZ31 HM31 HV31 HO31
              generalize w31.heap.size = g31 at *
              clear cn
              go_upto_region 20 with (first
                | (show wpList _ _ _ (Oper.mk (some 93) (.load 29 (.tmp 25)) _ _ _ _ :: _) _ _; refine HX31_new.out.row.wpLoad 29 (.tmp 25) rfl rfl rfl _ Tryd.underlying29 rfl i29 ?_)
                | (show wpList _ _ _ (Oper.mk none (.store 29 (.tmp 18) (.tmp 93)) _ _ _ _ :: _) _ _; refine HY31_x18.out.row.wpStore' 29 (.tmp 18) (.tmp 93) (frC (ansF (1 : Int) a b).k (ansF (1 : Int) a b).p (ansF (1 : Int) a b).tok (ansF (1 : Int) a b).non m31 (ansF (1 : Int) a b).bk) rfl rfl rfl rfl rfl (frC_m HX31_new.out.own) i29 ?_; intro wS HZS))
              have HS18 : Hid (Bx q (g17 + 1) (ansF (1 : Int) a b) m31 wS) := ⟨by rw [HZS.out]; exact HY31_x18.out.row.row _, by rw [HZS.out]; exact ownB_off HX31_new.out.own (only_setRow _ _ _) HY31_x18.out.row (by decide), HY31_x18.out.gt⟩
              have HS17 : Hid (Bx q g17 (askF (1 : Int) a b bk) m17 wS) := by show Bx _ _ _ _ _; rw [HZS.out]; exact HY31_x17.out.off (only_setRow _ _ _) HY31_x18.out.row (by decide) (by omega)
              have HS19 : Hid (Bx q (g17 + 1 + 1) (if true then (prfF (1 : Int) a b) else Fo.zero) m19 wS) := by show Bx _ _ _ _ _; rw [HZS.out]; exact HY31_x19.out.off (only_setRow _ _ _) HY31_x18.out.row (by decide) (by omega)
              have HS22 := hid (show Rw q g22 _ 40 wS by rw [HZS.out]; exact HY31_now.out.off (only_setRow _ _ _) (by have := HG22.out; omega))
              have HST := hid (show Tw w w.heap.size q _ _ wS by rw [HZS.out]; exact HU31.out.off (only_setRow _ _ _) HY31_x18.out.gt)
              clear HZS HY31_x17 HY31_x18 HY31_x19 HY31_now HY31_t24 HX31_new HU31
              go_wp2_with (first
                | (go_at_call_of 13 (Value.pointer (some ⟨w.heap.size, 0, none⟩)); refine (state_any HST.out.ha).mono ?_; rintro e wx ⟨rfl, hwx⟩; subst hwx)
                | (go_at_call_of 13 (Value.pointer (some ⟨q, 0, none⟩)); refine (state_any HST.out.hb).mono ?_; rintro e wx ⟨rfl, hwx⟩; subst hwx))
              go_roundw
              case rel =>
                exact ⟨i + 1, true, true, 3, agA, mkA, _, n0, n1, m17, m31, m19, rfl, rfl, by go_num, HLT.out, HST.out, (.inr rfl), HAG.out, (.inr ⟨rfl, 2, 0, n1, rfl, .inl rfl, (Nat.zero_le _)⟩), (fun _ => ⟨rfl, rfl⟩), HS17.out, HS18.out, HS19.out, HS22.out, HN.out.1, HN.out.2⟩
              case measure => simp [intOf]; have := HLT.out; omega
            · by_cases hk1 : KK = 1
              · subst hk1
                clear hU hU2 hU3 hk
                as_aux_lemma =>
                  have cn := HX22b.out.row.cell 0 _ rfl
                  go_upto_region 25 with (first
                    | (show wpList _ _ _ (Oper.mk (some 110) (.load 29 (.tmp 18)) _ _ _ _ :: _) _ _; refine HX18b.out.row.wpLoad 29 (.tmp 18) rfl rfl rfl _ Tryd.underlying29 rfl i29 ?_)
                    | (go_at_call 15; refine (hear_joined HTb.out.ha HX18b.out.frin HP.out rfl rfl rfl (.inr rfl) rfl (Nat.le_trans H1.out HTb.out.ge) (HTb.out.k HK.out) (HTb.out.one H1.out) n0).mono ?_; rintro e w31 ⟨v, rfl, ⟨m31, hv, om⟩, hf, ho⟩; have HT31 := hid (HTb.out.onA ho hf); have HM31 := hid om; have HV31 := hid hv; have HO31 := hid ho; clear hv om hf ho)
                    | (show wpList _ _ _ (Oper.mk none (.store 29 (.tmp 27) (.tmp 112)) _ _ _ _ :: _) _ _; refine (Row.new' w31 _ frZ 29 _ rfl rfl).wpStore' 29 (.tmp 27) (.tmp 112) (frC ((prfF (1 : Int) a b)).k ((prfF (1 : Int) a b)).p ((prfF (1 : Int) a b)).tok ((prfF (1 : Int) a b)).non m31 ((prfF (1 : Int) a b)).bk) rfl rfl rfl HV31.out rfl (frC_m HM31.out) i29 ?_; intro wz31 HZ31))
                  have HX31_x17 := hid (HX17b.out.only HO31.out (by have := HTb.out.ne; omega))
                  clear HX17b
                  have HX31_x18 := hid (HX18b.out.only HO31.out (by have := HTb.out.ne; omega))
                  clear HX18b
                  have HX31_x19 := hid (HX19b.out.only HO31.out (by have := HTb.out.ne; omega))
                  clear HX19b
                  have HX31_now := hid (HX22b.out.only HO31.out (by have := HTb.out.ne; omega))
                  clear HX22b
                  have HX31_t24 := hid (HT24.out.only HO31.out (by have := HTb.out.ne; omega))
                  clear HT24
                  have HB31 : Hid (Below w31.heap.size w31 wz31) := by show Below _ _ _; rw [HZ31.out]; exact below_put _ _ _
                  have HX31_new : Hid (Bx q w31.heap.size ((prfF (1 : Int) a b)) m31 wz31) := by show Bx _ _ _ _ _; rw [HZ31.out]; exact Bx.new HM31.out HTb.out.lt (Nat.lt_of_lt_of_le HTb.out.lt HO31.out.size)
                  have HY31_x17 := hid (HX31_x17.out.kept HB31.out)
                  clear HX31_x17
                  have HY31_x18 := hid (HX31_x18.out.kept HB31.out)
                  clear HX31_x18
                  have HY31_x19 := hid (HX31_x19.out.kept HB31.out)
                  clear HX31_x19
                  have HY31_now := hid (HX31_now.out.kept HB31.out)
                  clear HX31_now
                  have HY31_t24 := hid (HX31_t24.out.kept HB31.out)
                  clear HX31_t24
                  have HU31 := hid (HT31.out.kept HB31.out)
                  clear HTb HT31 HB31 HZ31 HM31 HV31 HO31
                  generalize w31.heap.size = g31 at *
                  clear cn
                  go_upto_region 38 with (first
                    | (go_at_call_of 13 (Value.pointer (some ⟨w.heap.size, 0, none⟩)); refine (state_any HU31.out.ha).mono ?_; rintro e wx ⟨rfl, hwx⟩; subst hwx)
                    | (go_at_call_of 13 (Value.pointer (some ⟨q, 0, none⟩)); refine (state_any HU31.out.hb).mono ?_; rintro e wx ⟨rfl, hwx⟩; subst hwx)
                    | (show wpList _ _ _ (Oper.mk (some 120) (.load 29 (.tmp 27)) _ _ _ _ :: _) _ _; refine HX31_new.out.row.wpLoad 29 (.tmp 27) rfl rfl rfl _ Tryd.underlying29 rfl i29 ?_)
                    | (show wpList _ _ _ (Oper.mk none (.store 29 (.tmp 19) (.tmp 120)) _ _ _ _ :: _) _ _; refine HY31_x19.out.row.wpStore' 29 (.tmp 19) (.tmp 120) (frC (prfF (1 : Int) a b).k (prfF (1 : Int) a b).p (prfF (1 : Int) a b).tok (prfF (1 : Int) a b).non m31 (prfF (1 : Int) a b).bk) rfl rfl rfl rfl rfl (frC_m HX31_new.out.own) i29 ?_; intro wS HZS))
                  have HS19 : Hid (Bx q (g17 + 1 + 1) (prfF (1 : Int) a b) m31 wS) := ⟨by rw [HZS.out]; exact HY31_x19.out.row.row _, by rw [HZS.out]; exact ownB_off HX31_new.out.own (only_setRow _ _ _) HY31_x19.out.row (by decide), HY31_x19.out.gt⟩
                  have HS17 : Hid (Bx q g17 (askF (1 : Int) a b bk) m17 wS) := by show Bx _ _ _ _ _; rw [HZS.out]; exact HY31_x17.out.off (only_setRow _ _ _) HY31_x19.out.row (by decide) (by omega)
                  have HS18 : Hid (Bx q (g17 + 1) (ansF (1 : Int) a b) m18 wS) := by show Bx _ _ _ _ _; rw [HZS.out]; exact HY31_x18.out.off (only_setRow _ _ _) HY31_x19.out.row (by decide) (by omega)
                  have HS22 := hid (show Rw q g22 _ 40 wS by rw [HZS.out]; exact HY31_now.out.off (only_setRow _ _ _) (by have := HG22.out; omega))
                  have HST := hid (show Tw w w.heap.size q _ _ wS by rw [HZS.out]; exact HU31.out.off (only_setRow _ _ _) HY31_x19.out.gt)
                  clear HZS HY31_x17 HY31_x18 HY31_x19 HY31_now HY31_t24 HX31_new HU31
                  go_wp2_with (first
                    | (go_at_call_of 13 (Value.pointer (some ⟨w.heap.size, 0, none⟩)); refine (state_any HST.out.ha).mono ?_; rintro e wx ⟨rfl, hwx⟩; subst hwx)
                    | (go_at_call_of 13 (Value.pointer (some ⟨q, 0, none⟩)); refine (state_any HST.out.hb).mono ?_; rintro e wx ⟨rfl, hwx⟩; subst hwx))
                  go_roundw
                  case rel =>
                    exact ⟨i + 1, true, true, 3, agA, mkA, _, n0, n1, m17, m18, m31, rfl, rfl, by go_num, HLT.out, HST.out, (.inr rfl), HAG.out, (.inr ⟨rfl, 2, agB, mkB, rfl, .inl rfl, HBG.out⟩), (fun _ => ⟨rfl, rfl⟩), HS17.out, HS18.out, HS19.out, HS22.out, HN.out.1, HN.out.2⟩
                  case measure => simp [intOf]; have := HLT.out; omega
              · by_cases hk2 : KK = 2
                · subst hk2
                  clear hU hU2 hU3 hk hk1
                  as_aux_lemma =>
                    have cn := HX22b.out.row.cell 1 _ rfl
                    go_upto_region 38 with (first
                      | (show wpList _ _ _ (Oper.mk (some 127) (.load 29 (.tmp 19)) _ _ _ _ :: _) _ _; refine HX19b.out.row.wpLoad 29 (.tmp 19) rfl rfl rfl _ Tryd.underlying29 rfl i29 ?_)
                      | (go_at_call 15; refine (hear_prove HTb.out.hb HX19b.out.frin HP.out rfl rfl rfl rfl (HTb.out.k HK.out) (HTb.out.one H1.out) n1).mono ?_; rintro e w31 ⟨v, rfl, ⟨m31, hv, om⟩, hf, ho⟩; have HT31 := hid (HTb.out.onB ho hf); have HM31 := hid om; have HV31 := hid hv; have HO31 := hid ho; clear hv om hf ho))
                    have HX31_x17 := hid (HX17b.out.only HO31.out (Nat.le_refl _))
                    clear HX17b
                    have HX31_x18 := hid (HX18b.out.only HO31.out (Nat.le_refl _))
                    clear HX18b
                    have HX31_x19 := hid (HX19b.out.only HO31.out (Nat.le_refl _))
                    clear HX19b
                    have HX31_now := hid (HX22b.out.only HO31.out (Nat.le_refl _))
                    clear HX22b
                    have HX31_t24 := hid (HT24.out.only HO31.out (Nat.le_refl _))
                    clear HT24
                    clear HTb HM31 HV31 HO31
                    clear cn
                    go_wp2_with (first
                      | (go_at_call_of 13 (Value.pointer (some ⟨w.heap.size, 0, none⟩)); refine (state_any HT31.out.ha).mono ?_; rintro e wx ⟨rfl, hwx⟩; subst hwx)
                      | (go_at_call_of 13 (Value.pointer (some ⟨q, 0, none⟩)); refine (state_any HT31.out.hb).mono ?_; rintro e wx ⟨rfl, hwx⟩; subst hwx))
                    go_roundw
                    case rel =>
                      exact ⟨i + 1, true, true, 3, agA, mkA, _, n0, n1, m17, m18, m19, rfl, rfl, by go_num, HLT.out, HT31.out, (.inr rfl), HAG.out, (.inr ⟨rfl, 3, agB, mkB, rfl, .inr ⟨rfl, rfl⟩, HBG.out⟩), (fun _ => ⟨rfl, rfl⟩), HX31_x17.out, HX31_x18.out, HX31_x19.out, HX31_now.out, HN.out.1, HN.out.2⟩
                    case measure => simp [intOf]; have := HLT.out; omega
                · by_cases hk3 : KK = 3
                  · subst hk3
                    clear hk hk1 hk2
                    as_aux_lemma =>
                      have cn := HX22b.out.row.cell 0 _ rfl
                      have cf := HX22b.out.row.frozen 0
                      have cm := HT24.out.row.cell 1 _ rfl
                      obtain ⟨NN, hNN⟩ : ∃ NN : Nat, IntKind.u64.wrap ((n0 : Int) + (U : Int)) = (NN : Int) := ⟨(IntKind.u64.wrap ((n0 : Int) + (U : Int))).toNat, by rw [IntKind.wrap_u64]; omega⟩
                      have hN2 : ((n0 : Int) + (U : Int)) % 18446744073709551616 = (NN : Int) := by rw [← IntKind.wrap_u64]; exact hNN
                      have HN64 := hid (show NN < 18446744073709551616 by rw [IntKind.wrap_u64] at hNN; omega)
                      go_upto_region 34 with fail
                      have HS22 : Hid (Rw q g22 [.int .u64 (NN : Int), .int .u64 (n1 : Int)] 40 (wb.setCell ⟨g22, 0, none⟩ (.int .u64 (NN : Int)))) := ⟨HX22b.out.row.set 0 _, HX22b.out.gt⟩
                      have HOS : Hid (Only g22 wb (wb.setCell ⟨g22, 0, none⟩ (.int .u64 (NN : Int)))) := (Only.refl _ _).setCell _ _
                      have HSx17 := hid (HX17b.out.off HOS.out HX22b.out.row (by decide) (by have := HG22.out; omega))
                      have HSx18 := hid (HX18b.out.off HOS.out HX22b.out.row (by decide) (by have := HG22.out; omega))
                      have HSx19 := hid (HX19b.out.off HOS.out HX22b.out.row (by decide) (by have := HG22.out; omega))
                      have HST := hid (HTb.out.off HOS.out HX22b.out.gt)
                      clear cn cf cm hNN hN2 HOS HX17b HX18b HX19b HX22b HT24 HTb
                      generalize wb.setCell ⟨g22, 0, none⟩ (.int .u64 (NN : Int)) = wS at *
                      have cn := HS22.out.row.cell 0 _ rfl
                      go_upto_region 38 with (go_at_call 11; refine (tick_any HST.out.ha Rn rfl HR.out HAG.out NN HN64.out HAB.out.2 (HST.out.k HK.out) (Nat.le_trans H1.out HST.out.ge)).mono ?_; rintro e wT ⟨F', fo, bo, ⟨vT, rfl, fT, hfT, hoT⟩, hcT⟩; have HHU11 := hid (HST.out.onA hoT hfT); have HOT := hid hoT; have HCT := hid hcT; clear fT hfT hoT hcT)
                      have HTx17 := hid (HSx17.out.only HOT.out (by have := HST.out.ne; omega))
                      clear HSx17
                      have HTx18 := hid (HSx18.out.only HOT.out (by have := HST.out.ne; omega))
                      clear HSx18
                      have HTx19 := hid (HSx19.out.only HOT.out (by have := HST.out.ne; omega))
                      clear HSx19
                      have HTnow := hid (HS22.out.only HOT.out (by have := HST.out.ne; omega))
                      clear HS22
                      clear HST HOT cn
                      rcases HCT.out with rfl | ⟨hwt, rfl⟩ | ⟨hwt, hlag, mk, rfl⟩
                      · clear HCT
                        go_wp2_with (first
                          | (go_at_call_of 13 (Value.pointer (some ⟨w.heap.size, 0, none⟩)); refine (state_any HHU11.out.ha).mono ?_; rintro e wx ⟨rfl, hwx⟩; subst hwx)
                          | (go_at_call_of 13 (Value.pointer (some ⟨q, 0, none⟩)); refine (state_any HHU11.out.hb).mono ?_; rintro e wx ⟨rfl, hwx⟩; subst hwx))
                        go_roundw
                        case rel =>
                          exact ⟨i + 1, true, true, 3, agA, mkA, _, NN, n1, m17, m18, m19, rfl, rfl, by go_num, HLT.out, HHU11.out, (.inr rfl), HAG.out, (.inr ⟨rfl, 2, agB, mkB, rfl, .inl rfl, HBG.out⟩), (fun _ => ⟨rfl, rfl⟩), HTx17.out, HTx18.out, HTx19.out, HTnow.out, HN64.out, HN.out.2⟩
                        case measure => simp [intOf]; have := HLT.out; omega
                      · exact absurd hwt (by simp [Hf.waits])
                      · exact absurd hwt (by simp [Hf.waits])
                  · by_cases hk4 : KK = 4
                    · subst hk4
                      clear hk hk1 hk2 hk3
                      as_aux_lemma =>
                        have cn := HX22b.out.row.cell 1 _ rfl
                        have cf := HX22b.out.row.frozen 1
                        have cm := HT24.out.row.cell 1 _ rfl
                        obtain ⟨NN, hNN⟩ : ∃ NN : Nat, IntKind.u64.wrap ((n1 : Int) + (U : Int)) = (NN : Int) := ⟨(IntKind.u64.wrap ((n1 : Int) + (U : Int))).toNat, by rw [IntKind.wrap_u64]; omega⟩
                        have hN2 : ((n1 : Int) + (U : Int)) % 18446744073709551616 = (NN : Int) := by rw [← IntKind.wrap_u64]; exact hNN
                        have HN64 := hid (show NN < 18446744073709551616 by rw [IntKind.wrap_u64] at hNN; omega)
                        go_upto_region 37 with fail
                        have HS22 : Hid (Rw q g22 [.int .u64 (n0 : Int), .int .u64 (NN : Int)] 40 (wb.setCell ⟨g22, 1, none⟩ (.int .u64 (NN : Int)))) := ⟨HX22b.out.row.set 1 _, HX22b.out.gt⟩
                        have HOS : Hid (Only g22 wb (wb.setCell ⟨g22, 1, none⟩ (.int .u64 (NN : Int)))) := (Only.refl _ _).setCell _ _
                        have HSx17 := hid (HX17b.out.off HOS.out HX22b.out.row (by decide) (by have := HG22.out; omega))
                        have HSx18 := hid (HX18b.out.off HOS.out HX22b.out.row (by decide) (by have := HG22.out; omega))
                        have HSx19 := hid (HX19b.out.off HOS.out HX22b.out.row (by decide) (by have := HG22.out; omega))
                        have HST := hid (HTb.out.off HOS.out HX22b.out.gt)
                        clear cn cf cm hNN hN2 HOS HX17b HX18b HX19b HX22b HT24 HTb
                        generalize wb.setCell ⟨g22, 1, none⟩ (.int .u64 (NN : Int)) = wS at *
                        have cn := HS22.out.row.cell 1 _ rfl
                        go_upto_region 38 with (go_at_call 11; refine (tick_any HST.out.hb Rn rfl HR.out HBG.out NN HN64.out HAB.out.1 (HST.out.k HK.out) (by have := HST.out.ge; have := HST.out.ne; have := H1.out; omega)).mono ?_; rintro e wT ⟨F', fo, bo, ⟨vT, rfl, fT, hfT, hoT⟩, hcT⟩; have HHU11 := hid (HST.out.onB hoT hfT); have HOT := hid hoT; have HCT := hid hcT; clear fT hfT hoT hcT)
                        have HTx17 := hid (HSx17.out.only HOT.out (Nat.le_refl _))
                        clear HSx17
                        have HTx18 := hid (HSx18.out.only HOT.out (Nat.le_refl _))
                        clear HSx18
                        have HTx19 := hid (HSx19.out.only HOT.out (Nat.le_refl _))
                        clear HSx19
                        have HTnow := hid (HS22.out.only HOT.out (Nat.le_refl _))
                        clear HS22
                        clear HST HOT cn
                        rcases HCT.out with rfl | ⟨hwt, rfl⟩ | ⟨hwt, hlag, mk, rfl⟩
                        · clear HCT
                          go_wp2_with (first
                            | (go_at_call_of 13 (Value.pointer (some ⟨w.heap.size, 0, none⟩)); refine (state_any HHU11.out.ha).mono ?_; rintro e wx ⟨rfl, hwx⟩; subst hwx)
                            | (go_at_call_of 13 (Value.pointer (some ⟨q, 0, none⟩)); refine (state_any HHU11.out.hb).mono ?_; rintro e wx ⟨rfl, hwx⟩; subst hwx))
                          go_roundw
                          case rel =>
                            exact ⟨i + 1, true, true, 3, agA, mkA, _, n0, NN, m17, m18, m19, rfl, rfl, by go_num, HLT.out, HHU11.out, (.inr rfl), HAG.out, (.inr ⟨rfl, 2, agB, mkB, rfl, .inl rfl, HBG.out⟩), (fun _ => ⟨rfl, rfl⟩), HTx17.out, HTx18.out, HTx19.out, HTnow.out, HN.out.1, HN64.out⟩
                          case measure => simp [intOf]; have := HLT.out; omega
                        · clear HCT hwt
                          go_wp2_with (first
                            | (go_at_call_of 13 (Value.pointer (some ⟨w.heap.size, 0, none⟩)); refine (state_any HHU11.out.ha).mono ?_; rintro e wx ⟨rfl, hwx⟩; subst hwx)
                            | (go_at_call_of 13 (Value.pointer (some ⟨q, 0, none⟩)); refine (state_any HHU11.out.hb).mono ?_; rintro e wx ⟨rfl, hwx⟩; subst hwx))
                          go_ret
                          exact ⟨rfl, HHU11.out.bel⟩
                        · have HLA := hid (show _ + 1 ≤ Rn from hlag)
                          clear HCT hwt hlag
                          go_wp2_with (first
                            | (go_at_call_of 13 (Value.pointer (some ⟨w.heap.size, 0, none⟩)); refine (state_any HHU11.out.ha).mono ?_; rintro e wx ⟨rfl, hwx⟩; subst hwx)
                            | (go_at_call_of 13 (Value.pointer (some ⟨q, 0, none⟩)); refine (state_any HHU11.out.hb).mono ?_; rintro e wx ⟨rfl, hwx⟩; subst hwx))
                          go_roundw
                          case rel =>
                            exact ⟨i + 1, true, true, 3, agA, mkA, _, n0, NN, m17, m18, m19, rfl, rfl, by go_num, HLT.out, HHU11.out, (.inr rfl), HAG.out, (.inr ⟨rfl, 2, (agB + 1), mk, rfl, .inl rfl, HLA.out⟩), (fun _ => ⟨rfl, rfl⟩), HTx17.out, HTx18.out, HTx19.out, HTnow.out, HN.out.1, HN64.out⟩
                          case measure => simp [intOf]; have := HLT.out; omega
                    · have b0 := beq_i hk
                      have b1 := beq_i hk1
                      have b2 := beq_i hk2
                      have b3 := beq_i hk3
                      have b4 := beq_i hk4
                      clear hU hU2 hU3 hk hk1 hk2 hk3 hk4
                      as_aux_lemma =>
                        go_wp2_with (first
                          | (go_at_call_of 13 (Value.pointer (some ⟨w.heap.size, 0, none⟩)); refine (state_any HTb.out.ha).mono ?_; rintro e wx ⟨rfl, hwx⟩; subst hwx)
                          | (go_at_call_of 13 (Value.pointer (some ⟨q, 0, none⟩)); refine (state_any HTb.out.hb).mono ?_; rintro e wx ⟨rfl, hwx⟩; subst hwx))
                        go_roundw
                        case rel =>
                          exact ⟨i + 1, true, true, 3, agA, mkA, _, n0, n1, m17, m18, m19, rfl, rfl, by go_num, HLT.out, HTb.out, (.inr rfl), HAG.out, (.inr ⟨rfl, 2, agB, mkB, rfl, .inl rfl, HBG.out⟩), (fun _ => ⟨rfl, rfl⟩), HX17b.out, HX18b.out, HX19b.out, HX22b.out, HN.out.1, HN.out.2⟩
                        case measure => simp [intOf]; have := HLT.out; omega
          · skip
            by_cases hk : KK = 0
            · subst hk
              clear hU hU2 hU3
              as_aux_lemma =>
                have cn := HX22b.out.row.cell 1 _ rfl
                go_upto_region 18 with (first
                  | (show wpList _ _ _ (Oper.mk (some 88) (.load 29 (.tmp 17)) _ _ _ _ :: _) _ _; refine HX17b.out.row.wpLoad 29 (.tmp 17) rfl rfl rfl _ Tryd.underlying29 rfl i29 ?_)
                  | (go_at_call 15; refine (hear_join_no HTb.out.hb HX17b.out.frin HP.out rfl rfl (by rintro ⟨_, h, _⟩; revert h; show ¬ ((3 : Int) = 0 ∨ (3 : Int) = 2); decide) HAB.out.2 (HTb.out.k HK.out) (HTb.out.one H1.out) n1).mono ?_; rintro e w31 ⟨v, rfl, ⟨m31, hv, om⟩, hf, ho⟩; have HT31 := hid (HTb.out.onB ho hf); have HM31 := hid om; have HV31 := hid hv; have HO31 := hid ho; clear hv om hf ho)
                  | (show wpList _ _ _ (Oper.mk none (.store 29 (.tmp 25) (.tmp 90)) _ _ _ _ :: _) _ _; refine (Row.new' w31 _ frZ 29 _ rfl rfl).wpStore' 29 (.tmp 25) (.tmp 90) (frC (Fo.zero).k (Fo.zero).p (Fo.zero).tok (Fo.zero).non m31 (Fo.zero).bk) rfl rfl rfl HV31.out rfl (frC_m HM31.out) i29 ?_; intro wz31 HZ31))
                have HX31_x17 := hid (HX17b.out.only HO31.out (Nat.le_refl _))
                clear HX17b
                have HX31_x18 := hid (HX18b.out.only HO31.out (Nat.le_refl _))
                clear HX18b
                have HX31_x19 := hid (HX19b.out.only HO31.out (Nat.le_refl _))
                clear HX19b
                have HX31_now := hid (HX22b.out.only HO31.out (Nat.le_refl _))
                clear HX22b
                have HX31_t24 := hid (HT24.out.only HO31.out (Nat.le_refl _))
                clear HT24
                have HB31 : Hid (Below w31.heap.size w31 wz31) := by show Below _ _ _; rw [HZ31.out]; exact below_put _ _ _
                have HY31_x17 := hid (HX31_x17.out.kept HB31.out)
                clear HX31_x17
                have HY31_x18 := hid (HX31_x18.out.kept HB31.out)
                clear HX31_x18
                have HY31_x19 := hid (HX31_x19.out.kept HB31.out)
                clear HX31_x19
                have HY31_now := hid (HX31_now.out.kept HB31.out)
                clear HX31_now
                have HY31_t24 := hid (HX31_t24.out.kept HB31.out)
                clear HX31_t24
                have HU31 := hid (HT31.out.kept HB31.out)
                clear HTb HT31 HB31 HZ31 HM31 HV31 HO31
                generalize w31.heap.size = g31 at *
                clear cn
                go_wp2_with (first
                  | (go_at_call_of 13 (Value.pointer (some ⟨w.heap.size, 0, none⟩)); refine (state_any HU31.out.ha).mono ?_; rintro e wx ⟨rfl, hwx⟩; subst hwx)
                  | (go_at_call_of 13 (Value.pointer (some ⟨q, 0, none⟩)); refine (state_any HU31.out.hb).mono ?_; rintro e wx ⟨rfl, hwx⟩; subst hwx))
                go_roundw
                case rel =>
                  exact ⟨i + 1, true, true, 3, agA, mkA, _, n0, n1, m17, m18, m19, rfl, rfl, by go_num, HLT.out, HU31.out, (.inr rfl), HAG.out, (.inr ⟨rfl, 3, agB, mkB, rfl, .inr ⟨rfl, rfl⟩, HBG.out⟩), (fun _ => ⟨rfl, rfl⟩), HY31_x17.out, HY31_x18.out, HY31_x19.out, HY31_now.out, HN.out.1, HN.out.2⟩
                case measure => simp [intOf]; have := HLT.out; omega
            · by_cases hk1 : KK = 1
              · subst hk1
                clear hU hU2 hU3 hk
                as_aux_lemma =>
                  have cn := HX22b.out.row.cell 0 _ rfl
                  go_upto_region 25 with (first
                    | (show wpList _ _ _ (Oper.mk (some 110) (.load 29 (.tmp 18)) _ _ _ _ :: _) _ _; refine HX18b.out.row.wpLoad 29 (.tmp 18) rfl rfl rfl _ Tryd.underlying29 rfl i29 ?_)
                    | (go_at_call 15; refine (hear_joined HTb.out.ha HX18b.out.frin HP.out rfl rfl rfl (.inr rfl) rfl (Nat.le_trans H1.out HTb.out.ge) (HTb.out.k HK.out) (HTb.out.one H1.out) n0).mono ?_; rintro e w31 ⟨v, rfl, ⟨m31, hv, om⟩, hf, ho⟩; have HT31 := hid (HTb.out.onA ho hf); have HM31 := hid om; have HV31 := hid hv; have HO31 := hid ho; clear hv om hf ho)
                    | (show wpList _ _ _ (Oper.mk none (.store 29 (.tmp 27) (.tmp 112)) _ _ _ _ :: _) _ _; refine (Row.new' w31 _ frZ 29 _ rfl rfl).wpStore' 29 (.tmp 27) (.tmp 112) (frC ((prfF (1 : Int) a b)).k ((prfF (1 : Int) a b)).p ((prfF (1 : Int) a b)).tok ((prfF (1 : Int) a b)).non m31 ((prfF (1 : Int) a b)).bk) rfl rfl rfl HV31.out rfl (frC_m HM31.out) i29 ?_; intro wz31 HZ31))
                  have HX31_x17 := hid (HX17b.out.only HO31.out (by have := HTb.out.ne; omega))
                  clear HX17b
                  have HX31_x18 := hid (HX18b.out.only HO31.out (by have := HTb.out.ne; omega))
                  clear HX18b
                  have HX31_x19 := hid (HX19b.out.only HO31.out (by have := HTb.out.ne; omega))
                  clear HX19b
                  have HX31_now := hid (HX22b.out.only HO31.out (by have := HTb.out.ne; omega))
                  clear HX22b
                  have HX31_t24 := hid (HT24.out.only HO31.out (by have := HTb.out.ne; omega))
                  clear HT24
                  have HB31 : Hid (Below w31.heap.size w31 wz31) := by show Below _ _ _; rw [HZ31.out]; exact below_put _ _ _
                  have HX31_new : Hid (Bx q w31.heap.size ((prfF (1 : Int) a b)) m31 wz31) := by show Bx _ _ _ _ _; rw [HZ31.out]; exact Bx.new HM31.out HTb.out.lt (Nat.lt_of_lt_of_le HTb.out.lt HO31.out.size)
                  have HY31_x17 := hid (HX31_x17.out.kept HB31.out)
                  clear HX31_x17
                  have HY31_x18 := hid (HX31_x18.out.kept HB31.out)
                  clear HX31_x18
                  have HY31_x19 := hid (HX31_x19.out.kept HB31.out)
                  clear HX31_x19
                  have HY31_now := hid (HX31_now.out.kept HB31.out)
                  clear HX31_now
                  have HY31_t24 := hid (HX31_t24.out.kept HB31.out)
                  clear HX31_t24
                  have HU31 := hid (HT31.out.kept HB31.out)
                  clear HTb HT31 HB31 HZ31 HM31 HV31 HO31
                  generalize w31.heap.size = g31 at *
                  clear cn
                  go_upto_region 38 with (first
                    | (go_at_call_of 13 (Value.pointer (some ⟨w.heap.size, 0, none⟩)); refine (state_any HU31.out.ha).mono ?_; rintro e wx ⟨rfl, hwx⟩; subst hwx)
                    | (go_at_call_of 13 (Value.pointer (some ⟨q, 0, none⟩)); refine (state_any HU31.out.hb).mono ?_; rintro e wx ⟨rfl, hwx⟩; subst hwx)
                    | (show wpList _ _ _ (Oper.mk (some 120) (.load 29 (.tmp 27)) _ _ _ _ :: _) _ _; refine HX31_new.out.row.wpLoad 29 (.tmp 27) rfl rfl rfl _ Tryd.underlying29 rfl i29 ?_)
                    | (show wpList _ _ _ (Oper.mk none (.store 29 (.tmp 19) (.tmp 120)) _ _ _ _ :: _) _ _; refine HY31_x19.out.row.wpStore' 29 (.tmp 19) (.tmp 120) (frC (prfF (1 : Int) a b).k (prfF (1 : Int) a b).p (prfF (1 : Int) a b).tok (prfF (1 : Int) a b).non m31 (prfF (1 : Int) a b).bk) rfl rfl rfl rfl rfl (frC_m HX31_new.out.own) i29 ?_; intro wS HZS))
                  have HS19 : Hid (Bx q (g17 + 1 + 1) (prfF (1 : Int) a b) m31 wS) := ⟨by rw [HZS.out]; exact HY31_x19.out.row.row _, by rw [HZS.out]; exact ownB_off HX31_new.out.own (only_setRow _ _ _) HY31_x19.out.row (by decide), HY31_x19.out.gt⟩
                  have HS17 : Hid (Bx q g17 (askF (1 : Int) a b bk) m17 wS) := by show Bx _ _ _ _ _; rw [HZS.out]; exact HY31_x17.out.off (only_setRow _ _ _) HY31_x19.out.row (by decide) (by omega)
                  have HS18 : Hid (Bx q (g17 + 1) (ansF (1 : Int) a b) m18 wS) := by show Bx _ _ _ _ _; rw [HZS.out]; exact HY31_x18.out.off (only_setRow _ _ _) HY31_x19.out.row (by decide) (by omega)
                  have HS22 := hid (show Rw q g22 _ 40 wS by rw [HZS.out]; exact HY31_now.out.off (only_setRow _ _ _) (by have := HG22.out; omega))
                  have HST := hid (show Tw w w.heap.size q _ _ wS by rw [HZS.out]; exact HU31.out.off (only_setRow _ _ _) HY31_x19.out.gt)
                  clear HZS HY31_x17 HY31_x18 HY31_x19 HY31_now HY31_t24 HX31_new HU31
                  go_wp2_with (first
                    | (go_at_call_of 13 (Value.pointer (some ⟨w.heap.size, 0, none⟩)); refine (state_any HST.out.ha).mono ?_; rintro e wx ⟨rfl, hwx⟩; subst hwx)
                    | (go_at_call_of 13 (Value.pointer (some ⟨q, 0, none⟩)); refine (state_any HST.out.hb).mono ?_; rintro e wx ⟨rfl, hwx⟩; subst hwx))
                  go_roundw
                  case rel =>
                    exact ⟨i + 1, true, true, 3, agA, mkA, _, n0, n1, m17, m18, m31, rfl, rfl, by go_num, HLT.out, HST.out, (.inr rfl), HAG.out, (.inr ⟨rfl, 3, agB, mkB, rfl, .inr ⟨rfl, rfl⟩, HBG.out⟩), (fun _ => ⟨rfl, rfl⟩), HS17.out, HS18.out, HS19.out, HS22.out, HN.out.1, HN.out.2⟩
                  case measure => simp [intOf]; have := HLT.out; omega
              · by_cases hk2 : KK = 2
                · subst hk2
                  clear hU hU2 hU3 hk hk1
                  as_aux_lemma =>
                    have cn := HX22b.out.row.cell 1 _ rfl
                    go_upto_region 38 with (first
                      | (show wpList _ _ _ (Oper.mk (some 127) (.load 29 (.tmp 19)) _ _ _ _ :: _) _ _; refine HX19b.out.row.wpLoad 29 (.tmp 19) rfl rfl rfl _ Tryd.underlying29 rfl i29 ?_)
                      | (go_at_call 15; refine (hear_prove_no HTb.out.hb HX19b.out.frin HP.out rfl rfl (by rintro ⟨h, _⟩; revert h; show ¬ (3 : Int) = 2; decide) (HTb.out.k HK.out) (HTb.out.one H1.out) n1).mono ?_; rintro e w31 ⟨v, rfl, ⟨m31, hv, om⟩, hf, ho⟩; have HT31 := hid (HTb.out.onB ho hf); have HM31 := hid om; have HV31 := hid hv; have HO31 := hid ho; clear hv om hf ho))
                    have HX31_x17 := hid (HX17b.out.only HO31.out (Nat.le_refl _))
                    clear HX17b
                    have HX31_x18 := hid (HX18b.out.only HO31.out (Nat.le_refl _))
                    clear HX18b
                    have HX31_x19 := hid (HX19b.out.only HO31.out (Nat.le_refl _))
                    clear HX19b
                    have HX31_now := hid (HX22b.out.only HO31.out (Nat.le_refl _))
                    clear HX22b
                    have HX31_t24 := hid (HT24.out.only HO31.out (Nat.le_refl _))
                    clear HT24
                    clear HTb HM31 HV31 HO31
                    clear cn
                    go_wp2_with (first
                      | (go_at_call_of 13 (Value.pointer (some ⟨w.heap.size, 0, none⟩)); refine (state_any HT31.out.ha).mono ?_; rintro e wx ⟨rfl, hwx⟩; subst hwx)
                      | (go_at_call_of 13 (Value.pointer (some ⟨q, 0, none⟩)); refine (state_any HT31.out.hb).mono ?_; rintro e wx ⟨rfl, hwx⟩; subst hwx))
                    go_roundw
                    case rel =>
                      exact ⟨i + 1, true, true, 3, agA, mkA, _, n0, n1, m17, m18, m19, rfl, rfl, by go_num, HLT.out, HT31.out, (.inr rfl), HAG.out, (.inr ⟨rfl, 3, agB, mkB, rfl, .inr ⟨rfl, rfl⟩, HBG.out⟩), (fun _ => ⟨rfl, rfl⟩), HX31_x17.out, HX31_x18.out, HX31_x19.out, HX31_now.out, HN.out.1, HN.out.2⟩
                    case measure => simp [intOf]; have := HLT.out; omega
                · by_cases hk3 : KK = 3
                  · subst hk3
                    clear hk hk1 hk2
                    as_aux_lemma =>
                      have cn := HX22b.out.row.cell 0 _ rfl
                      have cf := HX22b.out.row.frozen 0
                      have cm := HT24.out.row.cell 1 _ rfl
                      obtain ⟨NN, hNN⟩ : ∃ NN : Nat, IntKind.u64.wrap ((n0 : Int) + (U : Int)) = (NN : Int) := ⟨(IntKind.u64.wrap ((n0 : Int) + (U : Int))).toNat, by rw [IntKind.wrap_u64]; omega⟩
                      have hN2 : ((n0 : Int) + (U : Int)) % 18446744073709551616 = (NN : Int) := by rw [← IntKind.wrap_u64]; exact hNN
                      have HN64 := hid (show NN < 18446744073709551616 by rw [IntKind.wrap_u64] at hNN; omega)
                      go_upto_region 34 with fail
                      have HS22 : Hid (Rw q g22 [.int .u64 (NN : Int), .int .u64 (n1 : Int)] 40 (wb.setCell ⟨g22, 0, none⟩ (.int .u64 (NN : Int)))) := ⟨HX22b.out.row.set 0 _, HX22b.out.gt⟩
                      have HOS : Hid (Only g22 wb (wb.setCell ⟨g22, 0, none⟩ (.int .u64 (NN : Int)))) := (Only.refl _ _).setCell _ _
                      have HSx17 := hid (HX17b.out.off HOS.out HX22b.out.row (by decide) (by have := HG22.out; omega))
                      have HSx18 := hid (HX18b.out.off HOS.out HX22b.out.row (by decide) (by have := HG22.out; omega))
                      have HSx19 := hid (HX19b.out.off HOS.out HX22b.out.row (by decide) (by have := HG22.out; omega))
                      have HST := hid (HTb.out.off HOS.out HX22b.out.gt)
                      clear cn cf cm hNN hN2 HOS HX17b HX18b HX19b HX22b HT24 HTb
                      generalize wb.setCell ⟨g22, 0, none⟩ (.int .u64 (NN : Int)) = wS at *
                      have cn := HS22.out.row.cell 0 _ rfl
                      go_upto_region 38 with (go_at_call 11; refine (tick_any HST.out.ha Rn rfl HR.out HAG.out NN HN64.out HAB.out.2 (HST.out.k HK.out) (Nat.le_trans H1.out HST.out.ge)).mono ?_; rintro e wT ⟨F', fo, bo, ⟨vT, rfl, fT, hfT, hoT⟩, hcT⟩; have HHU11 := hid (HST.out.onA hoT hfT); have HOT := hid hoT; have HCT := hid hcT; clear fT hfT hoT hcT)
                      have HTx17 := hid (HSx17.out.only HOT.out (by have := HST.out.ne; omega))
                      clear HSx17
                      have HTx18 := hid (HSx18.out.only HOT.out (by have := HST.out.ne; omega))
                      clear HSx18
                      have HTx19 := hid (HSx19.out.only HOT.out (by have := HST.out.ne; omega))
                      clear HSx19
                      have HTnow := hid (HS22.out.only HOT.out (by have := HST.out.ne; omega))
                      clear HS22
                      clear HST HOT cn
                      rcases HCT.out with rfl | ⟨hwt, rfl⟩ | ⟨hwt, hlag, mk, rfl⟩
                      · clear HCT
                        go_wp2_with (first
                          | (go_at_call_of 13 (Value.pointer (some ⟨w.heap.size, 0, none⟩)); refine (state_any HHU11.out.ha).mono ?_; rintro e wx ⟨rfl, hwx⟩; subst hwx)
                          | (go_at_call_of 13 (Value.pointer (some ⟨q, 0, none⟩)); refine (state_any HHU11.out.hb).mono ?_; rintro e wx ⟨rfl, hwx⟩; subst hwx))
                        go_roundw
                        case rel =>
                          exact ⟨i + 1, true, true, 3, agA, mkA, _, NN, n1, m17, m18, m19, rfl, rfl, by go_num, HLT.out, HHU11.out, (.inr rfl), HAG.out, (.inr ⟨rfl, 3, agB, mkB, rfl, .inr ⟨rfl, rfl⟩, HBG.out⟩), (fun _ => ⟨rfl, rfl⟩), HTx17.out, HTx18.out, HTx19.out, HTnow.out, HN64.out, HN.out.2⟩
                        case measure => simp [intOf]; have := HLT.out; omega
                      · exact absurd hwt (by simp [Hf.waits])
                      · exact absurd hwt (by simp [Hf.waits])
                  · by_cases hk4 : KK = 4
                    · subst hk4
                      clear hk hk1 hk2 hk3
                      as_aux_lemma =>
                        have cn := HX22b.out.row.cell 1 _ rfl
                        have cf := HX22b.out.row.frozen 1
                        have cm := HT24.out.row.cell 1 _ rfl
                        obtain ⟨NN, hNN⟩ : ∃ NN : Nat, IntKind.u64.wrap ((n1 : Int) + (U : Int)) = (NN : Int) := ⟨(IntKind.u64.wrap ((n1 : Int) + (U : Int))).toNat, by rw [IntKind.wrap_u64]; omega⟩
                        have hN2 : ((n1 : Int) + (U : Int)) % 18446744073709551616 = (NN : Int) := by rw [← IntKind.wrap_u64]; exact hNN
                        have HN64 := hid (show NN < 18446744073709551616 by rw [IntKind.wrap_u64] at hNN; omega)
                        go_upto_region 37 with fail
                        have HS22 : Hid (Rw q g22 [.int .u64 (n0 : Int), .int .u64 (NN : Int)] 40 (wb.setCell ⟨g22, 1, none⟩ (.int .u64 (NN : Int)))) := ⟨HX22b.out.row.set 1 _, HX22b.out.gt⟩
                        have HOS : Hid (Only g22 wb (wb.setCell ⟨g22, 1, none⟩ (.int .u64 (NN : Int)))) := (Only.refl _ _).setCell _ _
                        have HSx17 := hid (HX17b.out.off HOS.out HX22b.out.row (by decide) (by have := HG22.out; omega))
                        have HSx18 := hid (HX18b.out.off HOS.out HX22b.out.row (by decide) (by have := HG22.out; omega))
                        have HSx19 := hid (HX19b.out.off HOS.out HX22b.out.row (by decide) (by have := HG22.out; omega))
                        have HST := hid (HTb.out.off HOS.out HX22b.out.gt)
                        clear cn cf cm hNN hN2 HOS HX17b HX18b HX19b HX22b HT24 HTb
                        generalize wb.setCell ⟨g22, 1, none⟩ (.int .u64 (NN : Int)) = wS at *
                        have cn := HS22.out.row.cell 1 _ rfl
                        go_upto_region 38 with (go_at_call 11; refine (tick_any HST.out.hb Rn rfl HR.out HBG.out NN HN64.out HAB.out.1 (HST.out.k HK.out) (by have := HST.out.ge; have := HST.out.ne; have := H1.out; omega)).mono ?_; rintro e wT ⟨F', fo, bo, ⟨vT, rfl, fT, hfT, hoT⟩, hcT⟩; have HHU11 := hid (HST.out.onB hoT hfT); have HOT := hid hoT; have HCT := hid hcT; clear fT hfT hoT hcT)
                        have HTx17 := hid (HSx17.out.only HOT.out (Nat.le_refl _))
                        clear HSx17
                        have HTx18 := hid (HSx18.out.only HOT.out (Nat.le_refl _))
                        clear HSx18
                        have HTx19 := hid (HSx19.out.only HOT.out (Nat.le_refl _))
                        clear HSx19
                        have HTnow := hid (HS22.out.only HOT.out (Nat.le_refl _))
                        clear HS22
                        clear HST HOT cn
                        rcases HCT.out with rfl | ⟨hwt, rfl⟩ | ⟨hwt, hlag, mk, rfl⟩
                        · clear HCT
                          go_wp2_with (first
                            | (go_at_call_of 13 (Value.pointer (some ⟨w.heap.size, 0, none⟩)); refine (state_any HHU11.out.ha).mono ?_; rintro e wx ⟨rfl, hwx⟩; subst hwx)
                            | (go_at_call_of 13 (Value.pointer (some ⟨q, 0, none⟩)); refine (state_any HHU11.out.hb).mono ?_; rintro e wx ⟨rfl, hwx⟩; subst hwx))
                          go_roundw
                          case rel =>
                            exact ⟨i + 1, true, true, 3, agA, mkA, _, n0, NN, m17, m18, m19, rfl, rfl, by go_num, HLT.out, HHU11.out, (.inr rfl), HAG.out, (.inr ⟨rfl, 3, agB, mkB, rfl, .inr ⟨rfl, rfl⟩, HBG.out⟩), (fun _ => ⟨rfl, rfl⟩), HTx17.out, HTx18.out, HTx19.out, HTnow.out, HN.out.1, HN64.out⟩
                          case measure => simp [intOf]; have := HLT.out; omega
                        · exact absurd hwt (by simp [Hf.waits])
                        · exact absurd hwt (by simp [Hf.waits])
                    · have b0 := beq_i hk
                      have b1 := beq_i hk1
                      have b2 := beq_i hk2
                      have b3 := beq_i hk3
                      have b4 := beq_i hk4
                      clear hU hU2 hU3 hk hk1 hk2 hk3 hk4
                      as_aux_lemma =>
                        go_wp2_with (first
                          | (go_at_call_of 13 (Value.pointer (some ⟨w.heap.size, 0, none⟩)); refine (state_any HTb.out.ha).mono ?_; rintro e wx ⟨rfl, hwx⟩; subst hwx)
                          | (go_at_call_of 13 (Value.pointer (some ⟨q, 0, none⟩)); refine (state_any HTb.out.hb).mono ?_; rintro e wx ⟨rfl, hwx⟩; subst hwx))
                        go_roundw
                        case rel =>
                          exact ⟨i + 1, true, true, 3, agA, mkA, _, n0, n1, m17, m18, m19, rfl, rfl, by go_num, HLT.out, HTb.out, (.inr rfl), HAG.out, (.inr ⟨rfl, 3, agB, mkB, rfl, .inr ⟨rfl, rfl⟩, HBG.out⟩), (fun _ => ⟨rfl, rfl⟩), HX17b.out, HX18b.out, HX19b.out, HX22b.out, HN.out.1, HN.out.2⟩
                        case measure => simp [intOf]; have := HLT.out; omega
    · have hge : ¬ (i : Int) < (L.length : Int) := by omega
      have HTr := hid hT
      have HX17 := hid hx17
      have HX22 := hid hx22
      clear hT hx17 hx18 hx19 hx22 hn0 hn1 hagA hi hlt hpr
      rcases hB with ⟨rfl, rfl⟩ | ⟨rfl, sB, agB, mkB, rfl, hsB, hagB⟩
      · skip
        have HSM := hid (comes_yes (1 : Int) a b (Rn : Int) sA bk agA mkA 0 false 0#32 0 0 n0 n1 HTr.out m17 HX17.out.own HP.out HAB.out.2 HK.out H1.out hsA (.inl rfl))
        go_wp2_with (first
          | (show wpList _ _ _ (Oper.mk (some 171) (.load 29 (.tmp 17)) _ _ _ _ :: _) _ _; refine HX17.out.row.wpLoad 29 (.tmp 17) rfl rfl rfl _ Tryd.underlying29 rfl i29 ?_)
          | (show wpList _ _ _ (Oper.mk (some 172) (.load 40 (.tmp 22)) _ _ _ _ :: _) _ _; refine HX22.out.row.wpLoad 40 (.tmp 22) rfl rfl rfl _ Tryd.underlying40 rfl i40 ?_)
          | (go_at_call 16; refine Calls.mono HSM.out ?_; rintro e wE ⟨A', B', rfl, tE, hbA, hbB⟩; have HTE := hid tE; have HBA := hid hbA; have HBB2 := hid hbB; clear tE hbA hbB)
          | (go_at_call_of 17 (Value.pointer (some ⟨w.heap.size, 0, none⟩)); refine (backup_any HTE.out.ha).mono ?_; rintro e wx ⟨rfl, hwx⟩; subst hwx; rw [HBA.out])
          | (go_at_call_of 17 (Value.pointer (some ⟨q, 0, none⟩)); refine (backup_any HTE.out.hb).mono ?_; rintro e wx ⟨rfl, hwx⟩; subst hwx; rw [HBB2.out]))
        go_ret
        exact ⟨rfl, HTE.out.bel⟩
      · rcases hsB with rfl | ⟨rfl, rfl⟩
        · skip
          have HSM := hid (comes_yes (1 : Int) a b (Rn : Int) sA bk agA mkA 2 bk (nonceOf a (1 : Int)) agB mkB n0 n1 HTr.out m17 HX17.out.own HP.out HAB.out.2 HK.out H1.out hsA (.inr rfl))
          go_wp2_with (first
            | (show wpList _ _ _ (Oper.mk (some 171) (.load 29 (.tmp 17)) _ _ _ _ :: _) _ _; refine HX17.out.row.wpLoad 29 (.tmp 17) rfl rfl rfl _ Tryd.underlying29 rfl i29 ?_)
            | (show wpList _ _ _ (Oper.mk (some 172) (.load 40 (.tmp 22)) _ _ _ _ :: _) _ _; refine HX22.out.row.wpLoad 40 (.tmp 22) rfl rfl rfl _ Tryd.underlying40 rfl i40 ?_)
            | (go_at_call 16; refine Calls.mono HSM.out ?_; rintro e wE ⟨A', B', rfl, tE, hbA, hbB⟩; have HTE := hid tE; have HBA := hid hbA; have HBB2 := hid hbB; clear tE hbA hbB)
            | (go_at_call_of 17 (Value.pointer (some ⟨w.heap.size, 0, none⟩)); refine (backup_any HTE.out.ha).mono ?_; rintro e wx ⟨rfl, hwx⟩; subst hwx; rw [HBA.out])
            | (go_at_call_of 17 (Value.pointer (some ⟨q, 0, none⟩)); refine (backup_any HTE.out.hb).mono ?_; rintro e wx ⟨rfl, hwx⟩; subst hwx; rw [HBB2.out]))
          go_ret
          exact ⟨rfl, HTE.out.bel⟩
        · skip
          have HSM := hid (comes_no (1 : Int) a b (Rn : Int) bk agA mkA bk (nonceOf a (1 : Int)) agB mkB n0 n1 HTr.out m17 HX17.out.own HP.out HAB.out.2 HK.out H1.out)
          go_wp2_with (first
            | (show wpList _ _ _ (Oper.mk (some 171) (.load 29 (.tmp 17)) _ _ _ _ :: _) _ _; refine HX17.out.row.wpLoad 29 (.tmp 17) rfl rfl rfl _ Tryd.underlying29 rfl i29 ?_)
            | (show wpList _ _ _ (Oper.mk (some 172) (.load 40 (.tmp 22)) _ _ _ _ :: _) _ _; refine HX22.out.row.wpLoad 40 (.tmp 22) rfl rfl rfl _ Tryd.underlying40 rfl i40 ?_)
            | (go_at_call 16; refine Calls.mono HSM.out ?_; rintro e wE ⟨A', B', rfl, tE, hbA, hbB⟩; have HTE := hid tE; have HBA := hid hbA; have HBB2 := hid hbB; clear tE hbA hbB)
            | (go_at_call_of 17 (Value.pointer (some ⟨w.heap.size, 0, none⟩)); refine (backup_any HTE.out.ha).mono ?_; rintro e wx ⟨rfl, hwx⟩; subst hwx; rw [HBA.out])
            | (go_at_call_of 17 (Value.pointer (some ⟨q, 0, none⟩)); refine (backup_any HTE.out.hb).mono ?_; rintro e wx ⟨rfl, hwx⟩; subst hwx; rw [HBB2.out]))
          go_ret
          exact ⟨rfl, HTE.out.bel⟩
end Go.Proofs.YtjpllcliehgnfaaDoor
