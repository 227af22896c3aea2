import Derived.Test.YtjpllcliehgnfaaDoorJ23
namespace Go.Proofs.YtjpllcliehgnfaaDoor
open Go.RowKit Go.Sort
set_option maxRecDepth 100000

theorem ub_ne {m : BitVec 8} (h : ¬ m = 0#8) : (ub m != 0) = true := by
  simp only [bne_iff_ne, ne_eq]
  intro e
  exact h (ub_inj (show ub m = ub 0#8 from e))
theorem bytes_take {w : World} {a : Option Addr} {bs : List (BitVec 8)} (h : BytesAt w a bs) (n : Nat) : BytesAt w a (bs.take n) := by
  intro k hk
  rw [List.length_take] at hk
  obtain ⟨g, o, e, c⟩ := h k (by omega)
  refine ⟨g, o, e, ?_⟩
  rw [List.getElem_take]
  exact c
theorem FrIn.ofD {k p : Int} {tk non : BitVec 32} {d m : Value} {bk : Bool} {f : Fo} {w : World} {a : Option Addr} {n : Nat} (hk : f.k = k) (hp : f.p = p) (ht : f.tok = tk) (hn : f.non = non) (hb : f.bk = bk) (hm : m = .slice a f.bs.length n) (hB : BytesAt w a f.bs) : FrIn w f (frD k p tk non d m bk) := by
  subst hk hp ht hn hb hm
  exact ⟨_, _, _, _, _, _, a, n, rfl, hB⟩
set_option maxHeartbeats 4000000 in
theorem noother_core {w : World} (path0 q0 : Int) (hpq : path0 = 0 ∧ q0 = 1 ∨ ¬ path0 = 0 ∧ q0 = path0) (a b : Nat) (at' : Int) (mask : BitVec 8) (ha : a < 18446744073709551616) (hb : b < 18446744073709551616) (hK : KTab w) (h1 : 1 ≤ w.heap.size) :
    Calls Tryd.prog 6 #[.int .i64 path0, .int .u64 (a : Int), .int .u64 (b : Int), .int .i64 at', .int .u8 (ub mask)] w fun e w' => e = .returned (.bool true) ∧ Below w.heap.size w w' := by
  have HAB := hid (And.intro ha hb)
  have HK := hid hK
  have H1 := hid h1
  clear ha hb hK h1
  have hq0 : ¬ q0 = 0 := by omega
  have HP := hid hq0
  clear hq0
  go_enter Tryd.func6, Tryd.ntmps6
  rcases hpq with ⟨rfl, rfl⟩ | ⟨hp0, rfl⟩
  · by_cases hmk : mask = 0#8
    · subst hmk
      go_upto_region 6 with (first
        | (go_at_call 9; have HFx := HF1; clear HFx; refine (new_side 1 1 (1 : Int) b a 3 rfl).mono ?_; rintro e w2 ⟨rfl, hf2, hb2⟩
           have HT : Hid (Tw w w.heap.size w1.heap.size (⟨0, (1 : Int), a, b, 3, 0, false, 0#32, 0, 0⟩ : Hf) (⟨1, (1 : Int), b, a, 3, 0, false, 0#32, 0, 0⟩ : Hf) w2) := by
             have h3 : Tw w w.heap.size w1.heap.size (mk0 0 (1 : Int) a b 3) (mk0 1 (1 : Int) b a 3) w2 := ⟨HF1.out.kept hb2, hf2, HB1.out.trans (hb2.mono HB1.out.size), Row.lt HF1.out, Nat.le_refl _⟩
             unfold mk0 at h3
             rw [if_neg HP.out] at h3
             exact h3
           clear hf2 hb2)
        | (go_at_call 9; refine (new_side 0 0 (1 : Int) a b 3 rfl).mono ?_; rintro e w1 ⟨rfl, hf1, hb1⟩; have HF1 := hid hf1; have HB1 := hid hb1; clear hf1 hb1))
      clear HF1 HB1
      generalize w1.heap.size = q at *
      go_upto_region 7 with (first
        | (go_at_call 10; refine (start_yes HT.out.ha rfl rfl HAB.out.2 (HT.out.k HK.out) (Nat.le_trans H1.out HT.out.ge) 0 false).mono ?_; rintro e w11 ⟨v, rfl, ⟨m11, hv, om⟩, hf, ho⟩; have HT11 := hid (HT.out.onA ho hf); have HM11 := hid om; have HV11 := hid hv; have HO11 := hid ho; clear hv om hf ho)
        | (show wpList _ _ _ (Oper.mk none (.store 29 (.tmp 13) (.tmp 42)) _ _ _ _ :: _) _ _; refine (Row.new' w11 _ frZ 29 _ rfl rfl).wpStore' 29 (.tmp 13) (.tmp 42) (frC ((⟨0, (1 : Int), a, b, 3, 1, false, 0#32, 0, 0⟩ : Hf).ask).k ((⟨0, (1 : Int), a, b, 3, 1, false, 0#32, 0, 0⟩ : Hf).ask).p ((⟨0, (1 : Int), a, b, 3, 1, false, 0#32, 0, 0⟩ : Hf).ask).tok ((⟨0, (1 : Int), a, b, 3, 1, false, 0#32, 0, 0⟩ : Hf).ask).non m11 ((⟨0, (1 : Int), a, b, 3, 1, false, 0#32, 0, 0⟩ : Hf).ask).bk) rfl rfl rfl HV11.out rfl (frC_m HM11.out) i29 ?_; intro wz11 HZ11))
      have HB11 : Hid (Below w11.heap.size w11 wz11) := by show Below _ _ _; rw [HZ11.out]; exact below_put _ _ _
      have HX11_ask : Hid (Bx q w11.heap.size ((⟨0, (1 : Int), a, b, 3, 1, false, 0#32, 0, 0⟩ : Hf).ask) m11 wz11) := by show Bx _ _ _ _ _; rw [HZ11.out]; exact Bx.new HM11.out HT.out.lt (Nat.lt_of_lt_of_le HT.out.lt HO11.out.size)
      have HU11 := hid (HT11.out.kept HB11.out)
      clear HT HT11 HB11 HZ11 HM11 HV11 HO11
      generalize w11.heap.size = g11 at *
      go_upto_region 8 with (first
        | (show wpList _ _ _ (Oper.mk (some 46) (.load 29 (.tmp 13)) _ _ _ _ :: _) _ _; refine HX11_ask.out.row.wpLoad 29 (.tmp 13) rfl rfl rfl _ Tryd.underlying29 rfl i29 ?_)
        | (go_at_call 15; refine (hear_join HU11.out.hb HX11_ask.out.frin HP.out rfl rfl rfl (.inl rfl) rfl HAB.out.2 (by have := HU11.out.ge; have := HU11.out.ne; have := H1.out; omega) (HU11.out.k HK.out) (HU11.out.one H1.out) 0).mono ?_; rintro e w12 ⟨v, rfl, ⟨m12, hv, om⟩, hf, ho⟩; have HT12 := hid (HU11.out.onB ho hf); have HM12 := hid om; have HV12 := hid hv; have HO12 := hid ho; clear hv om hf ho)
        | (show wpList _ _ _ (Oper.mk none (.store 29 (.tmp 15) (.tmp 48)) _ _ _ _ :: _) _ _; refine (Row.new' w12 _ frZ 29 _ rfl rfl).wpStore' 29 (.tmp 15) (.tmp 48) (frC ((⟨1, (1 : Int), b, a, 3, 2, false, (nonceOf a (1 : Int)), 0, 0⟩ : Hf).answer).k ((⟨1, (1 : Int), b, a, 3, 2, false, (nonceOf a (1 : Int)), 0, 0⟩ : Hf).answer).p ((⟨1, (1 : Int), b, a, 3, 2, false, (nonceOf a (1 : Int)), 0, 0⟩ : Hf).answer).tok ((⟨1, (1 : Int), b, a, 3, 2, false, (nonceOf a (1 : Int)), 0, 0⟩ : Hf).answer).non m12 ((⟨1, (1 : Int), b, a, 3, 2, false, (nonceOf a (1 : Int)), 0, 0⟩ : Hf).answer).bk) rfl rfl rfl HV12.out rfl (frC_m HM12.out) i29 ?_; intro wz12 HZ12))
      have HX12_ask := hid (HX11_ask.out.only HO12.out (Nat.le_refl _))
      clear HX11_ask
      have HB12 : Hid (Below w12.heap.size w12 wz12) := by show Below _ _ _; rw [HZ12.out]; exact below_put _ _ _
      have HX12_ans : Hid (Bx q w12.heap.size ((⟨1, (1 : Int), b, a, 3, 2, false, (nonceOf a (1 : Int)), 0, 0⟩ : Hf).answer) m12 wz12) := by show Bx _ _ _ _ _; rw [HZ12.out]; exact Bx.new HM12.out HU11.out.lt (Nat.lt_of_lt_of_le HU11.out.lt HO12.out.size)
      have HY12_ask := hid (HX12_ask.out.kept HB12.out)
      clear HX12_ask
      have HU12 := hid (HT12.out.kept HB12.out)
      clear HU11 HT12 HB12 HZ12 HM12 HV12 HO12
      generalize w12.heap.size = g12 at *
      obtain ⟨yaa, yan, yae⟩ := HX12_ans.out.slice
      subst yae
      have yal : ((⟨1, (1 : Int), b, a, 3, 2, false, (nonceOf a (1 : Int)), 0, 0⟩ : Hf).answer).bs.length = 8 := by show (List.take _ _).length = _; rw [List.length_take, proofL_len]; decide
      have yac : wz12.cell? ⟨g12, 9, none⟩ = some (.slice yaa 8 yan) := by rw [HX12_ans.out.row.cell 9 _ rfl, yal]
      have yaL := hid yal
      clear yal
      go_upto_region 15 with fail
      clear yac
      go_upto_region 16 with (first
        | (show wpList _ _ _ (Oper.mk (some 88) (.load 29 (.tmp 15)) _ _ _ _ :: _) _ _; refine HX12_ans.out.row.wpLoad 29 (.tmp 15) rfl rfl rfl _ Tryd.underlying29 rfl i29 ?_)
        | (go_at_call 15; refine (hear_joined HU12.out.ha HX12_ans.out.frin HP.out rfl rfl rfl (.inl rfl) rfl (Nat.le_trans H1.out HU12.out.ge) (HU12.out.k HK.out) (HU12.out.one H1.out) 0).mono ?_; rintro e w41 ⟨v, rfl, ⟨m41, hv, om⟩, hf, ho⟩; have HT41 := hid (HU12.out.onA ho hf); have HM41 := hid om; have HV41 := hid hv; have HO41 := hid ho; clear hv om hf ho)
        | (show wpList _ _ _ (Oper.mk none (.store 29 (.tmp 20) (.tmp 90)) _ _ _ _ :: _) _ _; refine (Row.new' w41 _ frZ 29 _ rfl rfl).wpStore' 29 (.tmp 20) (.tmp 90) (frC ((⟨0, (1 : Int), a, b, 3, 3, false, 0#32, 0, 0⟩ : Hf).proves (nonceOf b (1 : Int))).k ((⟨0, (1 : Int), a, b, 3, 3, false, 0#32, 0, 0⟩ : Hf).proves (nonceOf b (1 : Int))).p ((⟨0, (1 : Int), a, b, 3, 3, false, 0#32, 0, 0⟩ : Hf).proves (nonceOf b (1 : Int))).tok ((⟨0, (1 : Int), a, b, 3, 3, false, 0#32, 0, 0⟩ : Hf).proves (nonceOf b (1 : Int))).non m41 ((⟨0, (1 : Int), a, b, 3, 3, false, 0#32, 0, 0⟩ : Hf).proves (nonceOf b (1 : Int))).bk) rfl rfl rfl HV41.out rfl (frC_m HM41.out) i29 ?_; intro wz41 HZ41))
      have HX41_ask := hid (HY12_ask.out.only HO41.out (by have := HU12.out.ne; omega))
      clear HY12_ask
      have HX41_ans := hid (HX12_ans.out.only HO41.out (by have := HU12.out.ne; omega))
      clear HX12_ans
      have HB41 : Hid (Below w41.heap.size w41 wz41) := by show Below _ _ _; rw [HZ41.out]; exact below_put _ _ _
      have HX41_prf : Hid (Bx q w41.heap.size ((⟨0, (1 : Int), a, b, 3, 3, false, 0#32, 0, 0⟩ : Hf).proves (nonceOf b (1 : Int))) m41 wz41) := by show Bx _ _ _ _ _; rw [HZ41.out]; exact Bx.new HM41.out HU12.out.lt (Nat.lt_of_lt_of_le HU12.out.lt HO41.out.size)
      have HY41_ask := hid (HX41_ask.out.kept HB41.out)
      clear HX41_ask
      have HY41_ans := hid (HX41_ans.out.kept HB41.out)
      clear HX41_ans
      have HU41 := hid (HT41.out.kept HB41.out)
      clear HU12 HT41 HB41 HZ41 HM41 HV41 HO41
      generalize w41.heap.size = g41 at *
      obtain ⟨ypa, ypn, ype⟩ := HX41_prf.out.slice
      subst ype
      have ypl : (((⟨0, (1 : Int), a, b, 3, 3, false, 0#32, 0, 0⟩ : Hf).proves (nonceOf b (1 : Int)))).bs.length = 20 := by show (List.take _ _).length = _; rw [List.length_take, proofL_len]; decide
      have ypc : wz41.cell? ⟨g41, 9, none⟩ = some (.slice ypa 20 ypn) := by rw [HX41_prf.out.row.cell 9 _ rfl, ypl]
      have ypL := hid ypl
      clear ypl
      go_upto_region 22 with (first
        | (go_at_call 13; refine (state_any HU41.out.ha).mono ?_; rintro e wx ⟨rfl, hwx⟩; subst hwx))
      clear ypc
      go_upto_region 23 with (first
        | (show wpList _ _ _ (Oper.mk (some 116) (.load 29 (.tmp 20)) _ _ _ _ :: _) _ _; refine HX41_prf.out.row.wpLoad 29 (.tmp 20) rfl rfl rfl _ Tryd.underlying29 rfl i29 ?_)
        | (go_at_call 19; refine (copied_any ((⟨0, (1 : Int), a, b, 3, 3, false, 0#32, 0, 0⟩ : Hf).proves (nonceOf b (1 : Int))) (by obtain ⟨sa, sn, se, sb, _⟩ := HX41_prf.out.own.shape; cases se; exact sb) (by rw [ypL.out]; decide)).mono ?_; rintro e w60 ⟨v, rfl, ⟨d, m, hv, od, om⟩, hb⟩; obtain ⟨ea, ec, rfl⟩ := OwnB.nilShape od; obtain ⟨ga, gc, rfl, _, hgl, _⟩ := OwnB.some om (by rw [ypL.out]; decide); have HV60 := hid hv; have HM60 := hid om; have HB60 := hid hb; clear od om hv hb)
        | (show wpList _ _ _ (Oper.mk none (.store 29 (.tmp 22) (.tmp 117)) _ _ _ _ :: _) _ _; refine (Row.new' w60 _ frZ 29 _ rfl rfl).wpStore' 29 (.tmp 22) (.tmp 117) (frD ((⟨0, (1 : Int), a, b, 3, 3, false, 0#32, 0, 0⟩ : Hf).proves (nonceOf b (1 : Int))).k ((⟨0, (1 : Int), a, b, 3, 3, false, 0#32, 0, 0⟩ : Hf).proves (nonceOf b (1 : Int))).p ((⟨0, (1 : Int), a, b, 3, 3, false, 0#32, 0, 0⟩ : Hf).proves (nonceOf b (1 : Int))).tok ((⟨0, (1 : Int), a, b, 3, 3, false, 0#32, 0, 0⟩ : Hf).proves (nonceOf b (1 : Int))).non (.slice ea 0 ec) (.slice (some ⟨ga, 0, none⟩) ((⟨0, (1 : Int), a, b, 3, 3, false, 0#32, 0, 0⟩ : Hf).proves (nonceOf b (1 : Int))).bs.length gc) ((⟨0, (1 : Int), a, b, 3, 3, false, 0#32, 0, 0⟩ : Hf).proves (nonceOf b (1 : Int))).bk) rfl rfl rfl HV60.out rfl (frD_one _ _ _ _ _ _ _ _ _ _ _) i29 ?_; intro w61 HZ61))
      have HB61 : Hid (Below w60.heap.size w60 w61) := by show Below _ _ _; rw [HZ61.out]; exact below_put _ _ _
      have HR61 : Hid (Row w61 w60.heap.size (frD ((⟨0, (1 : Int), a, b, 3, 3, false, 0#32, 0, 0⟩ : Hf).proves (nonceOf b (1 : Int))).k ((⟨0, (1 : Int), a, b, 3, 3, false, 0#32, 0, 0⟩ : Hf).proves (nonceOf b (1 : Int))).p ((⟨0, (1 : Int), a, b, 3, 3, false, 0#32, 0, 0⟩ : Hf).proves (nonceOf b (1 : Int))).tok ((⟨0, (1 : Int), a, b, 3, 3, false, 0#32, 0, 0⟩ : Hf).proves (nonceOf b (1 : Int))).non (.slice ea 0 ec) (.slice (some ⟨ga, 0, none⟩) ((⟨0, (1 : Int), a, b, 3, 3, false, 0#32, 0, 0⟩ : Hf).proves (nonceOf b (1 : Int))).bs.length gc) ((⟨0, (1 : Int), a, b, 3, 3, false, 0#32, 0, 0⟩ : Hf).proves (nonceOf b (1 : Int))).bk) 29) := by show Row _ _ _ _; rw [HZ61.out]; exact (Row.new' w60 _ frZ 29 _ rfl rfl).row _
      have HWe_ask := hid (HY41_ask.out.kept HB60.out)
      clear HY41_ask
      have HWe_ans := hid (HY41_ans.out.kept HB60.out)
      clear HY41_ans
      have HWe_prf := hid (HX41_prf.out.kept HB60.out)
      clear HX41_prf
      have HNe := hid (HU41.out.kept HB60.out)
      clear HU41
      have HBY : Hid (BytesAt w60 (some ⟨ga, 0, none⟩) ((⟨0, (1 : Int), a, b, 3, 3, false, 0#32, 0, 0⟩ : Hf).proves (nonceOf b (1 : Int))).bs) := by obtain ⟨_, _, e, hb, _⟩ := HM60.out.shape; cases e; exact hb
      have hgc : 20 ≤ gc := by obtain ⟨_, _, e, _, hl, _⟩ := HM60.out.shape; cases e; rw [ypL.out] at hl; exact hl
      have hgi : (20 : Int) ≤ (gc : Int) := by omega
      clear hgc HB60 HV60 HM60 HZ61
      have t9 : w61.cell? ⟨w60.heap.size, 9, none⟩ = some (.slice (some ⟨ga, 0, none⟩) 20 gc) := by rw [HR61.out.cell 9 _ rfl, ypL.out]
      have t9f := HR61.out.frozen 9
      simp only [Act.put]
      go_upto_region 24 with fail
      have HR62 : Hid (Row (w61.setCell ⟨w60.heap.size, 9, none⟩ (.slice (some ⟨ga, 0, none⟩) 19 gc)) w60.heap.size (frD ((⟨0, (1 : Int), a, b, 3, 3, false, 0#32, 0, 0⟩ : Hf).proves (nonceOf b (1 : Int))).k ((⟨0, (1 : Int), a, b, 3, 3, false, 0#32, 0, 0⟩ : Hf).proves (nonceOf b (1 : Int))).p ((⟨0, (1 : Int), a, b, 3, 3, false, 0#32, 0, 0⟩ : Hf).proves (nonceOf b (1 : Int))).tok ((⟨0, (1 : Int), a, b, 3, 3, false, 0#32, 0, 0⟩ : Hf).proves (nonceOf b (1 : Int))).non (.slice ea 0 ec) (.slice (some ⟨ga, 0, none⟩) 19 gc) ((⟨0, (1 : Int), a, b, 3, 3, false, 0#32, 0, 0⟩ : Hf).proves (nonceOf b (1 : Int))).bk) 29) := HR61.out.set 9 _
      have HB62 : Hid (Below w60.heap.size w60 (w61.setCell ⟨w60.heap.size, 9, none⟩ (.slice (some ⟨ga, 0, none⟩) 19 gc))) := HB61.out.setCell (show w60.heap.size ≤ w60.heap.size from Nat.le_refl _) _
      clear t9 t9f hgi HR61 HB61
      generalize w61.setCell ⟨w60.heap.size, 9, none⟩ (.slice (some ⟨ga, 0, none⟩) 19 gc) = w62 at *
      have HWf_ask := hid (HWe_ask.out.kept HB62.out)
      clear HWe_ask
      have HWf_ans := hid (HWe_ans.out.kept HB62.out)
      clear HWe_ans
      have HWf_prf := hid (HWe_prf.out.kept HB62.out)
      clear HWe_prf
      have HNf := hid (HNe.out.kept HB62.out)
      clear HNe
      have HL19 : Hid (({ ((⟨0, (1 : Int), a, b, 3, 3, false, 0#32, 0, 0⟩ : Hf).proves (nonceOf b (1 : Int))) with bs := ((⟨0, (1 : Int), a, b, 3, 3, false, 0#32, 0, 0⟩ : Hf).proves (nonceOf b (1 : Int))).bs.take 19 } : Fo).bs.length = 19) := by show (List.take 19 ((⟨0, (1 : Int), a, b, 3, 3, false, 0#32, 0, 0⟩ : Hf).proves (nonceOf b (1 : Int))).bs).length = 19; rw [List.length_take, ypL.out]; decide
      have HFI3 : Hid (FrIn w62 ({ ((⟨0, (1 : Int), a, b, 3, 3, false, 0#32, 0, 0⟩ : Hf).proves (nonceOf b (1 : Int))) with bs := ((⟨0, (1 : Int), a, b, 3, 3, false, 0#32, 0, 0⟩ : Hf).proves (nonceOf b (1 : Int))).bs.take 19 } : Fo) (frD ((⟨0, (1 : Int), a, b, 3, 3, false, 0#32, 0, 0⟩ : Hf).proves (nonceOf b (1 : Int))).k ((⟨0, (1 : Int), a, b, 3, 3, false, 0#32, 0, 0⟩ : Hf).proves (nonceOf b (1 : Int))).p ((⟨0, (1 : Int), a, b, 3, 3, false, 0#32, 0, 0⟩ : Hf).proves (nonceOf b (1 : Int))).tok ((⟨0, (1 : Int), a, b, 3, 3, false, 0#32, 0, 0⟩ : Hf).proves (nonceOf b (1 : Int))).non (.slice ea 0 ec) (.slice (some ⟨ga, 0, none⟩) 19 gc) ((⟨0, (1 : Int), a, b, 3, 3, false, 0#32, 0, 0⟩ : Hf).proves (nonceOf b (1 : Int))).bk)) := FrIn.ofD (a := some ⟨ga, 0, none⟩) (n := gc) rfl rfl rfl rfl rfl (by rw [HL19.out]) (bytes_take (HBY.out.kept HB62.out) 19)
      have HNE3 : Hid (¬ ({ ((⟨0, (1 : Int), a, b, 3, 3, false, 0#32, 0, 0⟩ : Hf).proves (nonceOf b (1 : Int))) with bs := ((⟨0, (1 : Int), a, b, 3, 3, false, 0#32, 0, 0⟩ : Hf).proves (nonceOf b (1 : Int))).bs.take 19 } : Fo).bs = ((proofL a b (nonceOf a (1 : Int)) (nonceOf b (1 : Int)))).take 20) := fun e => by have h := congrArg List.length e; rw [HL19.out, List.length_take, proofL_len] at h; revert h; decide
      generalize w60.heap.size = g60 at *
      go_upto_region 25 with (first
        | (show wpList _ _ _ (Oper.mk (some 123) (.load 29 (.tmp 22)) _ _ _ _ :: _) _ _; refine HR62.out.wpLoad 29 (.tmp 22) rfl rfl rfl _ Tryd.underlying29 rfl i29 ?_)
        | (go_at_call 15; refine (hear_prove_no HNf.out.hb HFI3.out HP.out rfl rfl (fun h => HNE3.out h.2) (HNf.out.k HK.out) (HNf.out.one H1.out) 0).mono ?_; rintro e w71 ⟨v, rfl, ⟨m71, hv, om⟩, hf, ho⟩; have HT71 := hid (HNf.out.onB ho hf); have HO71 := hid ho; clear hv om hf ho))
      have HX71_ask := hid (HWf_ask.out.only HO71.out (Nat.le_refl _))
      clear HWf_ask
      have HX71_ans := hid (HWf_ans.out.only HO71.out (Nat.le_refl _))
      clear HWf_ans
      have HX71_prf := hid (HWf_prf.out.only HO71.out (Nat.le_refl _))
      clear HWf_prf
      clear HNf HO71 HFI3 HNE3 HR62 HB62 HBY
      go_upto_region 27 with (first
        | (go_at_call 13; refine (state_any HT71.out.hb).mono ?_; rintro e wx ⟨rfl, hwx⟩; subst hwx))
      go_upto_region 28 with (first
        | (show wpList _ _ _ (Oper.mk (some 129) (.load 29 (.tmp 20)) _ _ _ _ :: _) _ _; refine HX71_prf.out.row.wpLoad 29 (.tmp 20) rfl rfl rfl _ Tryd.underlying29 rfl i29 ?_)
        | (go_at_call 15; refine (hear_prove HT71.out.hb HX71_prf.out.frin HP.out rfl rfl rfl rfl (HT71.out.k HK.out) (HT71.out.one H1.out) 0).mono ?_; rintro e w72 ⟨v, rfl, ⟨m72, hv, om⟩, hf, ho⟩; have HT72 := hid (HT71.out.onB ho hf); have HM72 := hid om; have HV72 := hid hv; have HO72 := hid ho; clear hv om hf ho))
      have HX72_ask := hid (HX71_ask.out.only HO72.out (Nat.le_refl _))
      clear HX71_ask
      have HX72_ans := hid (HX71_ans.out.only HO72.out (Nat.le_refl _))
      clear HX71_ans
      have HX72_prf := hid (HX71_prf.out.only HO72.out (Nat.le_refl _))
      clear HX71_prf
      clear HT71 HM72 HV72 HO72
      go_wp2_with (first
        | (go_at_call 13; refine (state_any HT72.out.hb).mono ?_; rintro e wx ⟨rfl, hwx⟩; subst hwx))
      go_ret
      exact ⟨rfl, HT72.out.bel⟩
    · have hmb := ub_ne hmk
      have HMK := hid hmk
      clear hmk
      go_upto_region 6 with (first
        | (go_at_call 9; have HFx := HF1; clear HFx; refine (new_side 1 1 (1 : Int) b a 3 rfl).mono ?_; rintro e w2 ⟨rfl, hf2, hb2⟩
           have HT : Hid (Tw w w.heap.size w1.heap.size (⟨0, (1 : Int), a, b, 3, 0, false, 0#32, 0, 0⟩ : Hf) (⟨1, (1 : Int), b, a, 3, 0, false, 0#32, 0, 0⟩ : Hf) w2) := by
             have h3 : Tw w w.heap.size w1.heap.size (mk0 0 (1 : Int) a b 3) (mk0 1 (1 : Int) b a 3) w2 := ⟨HF1.out.kept hb2, hf2, HB1.out.trans (hb2.mono HB1.out.size), Row.lt HF1.out, Nat.le_refl _⟩
             unfold mk0 at h3
             rw [if_neg HP.out] at h3
             exact h3
           clear hf2 hb2)
        | (go_at_call 9; refine (new_side 0 0 (1 : Int) a b 3 rfl).mono ?_; rintro e w1 ⟨rfl, hf1, hb1⟩; have HF1 := hid hf1; have HB1 := hid hb1; clear hf1 hb1))
      clear HF1 HB1
      generalize w1.heap.size = q at *
      go_upto_region 7 with (first
        | (go_at_call 10; refine (start_yes HT.out.ha rfl rfl HAB.out.2 (HT.out.k HK.out) (Nat.le_trans H1.out HT.out.ge) 0 false).mono ?_; rintro e w11 ⟨v, rfl, ⟨m11, hv, om⟩, hf, ho⟩; have HT11 := hid (HT.out.onA ho hf); have HM11 := hid om; have HV11 := hid hv; have HO11 := hid ho; clear hv om hf ho)
        | (show wpList _ _ _ (Oper.mk none (.store 29 (.tmp 13) (.tmp 42)) _ _ _ _ :: _) _ _; refine (Row.new' w11 _ frZ 29 _ rfl rfl).wpStore' 29 (.tmp 13) (.tmp 42) (frC ((⟨0, (1 : Int), a, b, 3, 1, false, 0#32, 0, 0⟩ : Hf).ask).k ((⟨0, (1 : Int), a, b, 3, 1, false, 0#32, 0, 0⟩ : Hf).ask).p ((⟨0, (1 : Int), a, b, 3, 1, false, 0#32, 0, 0⟩ : Hf).ask).tok ((⟨0, (1 : Int), a, b, 3, 1, false, 0#32, 0, 0⟩ : Hf).ask).non m11 ((⟨0, (1 : Int), a, b, 3, 1, false, 0#32, 0, 0⟩ : Hf).ask).bk) rfl rfl rfl HV11.out rfl (frC_m HM11.out) i29 ?_; intro wz11 HZ11))
      have HB11 : Hid (Below w11.heap.size w11 wz11) := by show Below _ _ _; rw [HZ11.out]; exact below_put _ _ _
      have HX11_ask : Hid (Bx q w11.heap.size ((⟨0, (1 : Int), a, b, 3, 1, false, 0#32, 0, 0⟩ : Hf).ask) m11 wz11) := by show Bx _ _ _ _ _; rw [HZ11.out]; exact Bx.new HM11.out HT.out.lt (Nat.lt_of_lt_of_le HT.out.lt HO11.out.size)
      have HU11 := hid (HT11.out.kept HB11.out)
      clear HT HT11 HB11 HZ11 HM11 HV11 HO11
      generalize w11.heap.size = g11 at *
      go_upto_region 8 with (first
        | (show wpList _ _ _ (Oper.mk (some 46) (.load 29 (.tmp 13)) _ _ _ _ :: _) _ _; refine HX11_ask.out.row.wpLoad 29 (.tmp 13) rfl rfl rfl _ Tryd.underlying29 rfl i29 ?_)
        | (go_at_call 15; refine (hear_join HU11.out.hb HX11_ask.out.frin HP.out rfl rfl rfl (.inl rfl) rfl HAB.out.2 (by have := HU11.out.ge; have := HU11.out.ne; have := H1.out; omega) (HU11.out.k HK.out) (HU11.out.one H1.out) 0).mono ?_; rintro e w12 ⟨v, rfl, ⟨m12, hv, om⟩, hf, ho⟩; have HT12 := hid (HU11.out.onB ho hf); have HM12 := hid om; have HV12 := hid hv; have HO12 := hid ho; clear hv om hf ho)
        | (show wpList _ _ _ (Oper.mk none (.store 29 (.tmp 15) (.tmp 48)) _ _ _ _ :: _) _ _; refine (Row.new' w12 _ frZ 29 _ rfl rfl).wpStore' 29 (.tmp 15) (.tmp 48) (frC ((⟨1, (1 : Int), b, a, 3, 2, false, (nonceOf a (1 : Int)), 0, 0⟩ : Hf).answer).k ((⟨1, (1 : Int), b, a, 3, 2, false, (nonceOf a (1 : Int)), 0, 0⟩ : Hf).answer).p ((⟨1, (1 : Int), b, a, 3, 2, false, (nonceOf a (1 : Int)), 0, 0⟩ : Hf).answer).tok ((⟨1, (1 : Int), b, a, 3, 2, false, (nonceOf a (1 : Int)), 0, 0⟩ : Hf).answer).non m12 ((⟨1, (1 : Int), b, a, 3, 2, false, (nonceOf a (1 : Int)), 0, 0⟩ : Hf).answer).bk) rfl rfl rfl HV12.out rfl (frC_m HM12.out) i29 ?_; intro wz12 HZ12))
      have HX12_ask := hid (HX11_ask.out.only HO12.out (Nat.le_refl _))
      clear HX11_ask
      have HB12 : Hid (Below w12.heap.size w12 wz12) := by show Below _ _ _; rw [HZ12.out]; exact below_put _ _ _
      have HX12_ans : Hid (Bx q w12.heap.size ((⟨1, (1 : Int), b, a, 3, 2, false, (nonceOf a (1 : Int)), 0, 0⟩ : Hf).answer) m12 wz12) := by show Bx _ _ _ _ _; rw [HZ12.out]; exact Bx.new HM12.out HU11.out.lt (Nat.lt_of_lt_of_le HU11.out.lt HO12.out.size)
      have HY12_ask := hid (HX12_ask.out.kept HB12.out)
      clear HX12_ask
      have HU12 := hid (HT12.out.kept HB12.out)
      clear HU11 HT12 HB12 HZ12 HM12 HV12 HO12
      generalize w12.heap.size = g12 at *
      obtain ⟨yaa, yan, yae⟩ := HX12_ans.out.slice
      subst yae
      have yal : ((⟨1, (1 : Int), b, a, 3, 2, false, (nonceOf a (1 : Int)), 0, 0⟩ : Hf).answer).bs.length = 8 := by show (List.take _ _).length = _; rw [List.length_take, proofL_len]; decide
      have yac : wz12.cell? ⟨g12, 9, none⟩ = some (.slice yaa 8 yan) := by rw [HX12_ans.out.row.cell 9 _ rfl, yal]
      have yaL := hid yal
      clear yal
      go_upto_region 11 with fail
      clear yac
      go_upto_region 12 with (first
        | (show wpList _ _ _ (Oper.mk (some 64) (.load 29 (.tmp 15)) _ _ _ _ :: _) _ _; refine HX12_ans.out.row.wpLoad 29 (.tmp 15) rfl rfl rfl _ Tryd.underlying29 rfl i29 ?_)
        | (go_at_call 18; refine (lturned_any ((⟨1, (1 : Int), b, a, 3, 2, false, (nonceOf a (1 : Int)), 0, 0⟩ : Hf).answer) (by obtain ⟨sa, sn, se, sb, _⟩ := HX12_ans.out.own.shape; cases se; exact sb) (by rw [yaL.out]; decide) (by rw [yaL.out]; decide) at' mask).mono ?_; rintro e w30 ⟨v, j, rfl, hj, ⟨d, m, hv, od, om⟩, hb⟩; obtain ⟨da, dc, rfl⟩ := OwnB.nilShape od; obtain ⟨ta, tc, rfl, _, _⟩ := om.shape; have HV30 := hid hv; have HM30 := hid om; have HJ30 := hid hj; have HB30 := hid hb; clear od om hv hj hb)
        | (show wpList _ _ _ (Oper.mk none (.store 29 (.tmp 17) (.tmp 67)) _ _ _ _ :: _) _ _; refine (Row.new' w30 _ frZ 29 _ rfl rfl).wpStore' 29 (.tmp 17) (.tmp 67) (frD (((⟨1, (1 : Int), b, a, 3, 2, false, (nonceOf a (1 : Int)), 0, 0⟩ : Hf).answer).turn j mask).k (((⟨1, (1 : Int), b, a, 3, 2, false, (nonceOf a (1 : Int)), 0, 0⟩ : Hf).answer).turn j mask).p (((⟨1, (1 : Int), b, a, 3, 2, false, (nonceOf a (1 : Int)), 0, 0⟩ : Hf).answer).turn j mask).tok (((⟨1, (1 : Int), b, a, 3, 2, false, (nonceOf a (1 : Int)), 0, 0⟩ : Hf).answer).turn j mask).non (.slice da 0 dc) (.slice ta (((⟨1, (1 : Int), b, a, 3, 2, false, (nonceOf a (1 : Int)), 0, 0⟩ : Hf).answer).turn j mask).bs.length tc) (((⟨1, (1 : Int), b, a, 3, 2, false, (nonceOf a (1 : Int)), 0, 0⟩ : Hf).answer).turn j mask).bk) rfl rfl rfl HV30.out rfl (frD_one _ _ _ _ _ _ _ _ _ _ _) i29 ?_; intro w31 HZ31))
      have HB31 : Hid (Below w30.heap.size w30 w31) := by show Below _ _ _; rw [HZ31.out]; exact below_put _ _ _
      have HR31 : Hid (Row w31 w30.heap.size (frD (((⟨1, (1 : Int), b, a, 3, 2, false, (nonceOf a (1 : Int)), 0, 0⟩ : Hf).answer).turn j mask).k (((⟨1, (1 : Int), b, a, 3, 2, false, (nonceOf a (1 : Int)), 0, 0⟩ : Hf).answer).turn j mask).p (((⟨1, (1 : Int), b, a, 3, 2, false, (nonceOf a (1 : Int)), 0, 0⟩ : Hf).answer).turn j mask).tok (((⟨1, (1 : Int), b, a, 3, 2, false, (nonceOf a (1 : Int)), 0, 0⟩ : Hf).answer).turn j mask).non (.slice da 0 dc) (.slice ta (((⟨1, (1 : Int), b, a, 3, 2, false, (nonceOf a (1 : Int)), 0, 0⟩ : Hf).answer).turn j mask).bs.length tc) (((⟨1, (1 : Int), b, a, 3, 2, false, (nonceOf a (1 : Int)), 0, 0⟩ : Hf).answer).turn j mask).bk) 29) := by show Row _ _ _ _; rw [HZ31.out]; exact (Row.new' w30 _ frZ 29 _ rfl rfl).row _
      have HWa_ask := hid (HY12_ask.out.kept HB30.out)
      clear HY12_ask
      have HWa_ans := hid (HX12_ans.out.kept HB30.out)
      clear HX12_ans
      have HNa := hid (HU12.out.kept HB30.out)
      clear HU12
      have HWb_ask := hid (HWa_ask.out.kept HB31.out)
      clear HWa_ask
      have HWb_ans := hid (HWa_ans.out.kept HB31.out)
      clear HWa_ans
      have HNb := hid (HNa.out.kept HB31.out)
      clear HNa
      have HM31 := hid (HM30.out.kept HB31.out)
      clear HM30 HB30 HB31 HZ31 HV30
      generalize w30.heap.size = g30 at *
      have HFI : Hid (FrIn w31 (((⟨1, (1 : Int), b, a, 3, 2, false, (nonceOf a (1 : Int)), 0, 0⟩ : Hf).answer).turn j mask) (frD (((⟨1, (1 : Int), b, a, 3, 2, false, (nonceOf a (1 : Int)), 0, 0⟩ : Hf).answer).turn j mask).k (((⟨1, (1 : Int), b, a, 3, 2, false, (nonceOf a (1 : Int)), 0, 0⟩ : Hf).answer).turn j mask).p (((⟨1, (1 : Int), b, a, 3, 2, false, (nonceOf a (1 : Int)), 0, 0⟩ : Hf).answer).turn j mask).tok (((⟨1, (1 : Int), b, a, 3, 2, false, (nonceOf a (1 : Int)), 0, 0⟩ : Hf).answer).turn j mask).non (.slice da 0 dc) (.slice ta (((⟨1, (1 : Int), b, a, 3, 2, false, (nonceOf a (1 : Int)), 0, 0⟩ : Hf).answer).turn j mask).bs.length tc) (((⟨1, (1 : Int), b, a, 3, 2, false, (nonceOf a (1 : Int)), 0, 0⟩ : Hf).answer).turn j mask).bk)) := by obtain ⟨sa, sn, se, sb, _⟩ := HM31.out.shape; cases se; exact FrIn.ofD rfl rfl rfl rfl rfl rfl sb
      have HNE : Hid (¬ (((⟨1, (1 : Int), b, a, 3, 2, false, (nonceOf a (1 : Int)), 0, 0⟩ : Hf).answer).turn j mask).bs = ((proofL b a (nonceOf b (1 : Int)) (nonceOf a (1 : Int)))).take 8) := set_ne HJ30.out HMK.out
      go_upto_region 13 with (first
        | (show wpList _ _ _ (Oper.mk (some 70) (.load 29 (.tmp 17)) _ _ _ _ :: _) _ _; refine HR31.out.wpLoad 29 (.tmp 17) rfl rfl rfl _ Tryd.underlying29 rfl i29 ?_)
        | (go_at_call 15; refine (hear_joined_no HNb.out.ha HFI.out HP.out rfl rfl (fun h => HNE.out h.2.2) (HNb.out.k HK.out) (HNb.out.one H1.out) 0).mono ?_; rintro e w13 ⟨v, rfl, ⟨m13, hv, om⟩, hf, ho⟩; obtain ⟨za, zc, rfl⟩ := OwnB.nilShape om; have HT13 := hid (HNb.out.onA ho hf); have HV13 := hid hv; have HO13 := hid ho; clear hv om hf ho)
        | (show wpList _ _ _ (Oper.mk none (.store 29 (.tmp 18) (.tmp 72)) _ _ _ _ :: _) _ _; refine (Row.new' w13 _ frZ 29 _ rfl rfl).wpStore' 29 (.tmp 18) (.tmp 72) (frC 0 0 0#32 0#32 (.slice za 0 zc) false) rfl rfl rfl HV13.out rfl (frC_one _ _ _ _ _ _ _ _) i29 ?_; intro wz13 HZ13))
      have HX13_ask := hid (HWb_ask.out.only HO13.out (by have := HNb.out.ne; omega))
      clear HWb_ask
      have HX13_ans := hid (HWb_ans.out.only HO13.out (by have := HNb.out.ne; omega))
      clear HWb_ans
      clear HNb
      have HBz : Hid (Below w13.heap.size w13 wz13) := by show Below _ _ _; rw [HZ13.out]; exact below_put _ _ _
      have HRz : Hid (Row wz13 w13.heap.size (frC 0 0 0#32 0#32 (.slice za 0 zc) false) 29) := by show Row _ _ _ _; rw [HZ13.out]; exact (Row.new' w13 _ frZ 29 _ rfl rfl).row _
      have HWc_ask := hid (HX13_ask.out.kept HBz.out)
      clear HX13_ask
      have HWc_ans := hid (HX13_ans.out.kept HBz.out)
      clear HX13_ans
      have HNc := hid (HT13.out.kept HBz.out)
      clear HT13
      clear HZ13 HV13 HO13 HBz HR31 HM31 HFI HNE HJ30
      generalize w13.heap.size = gz at *
      have HSM := hid (same_eq (w := wz13) 0 0 0#32 0#32 false (a := za) (b := none) (c := zc) (d := 0) (bytes_nil' _ _) (bytes_nil' _ _))
      go_upto_region 15 with (first
        | (go_at_call 13; refine (state_any HNc.out.ha).mono ?_; rintro e wx ⟨rfl, hwx⟩; subst hwx)
        | (show wpList _ _ _ (Oper.mk (some 81) (.load 29 (.tmp 18)) _ _ _ _ :: _) _ _; refine Row.wpLoadB HRz.out 29 (.tmp 18) (j := 6) (b := false) rfl rfl rfl rfl _ Tryd.underlying29 rfl i29 ?_)
        | (go_at_call 12; refine Calls.mono HSM.out ?_; rintro e w33 ⟨rfl, hb33⟩; have HB33 := hid hb33; clear hb33))
      have HWd_ask := hid (HWc_ask.out.kept HB33.out)
      clear HWc_ask
      have HWd_ans := hid (HWc_ans.out.kept HB33.out)
      clear HWc_ans
      have HNd := hid (HNc.out.kept HB33.out)
      clear HNc
      clear HSM HRz HB33
      go_upto_region 16 with (first
        | (show wpList _ _ _ (Oper.mk (some 88) (.load 29 (.tmp 15)) _ _ _ _ :: _) _ _; refine HWd_ans.out.row.wpLoad 29 (.tmp 15) rfl rfl rfl _ Tryd.underlying29 rfl i29 ?_)
        | (go_at_call 15; refine (hear_joined HNd.out.ha HWd_ans.out.frin HP.out rfl rfl rfl (.inl rfl) rfl (Nat.le_trans H1.out HNd.out.ge) (HNd.out.k HK.out) (HNd.out.one H1.out) 0).mono ?_; rintro e w41 ⟨v, rfl, ⟨m41, hv, om⟩, hf, ho⟩; have HT41 := hid (HNd.out.onA ho hf); have HM41 := hid om; have HV41 := hid hv; have HO41 := hid ho; clear hv om hf ho)
        | (show wpList _ _ _ (Oper.mk none (.store 29 (.tmp 20) (.tmp 90)) _ _ _ _ :: _) _ _; refine (Row.new' w41 _ frZ 29 _ rfl rfl).wpStore' 29 (.tmp 20) (.tmp 90) (frC ((⟨0, (1 : Int), a, b, 3, 3, false, 0#32, 0, 0⟩ : Hf).proves (nonceOf b (1 : Int))).k ((⟨0, (1 : Int), a, b, 3, 3, false, 0#32, 0, 0⟩ : Hf).proves (nonceOf b (1 : Int))).p ((⟨0, (1 : Int), a, b, 3, 3, false, 0#32, 0, 0⟩ : Hf).proves (nonceOf b (1 : Int))).tok ((⟨0, (1 : Int), a, b, 3, 3, false, 0#32, 0, 0⟩ : Hf).proves (nonceOf b (1 : Int))).non m41 ((⟨0, (1 : Int), a, b, 3, 3, false, 0#32, 0, 0⟩ : Hf).proves (nonceOf b (1 : Int))).bk) rfl rfl rfl HV41.out rfl (frC_m HM41.out) i29 ?_; intro wz41 HZ41))
      have HX41_ask := hid (HWd_ask.out.only HO41.out (by have := HNd.out.ne; omega))
      clear HWd_ask
      have HX41_ans := hid (HWd_ans.out.only HO41.out (by have := HNd.out.ne; omega))
      clear HWd_ans
      have HB41 : Hid (Below w41.heap.size w41 wz41) := by show Below _ _ _; rw [HZ41.out]; exact below_put _ _ _
      have HX41_prf : Hid (Bx q w41.heap.size ((⟨0, (1 : Int), a, b, 3, 3, false, 0#32, 0, 0⟩ : Hf).proves (nonceOf b (1 : Int))) m41 wz41) := by show Bx _ _ _ _ _; rw [HZ41.out]; exact Bx.new HM41.out HNd.out.lt (Nat.lt_of_lt_of_le HNd.out.lt HO41.out.size)
      have HY41_ask := hid (HX41_ask.out.kept HB41.out)
      clear HX41_ask
      have HY41_ans := hid (HX41_ans.out.kept HB41.out)
      clear HX41_ans
      have HU41 := hid (HT41.out.kept HB41.out)
      clear HNd HT41 HB41 HZ41 HM41 HV41 HO41
      generalize w41.heap.size = g41 at *
      obtain ⟨ypa, ypn, ype⟩ := HX41_prf.out.slice
      subst ype
      have ypl : (((⟨0, (1 : Int), a, b, 3, 3, false, 0#32, 0, 0⟩ : Hf).proves (nonceOf b (1 : Int)))).bs.length = 20 := by show (List.take _ _).length = _; rw [List.length_take, proofL_len]; decide
      have ypc : wz41.cell? ⟨g41, 9, none⟩ = some (.slice ypa 20 ypn) := by rw [HX41_prf.out.row.cell 9 _ rfl, ypl]
      have ypL := hid ypl
      clear ypl
      go_upto_region 19 with (first
        | (go_at_call 13; refine (state_any HU41.out.ha).mono ?_; rintro e wx ⟨rfl, hwx⟩; subst hwx))
      clear ypc
      go_upto_region 20 with (first
        | (show wpList _ _ _ (Oper.mk (some 108) (.load 29 (.tmp 20)) _ _ _ _ :: _) _ _; refine HX41_prf.out.row.wpLoad 29 (.tmp 20) rfl rfl rfl _ Tryd.underlying29 rfl i29 ?_)
        | (go_at_call 18; refine (lturned_any ((⟨0, (1 : Int), a, b, 3, 3, false, 0#32, 0, 0⟩ : Hf).proves (nonceOf b (1 : Int))) (by obtain ⟨sa, sn, se, sb, _⟩ := HX41_prf.out.own.shape; cases se; exact sb) (by rw [ypL.out]; decide) (by rw [ypL.out]; decide) at' mask).mono ?_; rintro e w50 ⟨v, j2, rfl, hj, ⟨d, m, hv, od, om⟩, hb⟩; have HV50 := hid hv; have HM50 := hid om; have HJ50 := hid hj; have HB50 := hid hb; clear od om hv hj hb)
        | (go_at_call 15
           have HT50 := hid (HU41.out.kept HB50.out)
           rw [HV50.out]
           have HFI2 : Hid (FrIn w50 (((⟨0, (1 : Int), a, b, 3, 3, false, 0#32, 0, 0⟩ : Hf).proves (nonceOf b (1 : Int))).turn j2 mask) (frD (((⟨0, (1 : Int), a, b, 3, 3, false, 0#32, 0, 0⟩ : Hf).proves (nonceOf b (1 : Int))).turn j2 mask).k (((⟨0, (1 : Int), a, b, 3, 3, false, 0#32, 0, 0⟩ : Hf).proves (nonceOf b (1 : Int))).turn j2 mask).p (((⟨0, (1 : Int), a, b, 3, 3, false, 0#32, 0, 0⟩ : Hf).proves (nonceOf b (1 : Int))).turn j2 mask).tok (((⟨0, (1 : Int), a, b, 3, 3, false, 0#32, 0, 0⟩ : Hf).proves (nonceOf b (1 : Int))).turn j2 mask).non d m (((⟨0, (1 : Int), a, b, 3, 3, false, 0#32, 0, 0⟩ : Hf).proves (nonceOf b (1 : Int))).turn j2 mask).bk)) := by obtain ⟨sa, sn, se, sb, _⟩ := HM50.out.shape; exact FrIn.ofD rfl rfl rfl rfl rfl se sb
           have HNE2 : Hid (¬ (((⟨0, (1 : Int), a, b, 3, 3, false, 0#32, 0, 0⟩ : Hf).proves (nonceOf b (1 : Int))).turn j2 mask).bs = ((proofL a b (nonceOf a (1 : Int)) (nonceOf b (1 : Int)))).take 20) := set_ne HJ50.out HMK.out
           refine (hear_prove_no HT50.out.hb HFI2.out HP.out rfl rfl (fun h => HNE2.out h.2) (HT50.out.k HK.out) (HT50.out.one H1.out) 0).mono ?_; rintro e w51 ⟨v, rfl, ⟨m51, hv, om⟩, hf, ho⟩; have HT51 := hid (HT50.out.onB ho hf); have HO51 := hid ho; clear hv om hf ho))
      have HX51_ask := hid ((HY41_ask.out.kept HB50.out).only HO51.out (Nat.le_refl _))
      clear HY41_ask
      have HX51_ans := hid ((HY41_ans.out.kept HB50.out).only HO51.out (Nat.le_refl _))
      clear HY41_ans
      have HX51_prf := hid ((HX41_prf.out.kept HB50.out).only HO51.out (Nat.le_refl _))
      clear HX41_prf
      clear HU41 HT50 HB50 HM50 HJ50 HV50 HO51 HFI2 HNE2
      go_upto_region 22 with (first
        | (go_at_call 13; refine (state_any HT51.out.hb).mono ?_; rintro e wx ⟨rfl, hwx⟩; subst hwx))
      go_upto_region 23 with (first
        | (show wpList _ _ _ (Oper.mk (some 116) (.load 29 (.tmp 20)) _ _ _ _ :: _) _ _; refine HX51_prf.out.row.wpLoad 29 (.tmp 20) rfl rfl rfl _ Tryd.underlying29 rfl i29 ?_)
        | (go_at_call 19; refine (copied_any ((⟨0, (1 : Int), a, b, 3, 3, false, 0#32, 0, 0⟩ : Hf).proves (nonceOf b (1 : Int))) (by obtain ⟨sa, sn, se, sb, _⟩ := HX51_prf.out.own.shape; cases se; exact sb) (by rw [ypL.out]; decide)).mono ?_; rintro e w60 ⟨v, rfl, ⟨d, m, hv, od, om⟩, hb⟩; obtain ⟨ea, ec, rfl⟩ := OwnB.nilShape od; obtain ⟨ga, gc, rfl, _, hgl, _⟩ := OwnB.some om (by rw [ypL.out]; decide); have HV60 := hid hv; have HM60 := hid om; have HB60 := hid hb; clear od om hv hb)
        | (show wpList _ _ _ (Oper.mk none (.store 29 (.tmp 22) (.tmp 117)) _ _ _ _ :: _) _ _; refine (Row.new' w60 _ frZ 29 _ rfl rfl).wpStore' 29 (.tmp 22) (.tmp 117) (frD ((⟨0, (1 : Int), a, b, 3, 3, false, 0#32, 0, 0⟩ : Hf).proves (nonceOf b (1 : Int))).k ((⟨0, (1 : Int), a, b, 3, 3, false, 0#32, 0, 0⟩ : Hf).proves (nonceOf b (1 : Int))).p ((⟨0, (1 : Int), a, b, 3, 3, false, 0#32, 0, 0⟩ : Hf).proves (nonceOf b (1 : Int))).tok ((⟨0, (1 : Int), a, b, 3, 3, false, 0#32, 0, 0⟩ : Hf).proves (nonceOf b (1 : Int))).non (.slice ea 0 ec) (.slice (some ⟨ga, 0, none⟩) ((⟨0, (1 : Int), a, b, 3, 3, false, 0#32, 0, 0⟩ : Hf).proves (nonceOf b (1 : Int))).bs.length gc) ((⟨0, (1 : Int), a, b, 3, 3, false, 0#32, 0, 0⟩ : Hf).proves (nonceOf b (1 : Int))).bk) rfl rfl rfl HV60.out rfl (frD_one _ _ _ _ _ _ _ _ _ _ _) i29 ?_; intro w61 HZ61))
      have HB61 : Hid (Below w60.heap.size w60 w61) := by show Below _ _ _; rw [HZ61.out]; exact below_put _ _ _
      have HR61 : Hid (Row w61 w60.heap.size (frD ((⟨0, (1 : Int), a, b, 3, 3, false, 0#32, 0, 0⟩ : Hf).proves (nonceOf b (1 : Int))).k ((⟨0, (1 : Int), a, b, 3, 3, false, 0#32, 0, 0⟩ : Hf).proves (nonceOf b (1 : Int))).p ((⟨0, (1 : Int), a, b, 3, 3, false, 0#32, 0, 0⟩ : Hf).proves (nonceOf b (1 : Int))).tok ((⟨0, (1 : Int), a, b, 3, 3, false, 0#32, 0, 0⟩ : Hf).proves (nonceOf b (1 : Int))).non (.slice ea 0 ec) (.slice (some ⟨ga, 0, none⟩) ((⟨0, (1 : Int), a, b, 3, 3, false, 0#32, 0, 0⟩ : Hf).proves (nonceOf b (1 : Int))).bs.length gc) ((⟨0, (1 : Int), a, b, 3, 3, false, 0#32, 0, 0⟩ : Hf).proves (nonceOf b (1 : Int))).bk) 29) := by show Row _ _ _ _; rw [HZ61.out]; exact (Row.new' w60 _ frZ 29 _ rfl rfl).row _
      have HWe_ask := hid (HX51_ask.out.kept HB60.out)
      clear HX51_ask
      have HWe_ans := hid (HX51_ans.out.kept HB60.out)
      clear HX51_ans
      have HWe_prf := hid (HX51_prf.out.kept HB60.out)
      clear HX51_prf
      have HNe := hid (HT51.out.kept HB60.out)
      clear HT51
      have HBY : Hid (BytesAt w60 (some ⟨ga, 0, none⟩) ((⟨0, (1 : Int), a, b, 3, 3, false, 0#32, 0, 0⟩ : Hf).proves (nonceOf b (1 : Int))).bs) := by obtain ⟨_, _, e, hb, _⟩ := HM60.out.shape; cases e; exact hb
      have hgc : 20 ≤ gc := by obtain ⟨_, _, e, _, hl, _⟩ := HM60.out.shape; cases e; rw [ypL.out] at hl; exact hl
      have hgi : (20 : Int) ≤ (gc : Int) := by omega
      clear hgc HB60 HV60 HM60 HZ61
      have t9 : w61.cell? ⟨w60.heap.size, 9, none⟩ = some (.slice (some ⟨ga, 0, none⟩) 20 gc) := by rw [HR61.out.cell 9 _ rfl, ypL.out]
      have t9f := HR61.out.frozen 9
      simp only [Act.put]
      go_upto_region 24 with fail
      have HR62 : Hid (Row (w61.setCell ⟨w60.heap.size, 9, none⟩ (.slice (some ⟨ga, 0, none⟩) 19 gc)) w60.heap.size (frD ((⟨0, (1 : Int), a, b, 3, 3, false, 0#32, 0, 0⟩ : Hf).proves (nonceOf b (1 : Int))).k ((⟨0, (1 : Int), a, b, 3, 3, false, 0#32, 0, 0⟩ : Hf).proves (nonceOf b (1 : Int))).p ((⟨0, (1 : Int), a, b, 3, 3, false, 0#32, 0, 0⟩ : Hf).proves (nonceOf b (1 : Int))).tok ((⟨0, (1 : Int), a, b, 3, 3, false, 0#32, 0, 0⟩ : Hf).proves (nonceOf b (1 : Int))).non (.slice ea 0 ec) (.slice (some ⟨ga, 0, none⟩) 19 gc) ((⟨0, (1 : Int), a, b, 3, 3, false, 0#32, 0, 0⟩ : Hf).proves (nonceOf b (1 : Int))).bk) 29) := HR61.out.set 9 _
      have HB62 : Hid (Below w60.heap.size w60 (w61.setCell ⟨w60.heap.size, 9, none⟩ (.slice (some ⟨ga, 0, none⟩) 19 gc))) := HB61.out.setCell (show w60.heap.size ≤ w60.heap.size from Nat.le_refl _) _
      clear t9 t9f hgi HR61 HB61
      generalize w61.setCell ⟨w60.heap.size, 9, none⟩ (.slice (some ⟨ga, 0, none⟩) 19 gc) = w62 at *
      have HWf_ask := hid (HWe_ask.out.kept HB62.out)
      clear HWe_ask
      have HWf_ans := hid (HWe_ans.out.kept HB62.out)
      clear HWe_ans
      have HWf_prf := hid (HWe_prf.out.kept HB62.out)
      clear HWe_prf
      have HNf := hid (HNe.out.kept HB62.out)
      clear HNe
      have HL19 : Hid (({ ((⟨0, (1 : Int), a, b, 3, 3, false, 0#32, 0, 0⟩ : Hf).proves (nonceOf b (1 : Int))) with bs := ((⟨0, (1 : Int), a, b, 3, 3, false, 0#32, 0, 0⟩ : Hf).proves (nonceOf b (1 : Int))).bs.take 19 } : Fo).bs.length = 19) := by show (List.take 19 ((⟨0, (1 : Int), a, b, 3, 3, false, 0#32, 0, 0⟩ : Hf).proves (nonceOf b (1 : Int))).bs).length = 19; rw [List.length_take, ypL.out]; decide
      have HFI3 : Hid (FrIn w62 ({ ((⟨0, (1 : Int), a, b, 3, 3, false, 0#32, 0, 0⟩ : Hf).proves (nonceOf b (1 : Int))) with bs := ((⟨0, (1 : Int), a, b, 3, 3, false, 0#32, 0, 0⟩ : Hf).proves (nonceOf b (1 : Int))).bs.take 19 } : Fo) (frD ((⟨0, (1 : Int), a, b, 3, 3, false, 0#32, 0, 0⟩ : Hf).proves (nonceOf b (1 : Int))).k ((⟨0, (1 : Int), a, b, 3, 3, false, 0#32, 0, 0⟩ : Hf).proves (nonceOf b (1 : Int))).p ((⟨0, (1 : Int), a, b, 3, 3, false, 0#32, 0, 0⟩ : Hf).proves (nonceOf b (1 : Int))).tok ((⟨0, (1 : Int), a, b, 3, 3, false, 0#32, 0, 0⟩ : Hf).proves (nonceOf b (1 : Int))).non (.slice ea 0 ec) (.slice (some ⟨ga, 0, none⟩) 19 gc) ((⟨0, (1 : Int), a, b, 3, 3, false, 0#32, 0, 0⟩ : Hf).proves (nonceOf b (1 : Int))).bk)) := FrIn.ofD (a := some ⟨ga, 0, none⟩) (n := gc) rfl rfl rfl rfl rfl (by rw [HL19.out]) (bytes_take (HBY.out.kept HB62.out) 19)
      have HNE3 : Hid (¬ ({ ((⟨0, (1 : Int), a, b, 3, 3, false, 0#32, 0, 0⟩ : Hf).proves (nonceOf b (1 : Int))) with bs := ((⟨0, (1 : Int), a, b, 3, 3, false, 0#32, 0, 0⟩ : Hf).proves (nonceOf b (1 : Int))).bs.take 19 } : Fo).bs = ((proofL a b (nonceOf a (1 : Int)) (nonceOf b (1 : Int)))).take 20) := fun e => by have h := congrArg List.length e; rw [HL19.out, List.length_take, proofL_len] at h; revert h; decide
      generalize w60.heap.size = g60 at *
      go_upto_region 25 with (first
        | (show wpList _ _ _ (Oper.mk (some 123) (.load 29 (.tmp 22)) _ _ _ _ :: _) _ _; refine HR62.out.wpLoad 29 (.tmp 22) rfl rfl rfl _ Tryd.underlying29 rfl i29 ?_)
        | (go_at_call 15; refine (hear_prove_no HNf.out.hb HFI3.out HP.out rfl rfl (fun h => HNE3.out h.2) (HNf.out.k HK.out) (HNf.out.one H1.out) 0).mono ?_; rintro e w71 ⟨v, rfl, ⟨m71, hv, om⟩, hf, ho⟩; have HT71 := hid (HNf.out.onB ho hf); have HO71 := hid ho; clear hv om hf ho))
      have HX71_ask := hid (HWf_ask.out.only HO71.out (Nat.le_refl _))
      clear HWf_ask
      have HX71_ans := hid (HWf_ans.out.only HO71.out (Nat.le_refl _))
      clear HWf_ans
      have HX71_prf := hid (HWf_prf.out.only HO71.out (Nat.le_refl _))
      clear HWf_prf
      clear HNf HO71 HFI3 HNE3 HR62 HB62 HBY
      go_upto_region 27 with (first
        | (go_at_call 13; refine (state_any HT71.out.hb).mono ?_; rintro e wx ⟨rfl, hwx⟩; subst hwx))
      go_upto_region 28 with (first
        | (show wpList _ _ _ (Oper.mk (some 129) (.load 29 (.tmp 20)) _ _ _ _ :: _) _ _; refine HX71_prf.out.row.wpLoad 29 (.tmp 20) rfl rfl rfl _ Tryd.underlying29 rfl i29 ?_)
        | (go_at_call 15; refine (hear_prove HT71.out.hb HX71_prf.out.frin HP.out rfl rfl rfl rfl (HT71.out.k HK.out) (HT71.out.one H1.out) 0).mono ?_; rintro e w72 ⟨v, rfl, ⟨m72, hv, om⟩, hf, ho⟩; have HT72 := hid (HT71.out.onB ho hf); have HM72 := hid om; have HV72 := hid hv; have HO72 := hid ho; clear hv om hf ho))
      have HX72_ask := hid (HX71_ask.out.only HO72.out (Nat.le_refl _))
      clear HX71_ask
      have HX72_ans := hid (HX71_ans.out.only HO72.out (Nat.le_refl _))
      clear HX71_ans
      have HX72_prf := hid (HX71_prf.out.only HO72.out (Nat.le_refl _))
      clear HX71_prf
      clear HT71 HM72 HV72 HO72
      go_wp2_with (first
        | (go_at_call 13; refine (state_any HT72.out.hb).mono ?_; rintro e wx ⟨rfl, hwx⟩; subst hwx))
      go_ret
      exact ⟨rfl, HT72.out.bel⟩
  · by_cases hmk : mask = 0#8
    · subst hmk
      go_upto_region 6 with (first
        | (go_at_call 9; have HFx := HF1; clear HFx; refine (new_side 1 1 q0 b a 3 rfl).mono ?_; rintro e w2 ⟨rfl, hf2, hb2⟩
           have HT : Hid (Tw w w.heap.size w1.heap.size (⟨0, q0, a, b, 3, 0, false, 0#32, 0, 0⟩ : Hf) (⟨1, q0, b, a, 3, 0, false, 0#32, 0, 0⟩ : Hf) w2) := by
             have h3 : Tw w w.heap.size w1.heap.size (mk0 0 q0 a b 3) (mk0 1 q0 b a 3) w2 := ⟨HF1.out.kept hb2, hf2, HB1.out.trans (hb2.mono HB1.out.size), Row.lt HF1.out, Nat.le_refl _⟩
             unfold mk0 at h3
             rw [if_neg HP.out] at h3
             exact h3
           clear hf2 hb2)
        | (go_at_call 9; refine (new_side 0 0 q0 a b 3 rfl).mono ?_; rintro e w1 ⟨rfl, hf1, hb1⟩; have HF1 := hid hf1; have HB1 := hid hb1; clear hf1 hb1))
      clear HF1 HB1
      generalize w1.heap.size = q at *
      go_upto_region 7 with (first
        | (go_at_call 10; refine (start_yes HT.out.ha rfl rfl HAB.out.2 (HT.out.k HK.out) (Nat.le_trans H1.out HT.out.ge) 0 false).mono ?_; rintro e w11 ⟨v, rfl, ⟨m11, hv, om⟩, hf, ho⟩; have HT11 := hid (HT.out.onA ho hf); have HM11 := hid om; have HV11 := hid hv; have HO11 := hid ho; clear hv om hf ho)
        | (show wpList _ _ _ (Oper.mk none (.store 29 (.tmp 13) (.tmp 42)) _ _ _ _ :: _) _ _; refine (Row.new' w11 _ frZ 29 _ rfl rfl).wpStore' 29 (.tmp 13) (.tmp 42) (frC ((⟨0, q0, a, b, 3, 1, false, 0#32, 0, 0⟩ : Hf).ask).k ((⟨0, q0, a, b, 3, 1, false, 0#32, 0, 0⟩ : Hf).ask).p ((⟨0, q0, a, b, 3, 1, false, 0#32, 0, 0⟩ : Hf).ask).tok ((⟨0, q0, a, b, 3, 1, false, 0#32, 0, 0⟩ : Hf).ask).non m11 ((⟨0, q0, a, b, 3, 1, false, 0#32, 0, 0⟩ : Hf).ask).bk) rfl rfl rfl HV11.out rfl (frC_m HM11.out) i29 ?_; intro wz11 HZ11))
      have HB11 : Hid (Below w11.heap.size w11 wz11) := by show Below _ _ _; rw [HZ11.out]; exact below_put _ _ _
      have HX11_ask : Hid (Bx q w11.heap.size ((⟨0, q0, a, b, 3, 1, false, 0#32, 0, 0⟩ : Hf).ask) m11 wz11) := by show Bx _ _ _ _ _; rw [HZ11.out]; exact Bx.new HM11.out HT.out.lt (Nat.lt_of_lt_of_le HT.out.lt HO11.out.size)
      have HU11 := hid (HT11.out.kept HB11.out)
      clear HT HT11 HB11 HZ11 HM11 HV11 HO11
      generalize w11.heap.size = g11 at *
      go_upto_region 8 with (first
        | (show wpList _ _ _ (Oper.mk (some 46) (.load 29 (.tmp 13)) _ _ _ _ :: _) _ _; refine HX11_ask.out.row.wpLoad 29 (.tmp 13) rfl rfl rfl _ Tryd.underlying29 rfl i29 ?_)
        | (go_at_call 15; refine (hear_join HU11.out.hb HX11_ask.out.frin HP.out rfl rfl rfl (.inl rfl) rfl HAB.out.2 (by have := HU11.out.ge; have := HU11.out.ne; have := H1.out; omega) (HU11.out.k HK.out) (HU11.out.one H1.out) 0).mono ?_; rintro e w12 ⟨v, rfl, ⟨m12, hv, om⟩, hf, ho⟩; have HT12 := hid (HU11.out.onB ho hf); have HM12 := hid om; have HV12 := hid hv; have HO12 := hid ho; clear hv om hf ho)
        | (show wpList _ _ _ (Oper.mk none (.store 29 (.tmp 15) (.tmp 48)) _ _ _ _ :: _) _ _; refine (Row.new' w12 _ frZ 29 _ rfl rfl).wpStore' 29 (.tmp 15) (.tmp 48) (frC ((⟨1, q0, b, a, 3, 2, false, (nonceOf a q0), 0, 0⟩ : Hf).answer).k ((⟨1, q0, b, a, 3, 2, false, (nonceOf a q0), 0, 0⟩ : Hf).answer).p ((⟨1, q0, b, a, 3, 2, false, (nonceOf a q0), 0, 0⟩ : Hf).answer).tok ((⟨1, q0, b, a, 3, 2, false, (nonceOf a q0), 0, 0⟩ : Hf).answer).non m12 ((⟨1, q0, b, a, 3, 2, false, (nonceOf a q0), 0, 0⟩ : Hf).answer).bk) rfl rfl rfl HV12.out rfl (frC_m HM12.out) i29 ?_; intro wz12 HZ12))
      have HX12_ask := hid (HX11_ask.out.only HO12.out (Nat.le_refl _))
      clear HX11_ask
      have HB12 : Hid (Below w12.heap.size w12 wz12) := by show Below _ _ _; rw [HZ12.out]; exact below_put _ _ _
      have HX12_ans : Hid (Bx q w12.heap.size ((⟨1, q0, b, a, 3, 2, false, (nonceOf a q0), 0, 0⟩ : Hf).answer) m12 wz12) := by show Bx _ _ _ _ _; rw [HZ12.out]; exact Bx.new HM12.out HU11.out.lt (Nat.lt_of_lt_of_le HU11.out.lt HO12.out.size)
      have HY12_ask := hid (HX12_ask.out.kept HB12.out)
      clear HX12_ask
      have HU12 := hid (HT12.out.kept HB12.out)
      clear HU11 HT12 HB12 HZ12 HM12 HV12 HO12
      generalize w12.heap.size = g12 at *
      obtain ⟨yaa, yan, yae⟩ := HX12_ans.out.slice
      subst yae
      have yal : ((⟨1, q0, b, a, 3, 2, false, (nonceOf a q0), 0, 0⟩ : Hf).answer).bs.length = 8 := by show (List.take _ _).length = _; rw [List.length_take, proofL_len]; decide
      have yac : wz12.cell? ⟨g12, 9, none⟩ = some (.slice yaa 8 yan) := by rw [HX12_ans.out.row.cell 9 _ rfl, yal]
      have yaL := hid yal
      clear yal
      go_upto_region 15 with fail
      clear yac
      go_upto_region 16 with (first
        | (show wpList _ _ _ (Oper.mk (some 88) (.load 29 (.tmp 15)) _ _ _ _ :: _) _ _; refine HX12_ans.out.row.wpLoad 29 (.tmp 15) rfl rfl rfl _ Tryd.underlying29 rfl i29 ?_)
        | (go_at_call 15; refine (hear_joined HU12.out.ha HX12_ans.out.frin HP.out rfl rfl rfl (.inl rfl) rfl (Nat.le_trans H1.out HU12.out.ge) (HU12.out.k HK.out) (HU12.out.one H1.out) 0).mono ?_; rintro e w41 ⟨v, rfl, ⟨m41, hv, om⟩, hf, ho⟩; have HT41 := hid (HU12.out.onA ho hf); have HM41 := hid om; have HV41 := hid hv; have HO41 := hid ho; clear hv om hf ho)
        | (show wpList _ _ _ (Oper.mk none (.store 29 (.tmp 20) (.tmp 90)) _ _ _ _ :: _) _ _; refine (Row.new' w41 _ frZ 29 _ rfl rfl).wpStore' 29 (.tmp 20) (.tmp 90) (frC ((⟨0, q0, a, b, 3, 3, false, 0#32, 0, 0⟩ : Hf).proves (nonceOf b q0)).k ((⟨0, q0, a, b, 3, 3, false, 0#32, 0, 0⟩ : Hf).proves (nonceOf b q0)).p ((⟨0, q0, a, b, 3, 3, false, 0#32, 0, 0⟩ : Hf).proves (nonceOf b q0)).tok ((⟨0, q0, a, b, 3, 3, false, 0#32, 0, 0⟩ : Hf).proves (nonceOf b q0)).non m41 ((⟨0, q0, a, b, 3, 3, false, 0#32, 0, 0⟩ : Hf).proves (nonceOf b q0)).bk) rfl rfl rfl HV41.out rfl (frC_m HM41.out) i29 ?_; intro wz41 HZ41))
      have HX41_ask := hid (HY12_ask.out.only HO41.out (by have := HU12.out.ne; omega))
      clear HY12_ask
      have HX41_ans := hid (HX12_ans.out.only HO41.out (by have := HU12.out.ne; omega))
      clear HX12_ans
      have HB41 : Hid (Below w41.heap.size w41 wz41) := by show Below _ _ _; rw [HZ41.out]; exact below_put _ _ _
      have HX41_prf : Hid (Bx q w41.heap.size ((⟨0, q0, a, b, 3, 3, false, 0#32, 0, 0⟩ : Hf).proves (nonceOf b q0)) m41 wz41) := by show Bx _ _ _ _ _; rw [HZ41.out]; exact Bx.new HM41.out HU12.out.lt (Nat.lt_of_lt_of_le HU12.out.lt HO41.out.size)
      have HY41_ask := hid (HX41_ask.out.kept HB41.out)
      clear HX41_ask
      have HY41_ans := hid (HX41_ans.out.kept HB41.out)
      clear HX41_ans
      have HU41 := hid (HT41.out.kept HB41.out)
      clear HU12 HT41 HB41 HZ41 HM41 HV41 HO41
      generalize w41.heap.size = g41 at *
      obtain ⟨ypa, ypn, ype⟩ := HX41_prf.out.slice
      subst ype
      have ypl : (((⟨0, q0, a, b, 3, 3, false, 0#32, 0, 0⟩ : Hf).proves (nonceOf b q0))).bs.length = 20 := by show (List.take _ _).length = _; rw [List.length_take, proofL_len]; decide
      have ypc : wz41.cell? ⟨g41, 9, none⟩ = some (.slice ypa 20 ypn) := by rw [HX41_prf.out.row.cell 9 _ rfl, ypl]
      have ypL := hid ypl
      clear ypl
      go_upto_region 22 with (first
        | (go_at_call 13; refine (state_any HU41.out.ha).mono ?_; rintro e wx ⟨rfl, hwx⟩; subst hwx))
      clear ypc
      go_upto_region 23 with (first
        | (show wpList _ _ _ (Oper.mk (some 116) (.load 29 (.tmp 20)) _ _ _ _ :: _) _ _; refine HX41_prf.out.row.wpLoad 29 (.tmp 20) rfl rfl rfl _ Tryd.underlying29 rfl i29 ?_)
        | (go_at_call 19; refine (copied_any ((⟨0, q0, a, b, 3, 3, false, 0#32, 0, 0⟩ : Hf).proves (nonceOf b q0)) (by obtain ⟨sa, sn, se, sb, _⟩ := HX41_prf.out.own.shape; cases se; exact sb) (by rw [ypL.out]; decide)).mono ?_; rintro e w60 ⟨v, rfl, ⟨d, m, hv, od, om⟩, hb⟩; obtain ⟨ea, ec, rfl⟩ := OwnB.nilShape od; obtain ⟨ga, gc, rfl, _, hgl, _⟩ := OwnB.some om (by rw [ypL.out]; decide); have HV60 := hid hv; have HM60 := hid om; have HB60 := hid hb; clear od om hv hb)
        | (show wpList _ _ _ (Oper.mk none (.store 29 (.tmp 22) (.tmp 117)) _ _ _ _ :: _) _ _; refine (Row.new' w60 _ frZ 29 _ rfl rfl).wpStore' 29 (.tmp 22) (.tmp 117) (frD ((⟨0, q0, a, b, 3, 3, false, 0#32, 0, 0⟩ : Hf).proves (nonceOf b q0)).k ((⟨0, q0, a, b, 3, 3, false, 0#32, 0, 0⟩ : Hf).proves (nonceOf b q0)).p ((⟨0, q0, a, b, 3, 3, false, 0#32, 0, 0⟩ : Hf).proves (nonceOf b q0)).tok ((⟨0, q0, a, b, 3, 3, false, 0#32, 0, 0⟩ : Hf).proves (nonceOf b q0)).non (.slice ea 0 ec) (.slice (some ⟨ga, 0, none⟩) ((⟨0, q0, a, b, 3, 3, false, 0#32, 0, 0⟩ : Hf).proves (nonceOf b q0)).bs.length gc) ((⟨0, q0, a, b, 3, 3, false, 0#32, 0, 0⟩ : Hf).proves (nonceOf b q0)).bk) rfl rfl rfl HV60.out rfl (frD_one _ _ _ _ _ _ _ _ _ _ _) i29 ?_; intro w61 HZ61))
      have HB61 : Hid (Below w60.heap.size w60 w61) := by show Below _ _ _; rw [HZ61.out]; exact below_put _ _ _
      have HR61 : Hid (Row w61 w60.heap.size (frD ((⟨0, q0, a, b, 3, 3, false, 0#32, 0, 0⟩ : Hf).proves (nonceOf b q0)).k ((⟨0, q0, a, b, 3, 3, false, 0#32, 0, 0⟩ : Hf).proves (nonceOf b q0)).p ((⟨0, q0, a, b, 3, 3, false, 0#32, 0, 0⟩ : Hf).proves (nonceOf b q0)).tok ((⟨0, q0, a, b, 3, 3, false, 0#32, 0, 0⟩ : Hf).proves (nonceOf b q0)).non (.slice ea 0 ec) (.slice (some ⟨ga, 0, none⟩) ((⟨0, q0, a, b, 3, 3, false, 0#32, 0, 0⟩ : Hf).proves (nonceOf b q0)).bs.length gc) ((⟨0, q0, a, b, 3, 3, false, 0#32, 0, 0⟩ : Hf).proves (nonceOf b q0)).bk) 29) := by show Row _ _ _ _; rw [HZ61.out]; exact (Row.new' w60 _ frZ 29 _ rfl rfl).row _
      have HWe_ask := hid (HY41_ask.out.kept HB60.out)
      clear HY41_ask
      have HWe_ans := hid (HY41_ans.out.kept HB60.out)
      clear HY41_ans
      have HWe_prf := hid (HX41_prf.out.kept HB60.out)
      clear HX41_prf
      have HNe := hid (HU41.out.kept HB60.out)
      clear HU41
      have HBY : Hid (BytesAt w60 (some ⟨ga, 0, none⟩) ((⟨0, q0, a, b, 3, 3, false, 0#32, 0, 0⟩ : Hf).proves (nonceOf b q0)).bs) := by obtain ⟨_, _, e, hb, _⟩ := HM60.out.shape; cases e; exact hb
      have hgc : 20 ≤ gc := by obtain ⟨_, _, e, _, hl, _⟩ := HM60.out.shape; cases e; rw [ypL.out] at hl; exact hl
      have hgi : (20 : Int) ≤ (gc : Int) := by omega
      clear hgc HB60 HV60 HM60 HZ61
      have t9 : w61.cell? ⟨w60.heap.size, 9, none⟩ = some (.slice (some ⟨ga, 0, none⟩) 20 gc) := by rw [HR61.out.cell 9 _ rfl, ypL.out]
      have t9f := HR61.out.frozen 9
      simp only [Act.put]
      go_upto_region 24 with fail
      have HR62 : Hid (Row (w61.setCell ⟨w60.heap.size, 9, none⟩ (.slice (some ⟨ga, 0, none⟩) 19 gc)) w60.heap.size (frD ((⟨0, q0, a, b, 3, 3, false, 0#32, 0, 0⟩ : Hf).proves (nonceOf b q0)).k ((⟨0, q0, a, b, 3, 3, false, 0#32, 0, 0⟩ : Hf).proves (nonceOf b q0)).p ((⟨0, q0, a, b, 3, 3, false, 0#32, 0, 0⟩ : Hf).proves (nonceOf b q0)).tok ((⟨0, q0, a, b, 3, 3, false, 0#32, 0, 0⟩ : Hf).proves (nonceOf b q0)).non (.slice ea 0 ec) (.slice (some ⟨ga, 0, none⟩) 19 gc) ((⟨0, q0, a, b, 3, 3, false, 0#32, 0, 0⟩ : Hf).proves (nonceOf b q0)).bk) 29) := HR61.out.set 9 _
      have HB62 : Hid (Below w60.heap.size w60 (w61.setCell ⟨w60.heap.size, 9, none⟩ (.slice (some ⟨ga, 0, none⟩) 19 gc))) := HB61.out.setCell (show w60.heap.size ≤ w60.heap.size from Nat.le_refl _) _
      clear t9 t9f hgi HR61 HB61
      generalize w61.setCell ⟨w60.heap.size, 9, none⟩ (.slice (some ⟨ga, 0, none⟩) 19 gc) = w62 at *
      have HWf_ask := hid (HWe_ask.out.kept HB62.out)
      clear HWe_ask
      have HWf_ans := hid (HWe_ans.out.kept HB62.out)
      clear HWe_ans
      have HWf_prf := hid (HWe_prf.out.kept HB62.out)
      clear HWe_prf
      have HNf := hid (HNe.out.kept HB62.out)
      clear HNe
      have HL19 : Hid (({ ((⟨0, q0, a, b, 3, 3, false, 0#32, 0, 0⟩ : Hf).proves (nonceOf b q0)) with bs := ((⟨0, q0, a, b, 3, 3, false, 0#32, 0, 0⟩ : Hf).proves (nonceOf b q0)).bs.take 19 } : Fo).bs.length = 19) := by show (List.take 19 ((⟨0, q0, a, b, 3, 3, false, 0#32, 0, 0⟩ : Hf).proves (nonceOf b q0)).bs).length = 19; rw [List.length_take, ypL.out]; decide
      have HFI3 : Hid (FrIn w62 ({ ((⟨0, q0, a, b, 3, 3, false, 0#32, 0, 0⟩ : Hf).proves (nonceOf b q0)) with bs := ((⟨0, q0, a, b, 3, 3, false, 0#32, 0, 0⟩ : Hf).proves (nonceOf b q0)).bs.take 19 } : Fo) (frD ((⟨0, q0, a, b, 3, 3, false, 0#32, 0, 0⟩ : Hf).proves (nonceOf b q0)).k ((⟨0, q0, a, b, 3, 3, false, 0#32, 0, 0⟩ : Hf).proves (nonceOf b q0)).p ((⟨0, q0, a, b, 3, 3, false, 0#32, 0, 0⟩ : Hf).proves (nonceOf b q0)).tok ((⟨0, q0, a, b, 3, 3, false, 0#32, 0, 0⟩ : Hf).proves (nonceOf b q0)).non (.slice ea 0 ec) (.slice (some ⟨ga, 0, none⟩) 19 gc) ((⟨0, q0, a, b, 3, 3, false, 0#32, 0, 0⟩ : Hf).proves (nonceOf b q0)).bk)) := FrIn.ofD (a := some ⟨ga, 0, none⟩) (n := gc) rfl rfl rfl rfl rfl (by rw [HL19.out]) (bytes_take (HBY.out.kept HB62.out) 19)
      have HNE3 : Hid (¬ ({ ((⟨0, q0, a, b, 3, 3, false, 0#32, 0, 0⟩ : Hf).proves (nonceOf b q0)) with bs := ((⟨0, q0, a, b, 3, 3, false, 0#32, 0, 0⟩ : Hf).proves (nonceOf b q0)).bs.take 19 } : Fo).bs = ((proofL a b (nonceOf a q0) (nonceOf b q0))).take 20) := fun e => by have h := congrArg List.length e; rw [HL19.out, List.length_take, proofL_len] at h; revert h; decide
      generalize w60.heap.size = g60 at *
      go_upto_region 25 with (first
        | (show wpList _ _ _ (Oper.mk (some 123) (.load 29 (.tmp 22)) _ _ _ _ :: _) _ _; refine HR62.out.wpLoad 29 (.tmp 22) rfl rfl rfl _ Tryd.underlying29 rfl i29 ?_)
        | (go_at_call 15; refine (hear_prove_no HNf.out.hb HFI3.out HP.out rfl rfl (fun h => HNE3.out h.2) (HNf.out.k HK.out) (HNf.out.one H1.out) 0).mono ?_; rintro e w71 ⟨v, rfl, ⟨m71, hv, om⟩, hf, ho⟩; have HT71 := hid (HNf.out.onB ho hf); have HO71 := hid ho; clear hv om hf ho))
      have HX71_ask := hid (HWf_ask.out.only HO71.out (Nat.le_refl _))
      clear HWf_ask
      have HX71_ans := hid (HWf_ans.out.only HO71.out (Nat.le_refl _))
      clear HWf_ans
      have HX71_prf := hid (HWf_prf.out.only HO71.out (Nat.le_refl _))
      clear HWf_prf
      clear HNf HO71 HFI3 HNE3 HR62 HB62 HBY
      go_upto_region 27 with (first
        | (go_at_call 13; refine (state_any HT71.out.hb).mono ?_; rintro e wx ⟨rfl, hwx⟩; subst hwx))
      go_upto_region 28 with (first
        | (show wpList _ _ _ (Oper.mk (some 129) (.load 29 (.tmp 20)) _ _ _ _ :: _) _ _; refine HX71_prf.out.row.wpLoad 29 (.tmp 20) rfl rfl rfl _ Tryd.underlying29 rfl i29 ?_)
        | (go_at_call 15; refine (hear_prove HT71.out.hb HX71_prf.out.frin HP.out rfl rfl rfl rfl (HT71.out.k HK.out) (HT71.out.one H1.out) 0).mono ?_; rintro e w72 ⟨v, rfl, ⟨m72, hv, om⟩, hf, ho⟩; have HT72 := hid (HT71.out.onB ho hf); have HM72 := hid om; have HV72 := hid hv; have HO72 := hid ho; clear hv om hf ho))
      have HX72_ask := hid (HX71_ask.out.only HO72.out (Nat.le_refl _))
      clear HX71_ask
      have HX72_ans := hid (HX71_ans.out.only HO72.out (Nat.le_refl _))
      clear HX71_ans
      have HX72_prf := hid (HX71_prf.out.only HO72.out (Nat.le_refl _))
      clear HX71_prf
      clear HT71 HM72 HV72 HO72
      go_wp2_with (first
        | (go_at_call 13; refine (state_any HT72.out.hb).mono ?_; rintro e wx ⟨rfl, hwx⟩; subst hwx))
      go_ret
      exact ⟨rfl, HT72.out.bel⟩
    · have hmb := ub_ne hmk
      have HMK := hid hmk
      clear hmk
      go_upto_region 6 with (first
        | (go_at_call 9; have HFx := HF1; clear HFx; refine (new_side 1 1 q0 b a 3 rfl).mono ?_; rintro e w2 ⟨rfl, hf2, hb2⟩
           have HT : Hid (Tw w w.heap.size w1.heap.size (⟨0, q0, a, b, 3, 0, false, 0#32, 0, 0⟩ : Hf) (⟨1, q0, b, a, 3, 0, false, 0#32, 0, 0⟩ : Hf) w2) := by
             have h3 : Tw w w.heap.size w1.heap.size (mk0 0 q0 a b 3) (mk0 1 q0 b a 3) w2 := ⟨HF1.out.kept hb2, hf2, HB1.out.trans (hb2.mono HB1.out.size), Row.lt HF1.out, Nat.le_refl _⟩
             unfold mk0 at h3
             rw [if_neg HP.out] at h3
             exact h3
           clear hf2 hb2)
        | (go_at_call 9; refine (new_side 0 0 q0 a b 3 rfl).mono ?_; rintro e w1 ⟨rfl, hf1, hb1⟩; have HF1 := hid hf1; have HB1 := hid hb1; clear hf1 hb1))
      clear HF1 HB1
      generalize w1.heap.size = q at *
      go_upto_region 7 with (first
        | (go_at_call 10; refine (start_yes HT.out.ha rfl rfl HAB.out.2 (HT.out.k HK.out) (Nat.le_trans H1.out HT.out.ge) 0 false).mono ?_; rintro e w11 ⟨v, rfl, ⟨m11, hv, om⟩, hf, ho⟩; have HT11 := hid (HT.out.onA ho hf); have HM11 := hid om; have HV11 := hid hv; have HO11 := hid ho; clear hv om hf ho)
        | (show wpList _ _ _ (Oper.mk none (.store 29 (.tmp 13) (.tmp 42)) _ _ _ _ :: _) _ _; refine (Row.new' w11 _ frZ 29 _ rfl rfl).wpStore' 29 (.tmp 13) (.tmp 42) (frC ((⟨0, q0, a, b, 3, 1, false, 0#32, 0, 0⟩ : Hf).ask).k ((⟨0, q0, a, b, 3, 1, false, 0#32, 0, 0⟩ : Hf).ask).p ((⟨0, q0, a, b, 3, 1, false, 0#32, 0, 0⟩ : Hf).ask).tok ((⟨0, q0, a, b, 3, 1, false, 0#32, 0, 0⟩ : Hf).ask).non m11 ((⟨0, q0, a, b, 3, 1, false, 0#32, 0, 0⟩ : Hf).ask).bk) rfl rfl rfl HV11.out rfl (frC_m HM11.out) i29 ?_; intro wz11 HZ11))
      have HB11 : Hid (Below w11.heap.size w11 wz11) := by show Below _ _ _; rw [HZ11.out]; exact below_put _ _ _
      have HX11_ask : Hid (Bx q w11.heap.size ((⟨0, q0, a, b, 3, 1, false, 0#32, 0, 0⟩ : Hf).ask) m11 wz11) := by show Bx _ _ _ _ _; rw [HZ11.out]; exact Bx.new HM11.out HT.out.lt (Nat.lt_of_lt_of_le HT.out.lt HO11.out.size)
      have HU11 := hid (HT11.out.kept HB11.out)
      clear HT HT11 HB11 HZ11 HM11 HV11 HO11
      generalize w11.heap.size = g11 at *
      go_upto_region 8 with (first
        | (show wpList _ _ _ (Oper.mk (some 46) (.load 29 (.tmp 13)) _ _ _ _ :: _) _ _; refine HX11_ask.out.row.wpLoad 29 (.tmp 13) rfl rfl rfl _ Tryd.underlying29 rfl i29 ?_)
        | (go_at_call 15; refine (hear_join HU11.out.hb HX11_ask.out.frin HP.out rfl rfl rfl (.inl rfl) rfl HAB.out.2 (by have := HU11.out.ge; have := HU11.out.ne; have := H1.out; omega) (HU11.out.k HK.out) (HU11.out.one H1.out) 0).mono ?_; rintro e w12 ⟨v, rfl, ⟨m12, hv, om⟩, hf, ho⟩; have HT12 := hid (HU11.out.onB ho hf); have HM12 := hid om; have HV12 := hid hv; have HO12 := hid ho; clear hv om hf ho)
        | (show wpList _ _ _ (Oper.mk none (.store 29 (.tmp 15) (.tmp 48)) _ _ _ _ :: _) _ _; refine (Row.new' w12 _ frZ 29 _ rfl rfl).wpStore' 29 (.tmp 15) (.tmp 48) (frC ((⟨1, q0, b, a, 3, 2, false, (nonceOf a q0), 0, 0⟩ : Hf).answer).k ((⟨1, q0, b, a, 3, 2, false, (nonceOf a q0), 0, 0⟩ : Hf).answer).p ((⟨1, q0, b, a, 3, 2, false, (nonceOf a q0), 0, 0⟩ : Hf).answer).tok ((⟨1, q0, b, a, 3, 2, false, (nonceOf a q0), 0, 0⟩ : Hf).answer).non m12 ((⟨1, q0, b, a, 3, 2, false, (nonceOf a q0), 0, 0⟩ : Hf).answer).bk) rfl rfl rfl HV12.out rfl (frC_m HM12.out) i29 ?_; intro wz12 HZ12))
      have HX12_ask := hid (HX11_ask.out.only HO12.out (Nat.le_refl _))
      clear HX11_ask
      have HB12 : Hid (Below w12.heap.size w12 wz12) := by show Below _ _ _; rw [HZ12.out]; exact below_put _ _ _
      have HX12_ans : Hid (Bx q w12.heap.size ((⟨1, q0, b, a, 3, 2, false, (nonceOf a q0), 0, 0⟩ : Hf).answer) m12 wz12) := by show Bx _ _ _ _ _; rw [HZ12.out]; exact Bx.new HM12.out HU11.out.lt (Nat.lt_of_lt_of_le HU11.out.lt HO12.out.size)
      have HY12_ask := hid (HX12_ask.out.kept HB12.out)
      clear HX12_ask
      have HU12 := hid (HT12.out.kept HB12.out)
      clear HU11 HT12 HB12 HZ12 HM12 HV12 HO12
      generalize w12.heap.size = g12 at *
      obtain ⟨yaa, yan, yae⟩ := HX12_ans.out.slice
      subst yae
      have yal : ((⟨1, q0, b, a, 3, 2, false, (nonceOf a q0), 0, 0⟩ : Hf).answer).bs.length = 8 := by show (List.take _ _).length = _; rw [List.length_take, proofL_len]; decide
      have yac : wz12.cell? ⟨g12, 9, none⟩ = some (.slice yaa 8 yan) := by rw [HX12_ans.out.row.cell 9 _ rfl, yal]
      have yaL := hid yal
      clear yal
      go_upto_region 11 with fail
      clear yac
      go_upto_region 12 with (first
        | (show wpList _ _ _ (Oper.mk (some 64) (.load 29 (.tmp 15)) _ _ _ _ :: _) _ _; refine HX12_ans.out.row.wpLoad 29 (.tmp 15) rfl rfl rfl _ Tryd.underlying29 rfl i29 ?_)
        | (go_at_call 18; refine (lturned_any ((⟨1, q0, b, a, 3, 2, false, (nonceOf a q0), 0, 0⟩ : Hf).answer) (by obtain ⟨sa, sn, se, sb, _⟩ := HX12_ans.out.own.shape; cases se; exact sb) (by rw [yaL.out]; decide) (by rw [yaL.out]; decide) at' mask).mono ?_; rintro e w30 ⟨v, j, rfl, hj, ⟨d, m, hv, od, om⟩, hb⟩; obtain ⟨da, dc, rfl⟩ := OwnB.nilShape od; obtain ⟨ta, tc, rfl, _, _⟩ := om.shape; have HV30 := hid hv; have HM30 := hid om; have HJ30 := hid hj; have HB30 := hid hb; clear od om hv hj hb)
        | (show wpList _ _ _ (Oper.mk none (.store 29 (.tmp 17) (.tmp 67)) _ _ _ _ :: _) _ _; refine (Row.new' w30 _ frZ 29 _ rfl rfl).wpStore' 29 (.tmp 17) (.tmp 67) (frD (((⟨1, q0, b, a, 3, 2, false, (nonceOf a q0), 0, 0⟩ : Hf).answer).turn j mask).k (((⟨1, q0, b, a, 3, 2, false, (nonceOf a q0), 0, 0⟩ : Hf).answer).turn j mask).p (((⟨1, q0, b, a, 3, 2, false, (nonceOf a q0), 0, 0⟩ : Hf).answer).turn j mask).tok (((⟨1, q0, b, a, 3, 2, false, (nonceOf a q0), 0, 0⟩ : Hf).answer).turn j mask).non (.slice da 0 dc) (.slice ta (((⟨1, q0, b, a, 3, 2, false, (nonceOf a q0), 0, 0⟩ : Hf).answer).turn j mask).bs.length tc) (((⟨1, q0, b, a, 3, 2, false, (nonceOf a q0), 0, 0⟩ : Hf).answer).turn j mask).bk) rfl rfl rfl HV30.out rfl (frD_one _ _ _ _ _ _ _ _ _ _ _) i29 ?_; intro w31 HZ31))
      have HB31 : Hid (Below w30.heap.size w30 w31) := by show Below _ _ _; rw [HZ31.out]; exact below_put _ _ _
      have HR31 : Hid (Row w31 w30.heap.size (frD (((⟨1, q0, b, a, 3, 2, false, (nonceOf a q0), 0, 0⟩ : Hf).answer).turn j mask).k (((⟨1, q0, b, a, 3, 2, false, (nonceOf a q0), 0, 0⟩ : Hf).answer).turn j mask).p (((⟨1, q0, b, a, 3, 2, false, (nonceOf a q0), 0, 0⟩ : Hf).answer).turn j mask).tok (((⟨1, q0, b, a, 3, 2, false, (nonceOf a q0), 0, 0⟩ : Hf).answer).turn j mask).non (.slice da 0 dc) (.slice ta (((⟨1, q0, b, a, 3, 2, false, (nonceOf a q0), 0, 0⟩ : Hf).answer).turn j mask).bs.length tc) (((⟨1, q0, b, a, 3, 2, false, (nonceOf a q0), 0, 0⟩ : Hf).answer).turn j mask).bk) 29) := by show Row _ _ _ _; rw [HZ31.out]; exact (Row.new' w30 _ frZ 29 _ rfl rfl).row _
      have HWa_ask := hid (HY12_ask.out.kept HB30.out)
      clear HY12_ask
      have HWa_ans := hid (HX12_ans.out.kept HB30.out)
      clear HX12_ans
      have HNa := hid (HU12.out.kept HB30.out)
      clear HU12
      have HWb_ask := hid (HWa_ask.out.kept HB31.out)
      clear HWa_ask
      have HWb_ans := hid (HWa_ans.out.kept HB31.out)
      clear HWa_ans
      have HNb := hid (HNa.out.kept HB31.out)
      clear HNa
      have HM31 := hid (HM30.out.kept HB31.out)
      clear HM30 HB30 HB31 HZ31 HV30
      generalize w30.heap.size = g30 at *
      have HFI : Hid (FrIn w31 (((⟨1, q0, b, a, 3, 2, false, (nonceOf a q0), 0, 0⟩ : Hf).answer).turn j mask) (frD (((⟨1, q0, b, a, 3, 2, false, (nonceOf a q0), 0, 0⟩ : Hf).answer).turn j mask).k (((⟨1, q0, b, a, 3, 2, false, (nonceOf a q0), 0, 0⟩ : Hf).answer).turn j mask).p (((⟨1, q0, b, a, 3, 2, false, (nonceOf a q0), 0, 0⟩ : Hf).answer).turn j mask).tok (((⟨1, q0, b, a, 3, 2, false, (nonceOf a q0), 0, 0⟩ : Hf).answer).turn j mask).non (.slice da 0 dc) (.slice ta (((⟨1, q0, b, a, 3, 2, false, (nonceOf a q0), 0, 0⟩ : Hf).answer).turn j mask).bs.length tc) (((⟨1, q0, b, a, 3, 2, false, (nonceOf a q0), 0, 0⟩ : Hf).answer).turn j mask).bk)) := by obtain ⟨sa, sn, se, sb, _⟩ := HM31.out.shape; cases se; exact FrIn.ofD rfl rfl rfl rfl rfl rfl sb
      have HNE : Hid (¬ (((⟨1, q0, b, a, 3, 2, false, (nonceOf a q0), 0, 0⟩ : Hf).answer).turn j mask).bs = ((proofL b a (nonceOf b q0) (nonceOf a q0))).take 8) := set_ne HJ30.out HMK.out
      go_upto_region 13 with (first
        | (show wpList _ _ _ (Oper.mk (some 70) (.load 29 (.tmp 17)) _ _ _ _ :: _) _ _; refine HR31.out.wpLoad 29 (.tmp 17) rfl rfl rfl _ Tryd.underlying29 rfl i29 ?_)
        | (go_at_call 15; refine (hear_joined_no HNb.out.ha HFI.out HP.out rfl rfl (fun h => HNE.out h.2.2) (HNb.out.k HK.out) (HNb.out.one H1.out) 0).mono ?_; rintro e w13 ⟨v, rfl, ⟨m13, hv, om⟩, hf, ho⟩; obtain ⟨za, zc, rfl⟩ := OwnB.nilShape om; have HT13 := hid (HNb.out.onA ho hf); have HV13 := hid hv; have HO13 := hid ho; clear hv om hf ho)
        | (show wpList _ _ _ (Oper.mk none (.store 29 (.tmp 18) (.tmp 72)) _ _ _ _ :: _) _ _; refine (Row.new' w13 _ frZ 29 _ rfl rfl).wpStore' 29 (.tmp 18) (.tmp 72) (frC 0 0 0#32 0#32 (.slice za 0 zc) false) rfl rfl rfl HV13.out rfl (frC_one _ _ _ _ _ _ _ _) i29 ?_; intro wz13 HZ13))
      have HX13_ask := hid (HWb_ask.out.only HO13.out (by have := HNb.out.ne; omega))
      clear HWb_ask
      have HX13_ans := hid (HWb_ans.out.only HO13.out (by have := HNb.out.ne; omega))
      clear HWb_ans
      clear HNb
      have HBz : Hid (Below w13.heap.size w13 wz13) := by show Below _ _ _; rw [HZ13.out]; exact below_put _ _ _
      have HRz : Hid (Row wz13 w13.heap.size (frC 0 0 0#32 0#32 (.slice za 0 zc) false) 29) := by show Row _ _ _ _; rw [HZ13.out]; exact (Row.new' w13 _ frZ 29 _ rfl rfl).row _
      have HWc_ask := hid (HX13_ask.out.kept HBz.out)
      clear HX13_ask
      have HWc_ans := hid (HX13_ans.out.kept HBz.out)
      clear HX13_ans
      have HNc := hid (HT13.out.kept HBz.out)
      clear HT13
      clear HZ13 HV13 HO13 HBz HR31 HM31 HFI HNE HJ30
      generalize w13.heap.size = gz at *
      have HSM := hid (same_eq (w := wz13) 0 0 0#32 0#32 false (a := za) (b := none) (c := zc) (d := 0) (bytes_nil' _ _) (bytes_nil' _ _))
      go_upto_region 15 with (first
        | (go_at_call 13; refine (state_any HNc.out.ha).mono ?_; rintro e wx ⟨rfl, hwx⟩; subst hwx)
        | (show wpList _ _ _ (Oper.mk (some 81) (.load 29 (.tmp 18)) _ _ _ _ :: _) _ _; refine Row.wpLoadB HRz.out 29 (.tmp 18) (j := 6) (b := false) rfl rfl rfl rfl _ Tryd.underlying29 rfl i29 ?_)
        | (go_at_call 12; refine Calls.mono HSM.out ?_; rintro e w33 ⟨rfl, hb33⟩; have HB33 := hid hb33; clear hb33))
      have HWd_ask := hid (HWc_ask.out.kept HB33.out)
      clear HWc_ask
      have HWd_ans := hid (HWc_ans.out.kept HB33.out)
      clear HWc_ans
      have HNd := hid (HNc.out.kept HB33.out)
      clear HNc
      clear HSM HRz HB33
      go_upto_region 16 with (first
        | (show wpList _ _ _ (Oper.mk (some 88) (.load 29 (.tmp 15)) _ _ _ _ :: _) _ _; refine HWd_ans.out.row.wpLoad 29 (.tmp 15) rfl rfl rfl _ Tryd.underlying29 rfl i29 ?_)
        | (go_at_call 15; refine (hear_joined HNd.out.ha HWd_ans.out.frin HP.out rfl rfl rfl (.inl rfl) rfl (Nat.le_trans H1.out HNd.out.ge) (HNd.out.k HK.out) (HNd.out.one H1.out) 0).mono ?_; rintro e w41 ⟨v, rfl, ⟨m41, hv, om⟩, hf, ho⟩; have HT41 := hid (HNd.out.onA ho hf); have HM41 := hid om; have HV41 := hid hv; have HO41 := hid ho; clear hv om hf ho)
        | (show wpList _ _ _ (Oper.mk none (.store 29 (.tmp 20) (.tmp 90)) _ _ _ _ :: _) _ _; refine (Row.new' w41 _ frZ 29 _ rfl rfl).wpStore' 29 (.tmp 20) (.tmp 90) (frC ((⟨0, q0, a, b, 3, 3, false, 0#32, 0, 0⟩ : Hf).proves (nonceOf b q0)).k ((⟨0, q0, a, b, 3, 3, false, 0#32, 0, 0⟩ : Hf).proves (nonceOf b q0)).p ((⟨0, q0, a, b, 3, 3, false, 0#32, 0, 0⟩ : Hf).proves (nonceOf b q0)).tok ((⟨0, q0, a, b, 3, 3, false, 0#32, 0, 0⟩ : Hf).proves (nonceOf b q0)).non m41 ((⟨0, q0, a, b, 3, 3, false, 0#32, 0, 0⟩ : Hf).proves (nonceOf b q0)).bk) rfl rfl rfl HV41.out rfl (frC_m HM41.out) i29 ?_; intro wz41 HZ41))
      have HX41_ask := hid (HWd_ask.out.only HO41.out (by have := HNd.out.ne; omega))
      clear HWd_ask
      have HX41_ans := hid (HWd_ans.out.only HO41.out (by have := HNd.out.ne; omega))
      clear HWd_ans
      have HB41 : Hid (Below w41.heap.size w41 wz41) := by show Below _ _ _; rw [HZ41.out]; exact below_put _ _ _
      have HX41_prf : Hid (Bx q w41.heap.size ((⟨0, q0, a, b, 3, 3, false, 0#32, 0, 0⟩ : Hf).proves (nonceOf b q0)) m41 wz41) := by show Bx _ _ _ _ _; rw [HZ41.out]; exact Bx.new HM41.out HNd.out.lt (Nat.lt_of_lt_of_le HNd.out.lt HO41.out.size)
      have HY41_ask := hid (HX41_ask.out.kept HB41.out)
      clear HX41_ask
      have HY41_ans := hid (HX41_ans.out.kept HB41.out)
      clear HX41_ans
      have HU41 := hid (HT41.out.kept HB41.out)
      clear HNd HT41 HB41 HZ41 HM41 HV41 HO41
      generalize w41.heap.size = g41 at *
      obtain ⟨ypa, ypn, ype⟩ := HX41_prf.out.slice
      subst ype
      have ypl : (((⟨0, q0, a, b, 3, 3, false, 0#32, 0, 0⟩ : Hf).proves (nonceOf b q0))).bs.length = 20 := by show (List.take _ _).length = _; rw [List.length_take, proofL_len]; decide
      have ypc : wz41.cell? ⟨g41, 9, none⟩ = some (.slice ypa 20 ypn) := by rw [HX41_prf.out.row.cell 9 _ rfl, ypl]
      have ypL := hid ypl
      clear ypl
      go_upto_region 19 with (first
        | (go_at_call 13; refine (state_any HU41.out.ha).mono ?_; rintro e wx ⟨rfl, hwx⟩; subst hwx))
      clear ypc
      go_upto_region 20 with (first
        | (show wpList _ _ _ (Oper.mk (some 108) (.load 29 (.tmp 20)) _ _ _ _ :: _) _ _; refine HX41_prf.out.row.wpLoad 29 (.tmp 20) rfl rfl rfl _ Tryd.underlying29 rfl i29 ?_)
        | (go_at_call 18; refine (lturned_any ((⟨0, q0, a, b, 3, 3, false, 0#32, 0, 0⟩ : Hf).proves (nonceOf b q0)) (by obtain ⟨sa, sn, se, sb, _⟩ := HX41_prf.out.own.shape; cases se; exact sb) (by rw [ypL.out]; decide) (by rw [ypL.out]; decide) at' mask).mono ?_; rintro e w50 ⟨v, j2, rfl, hj, ⟨d, m, hv, od, om⟩, hb⟩; have HV50 := hid hv; have HM50 := hid om; have HJ50 := hid hj; have HB50 := hid hb; clear od om hv hj hb)
        | (go_at_call 15
           have HT50 := hid (HU41.out.kept HB50.out)
           rw [HV50.out]
           have HFI2 : Hid (FrIn w50 (((⟨0, q0, a, b, 3, 3, false, 0#32, 0, 0⟩ : Hf).proves (nonceOf b q0)).turn j2 mask) (frD (((⟨0, q0, a, b, 3, 3, false, 0#32, 0, 0⟩ : Hf).proves (nonceOf b q0)).turn j2 mask).k (((⟨0, q0, a, b, 3, 3, false, 0#32, 0, 0⟩ : Hf).proves (nonceOf b q0)).turn j2 mask).p (((⟨0, q0, a, b, 3, 3, false, 0#32, 0, 0⟩ : Hf).proves (nonceOf b q0)).turn j2 mask).tok (((⟨0, q0, a, b, 3, 3, false, 0#32, 0, 0⟩ : Hf).proves (nonceOf b q0)).turn j2 mask).non d m (((⟨0, q0, a, b, 3, 3, false, 0#32, 0, 0⟩ : Hf).proves (nonceOf b q0)).turn j2 mask).bk)) := by obtain ⟨sa, sn, se, sb, _⟩ := HM50.out.shape; exact FrIn.ofD rfl rfl rfl rfl rfl se sb
           have HNE2 : Hid (¬ (((⟨0, q0, a, b, 3, 3, false, 0#32, 0, 0⟩ : Hf).proves (nonceOf b q0)).turn j2 mask).bs = ((proofL a b (nonceOf a q0) (nonceOf b q0))).take 20) := set_ne HJ50.out HMK.out
           refine (hear_prove_no HT50.out.hb HFI2.out HP.out rfl rfl (fun h => HNE2.out h.2) (HT50.out.k HK.out) (HT50.out.one H1.out) 0).mono ?_; rintro e w51 ⟨v, rfl, ⟨m51, hv, om⟩, hf, ho⟩; have HT51 := hid (HT50.out.onB ho hf); have HO51 := hid ho; clear hv om hf ho))
      have HX51_ask := hid ((HY41_ask.out.kept HB50.out).only HO51.out (Nat.le_refl _))
      clear HY41_ask
      have HX51_ans := hid ((HY41_ans.out.kept HB50.out).only HO51.out (Nat.le_refl _))
      clear HY41_ans
      have HX51_prf := hid ((HX41_prf.out.kept HB50.out).only HO51.out (Nat.le_refl _))
      clear HX41_prf
      clear HU41 HT50 HB50 HM50 HJ50 HV50 HO51 HFI2 HNE2
      go_upto_region 22 with (first
        | (go_at_call 13; refine (state_any HT51.out.hb).mono ?_; rintro e wx ⟨rfl, hwx⟩; subst hwx))
      go_upto_region 23 with (first
        | (show wpList _ _ _ (Oper.mk (some 116) (.load 29 (.tmp 20)) _ _ _ _ :: _) _ _; refine HX51_prf.out.row.wpLoad 29 (.tmp 20) rfl rfl rfl _ Tryd.underlying29 rfl i29 ?_)
        | (go_at_call 19; refine (copied_any ((⟨0, q0, a, b, 3, 3, false, 0#32, 0, 0⟩ : Hf).proves (nonceOf b q0)) (by obtain ⟨sa, sn, se, sb, _⟩ := HX51_prf.out.own.shape; cases se; exact sb) (by rw [ypL.out]; decide)).mono ?_; rintro e w60 ⟨v, rfl, ⟨d, m, hv, od, om⟩, hb⟩; obtain ⟨ea, ec, rfl⟩ := OwnB.nilShape od; obtain ⟨ga, gc, rfl, _, hgl, _⟩ := OwnB.some om (by rw [ypL.out]; decide); have HV60 := hid hv; have HM60 := hid om; have HB60 := hid hb; clear od om hv hb)
        | (show wpList _ _ _ (Oper.mk none (.store 29 (.tmp 22) (.tmp 117)) _ _ _ _ :: _) _ _; refine (Row.new' w60 _ frZ 29 _ rfl rfl).wpStore' 29 (.tmp 22) (.tmp 117) (frD ((⟨0, q0, a, b, 3, 3, false, 0#32, 0, 0⟩ : Hf).proves (nonceOf b q0)).k ((⟨0, q0, a, b, 3, 3, false, 0#32, 0, 0⟩ : Hf).proves (nonceOf b q0)).p ((⟨0, q0, a, b, 3, 3, false, 0#32, 0, 0⟩ : Hf).proves (nonceOf b q0)).tok ((⟨0, q0, a, b, 3, 3, false, 0#32, 0, 0⟩ : Hf).proves (nonceOf b q0)).non (.slice ea 0 ec) (.slice (some ⟨ga, 0, none⟩) ((⟨0, q0, a, b, 3, 3, false, 0#32, 0, 0⟩ : Hf).proves (nonceOf b q0)).bs.length gc) ((⟨0, q0, a, b, 3, 3, false, 0#32, 0, 0⟩ : Hf).proves (nonceOf b q0)).bk) rfl rfl rfl HV60.out rfl (frD_one _ _ _ _ _ _ _ _ _ _ _) i29 ?_; intro w61 HZ61))
      have HB61 : Hid (Below w60.heap.size w60 w61) := by show Below _ _ _; rw [HZ61.out]; exact below_put _ _ _
      have HR61 : Hid (Row w61 w60.heap.size (frD ((⟨0, q0, a, b, 3, 3, false, 0#32, 0, 0⟩ : Hf).proves (nonceOf b q0)).k ((⟨0, q0, a, b, 3, 3, false, 0#32, 0, 0⟩ : Hf).proves (nonceOf b q0)).p ((⟨0, q0, a, b, 3, 3, false, 0#32, 0, 0⟩ : Hf).proves (nonceOf b q0)).tok ((⟨0, q0, a, b, 3, 3, false, 0#32, 0, 0⟩ : Hf).proves (nonceOf b q0)).non (.slice ea 0 ec) (.slice (some ⟨ga, 0, none⟩) ((⟨0, q0, a, b, 3, 3, false, 0#32, 0, 0⟩ : Hf).proves (nonceOf b q0)).bs.length gc) ((⟨0, q0, a, b, 3, 3, false, 0#32, 0, 0⟩ : Hf).proves (nonceOf b q0)).bk) 29) := by show Row _ _ _ _; rw [HZ61.out]; exact (Row.new' w60 _ frZ 29 _ rfl rfl).row _
      have HWe_ask := hid (HX51_ask.out.kept HB60.out)
      clear HX51_ask
      have HWe_ans := hid (HX51_ans.out.kept HB60.out)
      clear HX51_ans
      have HWe_prf := hid (HX51_prf.out.kept HB60.out)
      clear HX51_prf
      have HNe := hid (HT51.out.kept HB60.out)
      clear HT51
      have HBY : Hid (BytesAt w60 (some ⟨ga, 0, none⟩) ((⟨0, q0, a, b, 3, 3, false, 0#32, 0, 0⟩ : Hf).proves (nonceOf b q0)).bs) := by obtain ⟨_, _, e, hb, _⟩ := HM60.out.shape; cases e; exact hb
      have hgc : 20 ≤ gc := by obtain ⟨_, _, e, _, hl, _⟩ := HM60.out.shape; cases e; rw [ypL.out] at hl; exact hl
      have hgi : (20 : Int) ≤ (gc : Int) := by omega
      clear hgc HB60 HV60 HM60 HZ61
      have t9 : w61.cell? ⟨w60.heap.size, 9, none⟩ = some (.slice (some ⟨ga, 0, none⟩) 20 gc) := by rw [HR61.out.cell 9 _ rfl, ypL.out]
      have t9f := HR61.out.frozen 9
      simp only [Act.put]
      go_upto_region 24 with fail
      have HR62 : Hid (Row (w61.setCell ⟨w60.heap.size, 9, none⟩ (.slice (some ⟨ga, 0, none⟩) 19 gc)) w60.heap.size (frD ((⟨0, q0, a, b, 3, 3, false, 0#32, 0, 0⟩ : Hf).proves (nonceOf b q0)).k ((⟨0, q0, a, b, 3, 3, false, 0#32, 0, 0⟩ : Hf).proves (nonceOf b q0)).p ((⟨0, q0, a, b, 3, 3, false, 0#32, 0, 0⟩ : Hf).proves (nonceOf b q0)).tok ((⟨0, q0, a, b, 3, 3, false, 0#32, 0, 0⟩ : Hf).proves (nonceOf b q0)).non (.slice ea 0 ec) (.slice (some ⟨ga, 0, none⟩) 19 gc) ((⟨0, q0, a, b, 3, 3, false, 0#32, 0, 0⟩ : Hf).proves (nonceOf b q0)).bk) 29) := HR61.out.set 9 _
      have HB62 : Hid (Below w60.heap.size w60 (w61.setCell ⟨w60.heap.size, 9, none⟩ (.slice (some ⟨ga, 0, none⟩) 19 gc))) := HB61.out.setCell (show w60.heap.size ≤ w60.heap.size from Nat.le_refl _) _
      clear t9 t9f hgi HR61 HB61
      generalize w61.setCell ⟨w60.heap.size, 9, none⟩ (.slice (some ⟨ga, 0, none⟩) 19 gc) = w62 at *
      have HWf_ask := hid (HWe_ask.out.kept HB62.out)
      clear HWe_ask
      have HWf_ans := hid (HWe_ans.out.kept HB62.out)
      clear HWe_ans
      have HWf_prf := hid (HWe_prf.out.kept HB62.out)
      clear HWe_prf
      have HNf := hid (HNe.out.kept HB62.out)
      clear HNe
      have HL19 : Hid (({ ((⟨0, q0, a, b, 3, 3, false, 0#32, 0, 0⟩ : Hf).proves (nonceOf b q0)) with bs := ((⟨0, q0, a, b, 3, 3, false, 0#32, 0, 0⟩ : Hf).proves (nonceOf b q0)).bs.take 19 } : Fo).bs.length = 19) := by show (List.take 19 ((⟨0, q0, a, b, 3, 3, false, 0#32, 0, 0⟩ : Hf).proves (nonceOf b q0)).bs).length = 19; rw [List.length_take, ypL.out]; decide
      have HFI3 : Hid (FrIn w62 ({ ((⟨0, q0, a, b, 3, 3, false, 0#32, 0, 0⟩ : Hf).proves (nonceOf b q0)) with bs := ((⟨0, q0, a, b, 3, 3, false, 0#32, 0, 0⟩ : Hf).proves (nonceOf b q0)).bs.take 19 } : Fo) (frD ((⟨0, q0, a, b, 3, 3, false, 0#32, 0, 0⟩ : Hf).proves (nonceOf b q0)).k ((⟨0, q0, a, b, 3, 3, false, 0#32, 0, 0⟩ : Hf).proves (nonceOf b q0)).p ((⟨0, q0, a, b, 3, 3, false, 0#32, 0, 0⟩ : Hf).proves (nonceOf b q0)).tok ((⟨0, q0, a, b, 3, 3, false, 0#32, 0, 0⟩ : Hf).proves (nonceOf b q0)).non (.slice ea 0 ec) (.slice (some ⟨ga, 0, none⟩) 19 gc) ((⟨0, q0, a, b, 3, 3, false, 0#32, 0, 0⟩ : Hf).proves (nonceOf b q0)).bk)) := FrIn.ofD (a := some ⟨ga, 0, none⟩) (n := gc) rfl rfl rfl rfl rfl (by rw [HL19.out]) (bytes_take (HBY.out.kept HB62.out) 19)
      have HNE3 : Hid (¬ ({ ((⟨0, q0, a, b, 3, 3, false, 0#32, 0, 0⟩ : Hf).proves (nonceOf b q0)) with bs := ((⟨0, q0, a, b, 3, 3, false, 0#32, 0, 0⟩ : Hf).proves (nonceOf b q0)).bs.take 19 } : Fo).bs = ((proofL a b (nonceOf a q0) (nonceOf b q0))).take 20) := fun e => by have h := congrArg List.length e; rw [HL19.out, List.length_take, proofL_len] at h; revert h; decide
      generalize w60.heap.size = g60 at *
      go_upto_region 25 with (first
        | (show wpList _ _ _ (Oper.mk (some 123) (.load 29 (.tmp 22)) _ _ _ _ :: _) _ _; refine HR62.out.wpLoad 29 (.tmp 22) rfl rfl rfl _ Tryd.underlying29 rfl i29 ?_)
        | (go_at_call 15; refine (hear_prove_no HNf.out.hb HFI3.out HP.out rfl rfl (fun h => HNE3.out h.2) (HNf.out.k HK.out) (HNf.out.one H1.out) 0).mono ?_; rintro e w71 ⟨v, rfl, ⟨m71, hv, om⟩, hf, ho⟩; have HT71 := hid (HNf.out.onB ho hf); have HO71 := hid ho; clear hv om hf ho))
      have HX71_ask := hid (HWf_ask.out.only HO71.out (Nat.le_refl _))
      clear HWf_ask
      have HX71_ans := hid (HWf_ans.out.only HO71.out (Nat.le_refl _))
      clear HWf_ans
      have HX71_prf := hid (HWf_prf.out.only HO71.out (Nat.le_refl _))
      clear HWf_prf
      clear HNf HO71 HFI3 HNE3 HR62 HB62 HBY
      go_upto_region 27 with (first
        | (go_at_call 13; refine (state_any HT71.out.hb).mono ?_; rintro e wx ⟨rfl, hwx⟩; subst hwx))
      go_upto_region 28 with (first
        | (show wpList _ _ _ (Oper.mk (some 129) (.load 29 (.tmp 20)) _ _ _ _ :: _) _ _; refine HX71_prf.out.row.wpLoad 29 (.tmp 20) rfl rfl rfl _ Tryd.underlying29 rfl i29 ?_)
        | (go_at_call 15; refine (hear_prove HT71.out.hb HX71_prf.out.frin HP.out rfl rfl rfl rfl (HT71.out.k HK.out) (HT71.out.one H1.out) 0).mono ?_; rintro e w72 ⟨v, rfl, ⟨m72, hv, om⟩, hf, ho⟩; have HT72 := hid (HT71.out.onB ho hf); have HM72 := hid om; have HV72 := hid hv; have HO72 := hid ho; clear hv om hf ho))
      have HX72_ask := hid (HX71_ask.out.only HO72.out (Nat.le_refl _))
      clear HX71_ask
      have HX72_ans := hid (HX71_ans.out.only HO72.out (Nat.le_refl _))
      clear HX71_ans
      have HX72_prf := hid (HX71_prf.out.only HO72.out (Nat.le_refl _))
      clear HX71_prf
      clear HT71 HM72 HV72 HO72
      go_wp2_with (first
        | (go_at_call 13; refine (state_any HT72.out.hb).mono ?_; rintro e wx ⟨rfl, hwx⟩; subst hwx))
      go_ret
      exact ⟨rfl, HT72.out.bel⟩
/-- With a byte of a Mac turned, or one byte short, neither is Joined. -/
theorem noother_any {w : World} (path : Int) (a b : Nat) (t : Int) (mask : BitVec 8) (ha : a < 18446744073709551616) (hb : b < 18446744073709551616) (hK : KTab w) (h1 : 1 ≤ w.heap.size) :
    Calls Tryd.prog 6 #[.int .i64 path, .int .u64 (a : Int), .int .u64 (b : Int), .int .i64 t, .int .u8 (ub mask)] w fun e w' => e = .returned (.bool true) ∧ Below w.heap.size w w' := by
  by_cases hp : path = 0
  · exact noother_core path 1 (.inl ⟨hp, rfl⟩) a b t mask ha hb hK h1
  · exact noother_core path path (.inr ⟨hp, rfl⟩) a b t mask ha hb hK h1
end Go.Proofs.YtjpllcliehgnfaaDoor
