import Derived.Test.YtjpllcliehgnfaaDoorJ20
namespace Go.Proofs.YtjpllcliehgnfaaDoor
open Go.RowKit Go.Sort
set_option maxRecDepth 100000

/-- A row of its own beyond both Halves. -/
structure Rw (q g : Nat) (c : List Value) (t : TypeId) (x : World) : Prop where
  row : Row x g c t
  gt : q < g
theorem Rw.kept {q g : Nat} {c : List Value} {t : TypeId} {x x' : World} (h : Rw q g c t x) (hb : Below x.heap.size x x') : Rw q g c t x' := ⟨h.row.kept hb h.row.lt, h.gt⟩
theorem Rw.only {q g r : Nat} {c : List Value} {t : TypeId} {x x' : World} (h : Rw q g c t x) (ho : Only r x x') (hr : r ≤ q) : Rw q g c t x' := ⟨ho.row h.row (by have := h.gt; omega), h.gt⟩
theorem i40 : (Tryd.prog.info? 40).map (·.size) = some 2 := by kernel_rfl
def CmA (w : World) (p q : Nat) (b1 b2 : Bool) (e : Ending) (w' : World) : Prop := ∃ A B : Hf, e = .returned (.bool true) ∧ Tw w p q A B w' ∧ A.bk = b1 ∧ B.bk = b2
set_option maxHeartbeats 4000000 in
theorem comes_yes {w x : World} {p q : Nat} (path : Int) (a b : Nat) (R sA : Int) (bk : Bool) (agA mkA : Nat) (sB : Int) (bB : Bool) (hB : BitVec 32) (agB mkB n0 n1 : Nat) (T : Tw w p q (⟨0, path, a, b, R, sA, bk, 0#32, agA, mkA⟩ : Hf) (⟨1, path, b, a, R, sB, bB, hB, agB, mkB⟩ : Hf) x) (m : Value) (om : OwnB x (q + 1) m []) (hp : ¬ path = 0) (hb : b < 18446744073709551616) (hK : KTab w) (h1 : 1 ≤ w.heap.size) (hsA : sA = 1 ∨ sA = 3) (hsB : sB = 0 ∨ sB = 2) :
    Calls Tryd.prog 16 #[.pointer (some ⟨p, 0, none⟩), .pointer (some ⟨q, 0, none⟩), frV 7 path (tok b) (nonceOf a path) m bk, .agg #[.int .u64 (n0 : Int), .int .u64 (n1 : Int)]] x (CmA w p q bk bk) := by
  have HT0 := hid T
  have HOM := hid om
  have HP := hid hp
  have HBB := hid hb
  have HK := hid hK
  have H1 := hid h1
  have HSA := hid hsA
  have HSB := hid hsB
  clear T om hp hb hK h1 hsA hsB
  unfold frV frC
  go_enter Tryd.func16, Tryd.ntmps16
  go_upto_region 1 with fail
  refine wp_world fun wa HW => ?_
  obtain ⟨ma, mc, hme⟩ := OwnB.nilShape HOM.out
  have HBW : Hid (Below x.heap.size x wa) := by show Below _ _ _; rw [HW.out]; exact ((Below.refl _ _).alloc (Nat.le_refl _) _).alloc (by simp) _
  have HAS : Hid (Bx q x.heap.size (⟨7, path, tok b, (nonceOf a path), [], bk⟩ : Fo) m wa) := ⟨by rw [HW.out]; exact (Row.new' _ _ _ _ _ rfl rfl).alloc _, HOM.out.kept HBW.out, HT0.out.lt⟩
  have HNW : Hid (Rw q (x.heap.size + 1) [.int .u64 (n0 : Int), .int .u64 (n1 : Int)] 40 wa) := ⟨by rw [HW.out]; exact Row.new' _ _ _ _ _ (by simp) rfl, Nat.lt_succ_of_lt HT0.out.lt⟩
  have HT := hid (HT0.out.kept HBW.out)
  clear HW HT0 HBW hme
  generalize x.heap.size = g6 at *
  have cn := HNW.out.row.cell 1 _ rfl
  go_upto_region 2 with (first
    | (show wpList _ _ _ (Oper.mk (some 17) (.load 29 (.tmp 6)) _ _ _ _ :: _) _ _; refine HAS.out.row.wpLoad 29 (.tmp 6) rfl rfl rfl _ Tryd.underlying29 rfl i29 ?_)
    | (go_at_call 15; refine (hear_join HT.out.hb HAS.out.frin HP.out rfl rfl rfl HSB.out rfl HBB.out (by have := HT.out.ge; have := HT.out.ne; have := H1.out; omega) (HT.out.k HK.out) (HT.out.one H1.out) n1).mono ?_; rintro e w11 ⟨v, rfl, ⟨m11, hv, om⟩, hf, ho⟩; have HT11 := hid (HT.out.onB ho hf); have HM11 := hid om; have HV11 := hid hv; have HO11 := hid ho; clear hv om hf ho)
    | (show wpList _ _ _ (Oper.mk none (.store 29 (.tmp 9) (.tmp 19)) _ _ _ _ :: _) _ _; refine (Row.new' w11 _ frZ 29 _ rfl rfl).wpStore' 29 (.tmp 9) (.tmp 19) (frC ((⟨1, path, b, a, R, 2, bk, (nonceOf a path), 0, n1⟩ : Hf).answer).k ((⟨1, path, b, a, R, 2, bk, (nonceOf a path), 0, n1⟩ : Hf).answer).p ((⟨1, path, b, a, R, 2, bk, (nonceOf a path), 0, n1⟩ : Hf).answer).tok ((⟨1, path, b, a, R, 2, bk, (nonceOf a path), 0, n1⟩ : Hf).answer).non m11 ((⟨1, path, b, a, R, 2, bk, (nonceOf a path), 0, n1⟩ : Hf).answer).bk) rfl rfl rfl HV11.out rfl (frC_m HM11.out) i29 ?_; intro wz11 HZ11))
  have HX11_ask := hid (HAS.out.only HO11.out (Nat.le_refl _))
  clear HAS
  have HX11_now := hid (HNW.out.only HO11.out (Nat.le_refl _))
  clear HNW
  have HB11 : Hid (Below w11.heap.size w11 wz11) := by show Below _ _ _; rw [HZ11.out]; exact below_put _ _ _
  have HX11_ans : Hid (Bx q w11.heap.size ((⟨1, path, b, a, R, 2, bk, (nonceOf a path), 0, n1⟩ : Hf).answer) m11 wz11) := by show Bx _ _ _ _ _; rw [HZ11.out]; exact Bx.new HM11.out HT.out.lt (Nat.lt_of_lt_of_le HT.out.lt HO11.out.size)
  have HY11_ask := hid (HX11_ask.out.kept HB11.out)
  clear HX11_ask
  have HY11_now := hid (HX11_now.out.kept HB11.out)
  clear HX11_now
  have HU11 := hid (HT11.out.kept HB11.out)
  clear HT HT11 HB11 HZ11 HM11 HV11 HO11
  generalize w11.heap.size = g11 at *
  clear cn
  go_upto_region 3 with (go_at_call 13; refine (state_any HU11.out.hb).mono ?_; rintro e wx ⟨rfl, hwx⟩; subst hwx)
  have cn := HY11_now.out.row.cell 0 _ rfl
  go_upto_region 4 with (first
    | (show wpList _ _ _ (Oper.mk (some 28) (.load 29 (.tmp 9)) _ _ _ _ :: _) _ _; refine HX11_ans.out.row.wpLoad 29 (.tmp 9) rfl rfl rfl _ Tryd.underlying29 rfl i29 ?_)
    | (go_at_call 15; refine (hear_joined HU11.out.ha HX11_ans.out.frin HP.out rfl rfl rfl HSA.out rfl (Nat.le_trans H1.out HU11.out.ge) (HU11.out.k HK.out) (HU11.out.one H1.out) n0).mono ?_; rintro e w12 ⟨v, rfl, ⟨m12, hv, om⟩, hf, ho⟩; have HT12 := hid (HU11.out.onA ho hf); have HM12 := hid om; have HV12 := hid hv; have HO12 := hid ho; clear hv om hf ho)
    | (show wpList _ _ _ (Oper.mk none (.store 29 (.tmp 11) (.tmp 30)) _ _ _ _ :: _) _ _; refine (Row.new' w12 _ frZ 29 _ rfl rfl).wpStore' 29 (.tmp 11) (.tmp 30) (frC ((⟨0, path, a, b, R, 3, bk, 0#32, agA, mkA⟩ : Hf).proves (nonceOf b path)).k ((⟨0, path, a, b, R, 3, bk, 0#32, agA, mkA⟩ : Hf).proves (nonceOf b path)).p ((⟨0, path, a, b, R, 3, bk, 0#32, agA, mkA⟩ : Hf).proves (nonceOf b path)).tok ((⟨0, path, a, b, R, 3, bk, 0#32, agA, mkA⟩ : Hf).proves (nonceOf b path)).non m12 ((⟨0, path, a, b, R, 3, bk, 0#32, agA, mkA⟩ : Hf).proves (nonceOf b path)).bk) rfl rfl rfl HV12.out rfl (frC_m HM12.out) i29 ?_; intro wz12 HZ12))
  have HX12_ask := hid (HY11_ask.out.only HO12.out (by have := HU11.out.ne; omega))
  clear HY11_ask
  have HX12_now := hid (HY11_now.out.only HO12.out (by have := HU11.out.ne; omega))
  clear HY11_now
  have HX12_ans := hid (HX11_ans.out.only HO12.out (by have := HU11.out.ne; omega))
  clear HX11_ans
  have HB12 : Hid (Below w12.heap.size w12 wz12) := by show Below _ _ _; rw [HZ12.out]; exact below_put _ _ _
  have HX12_prf : Hid (Bx q w12.heap.size ((⟨0, path, a, b, R, 3, bk, 0#32, agA, mkA⟩ : Hf).proves (nonceOf b path)) m12 wz12) := by show Bx _ _ _ _ _; rw [HZ12.out]; exact Bx.new HM12.out HU11.out.lt (Nat.lt_of_lt_of_le HU11.out.lt HO12.out.size)
  have HY12_ask := hid (HX12_ask.out.kept HB12.out)
  clear HX12_ask
  have HY12_now := hid (HX12_now.out.kept HB12.out)
  clear HX12_now
  have HY12_ans := hid (HX12_ans.out.kept HB12.out)
  clear HX12_ans
  have HU12 := hid (HT12.out.kept HB12.out)
  clear HU11 HT12 HB12 HZ12 HM12 HV12 HO12
  generalize w12.heap.size = g12 at *
  clear cn
  have cn := HY12_now.out.row.cell 1 _ rfl
  go_upto_region 7 with (first
    | (show wpList _ _ _ (Oper.mk (some 37) (.load 29 (.tmp 11)) _ _ _ _ :: _) _ _; refine HX12_prf.out.row.wpLoad 29 (.tmp 11) rfl rfl rfl _ Tryd.underlying29 rfl i29 ?_)
    | (go_at_call 15; refine (hear_prove HU12.out.hb HX12_prf.out.frin HP.out rfl rfl rfl rfl (HU12.out.k HK.out) (HU12.out.one H1.out) n1).mono ?_; rintro e w13 ⟨v, rfl, ⟨m13, hv, om⟩, hf, ho⟩; have HT13 := hid (HU12.out.onB ho hf); have HM13 := hid om; have HV13 := hid hv; have HO13 := hid ho; clear hv om hf ho))
  have HX13_ask := hid (HY12_ask.out.only HO13.out (Nat.le_refl _))
  clear HY12_ask
  have HX13_now := hid (HY12_now.out.only HO13.out (Nat.le_refl _))
  clear HY12_now
  have HX13_ans := hid (HY12_ans.out.only HO13.out (Nat.le_refl _))
  clear HY12_ans
  have HX13_prf := hid (HX12_prf.out.only HO13.out (Nat.le_refl _))
  clear HX12_prf
  clear HU12 HM13 HV13 HO13
  clear cn
  go_wp2_with (first
    | (go_at_call_of 13 (Value.pointer (some ⟨p, 0, none⟩)); refine (state_any HT13.out.ha).mono ?_; rintro e wx ⟨rfl, hwx⟩; subst hwx)
    | (go_at_call_of 13 (Value.pointer (some ⟨q, 0, none⟩)); refine (state_any HT13.out.hb).mono ?_; rintro e wx ⟨rfl, hwx⟩; subst hwx))
  go_ret
  exact ⟨_, _, rfl, HT13.out, rfl, rfl⟩
set_option maxHeartbeats 4000000 in
theorem comes_no {w x : World} {p q : Nat} (path : Int) (a b : Nat) (R : Int) (bk : Bool) (agA mkA : Nat) (bB : Bool) (hB : BitVec 32) (agB mkB n0 n1 : Nat) (T : Tw w p q (⟨0, path, a, b, R, 3, bk, 0#32, agA, mkA⟩ : Hf) (⟨1, path, b, a, R, 3, bB, hB, agB, mkB⟩ : Hf) x) (m : Value) (om : OwnB x (q + 1) m []) (hp : ¬ path = 0) (hb : b < 18446744073709551616) (hK : KTab w) (h1 : 1 ≤ w.heap.size) :
    Calls Tryd.prog 16 #[.pointer (some ⟨p, 0, none⟩), .pointer (some ⟨q, 0, none⟩), frV 7 path (tok b) (nonceOf a path) m bk, .agg #[.int .u64 (n0 : Int), .int .u64 (n1 : Int)]] x (CmA w p q bk bB) := by
  have HT0 := hid T
  have HOM := hid om
  have HP := hid hp
  have HBB := hid hb
  have HK := hid hK
  have H1 := hid h1
  clear T om hp hb hK h1 
  unfold frV frC
  go_enter Tryd.func16, Tryd.ntmps16
  go_upto_region 1 with fail
  refine wp_world fun wa HW => ?_
  obtain ⟨ma, mc, hme⟩ := OwnB.nilShape HOM.out
  have HBW : Hid (Below x.heap.size x wa) := by show Below _ _ _; rw [HW.out]; exact ((Below.refl _ _).alloc (Nat.le_refl _) _).alloc (by simp) _
  have HAS : Hid (Bx q x.heap.size (⟨7, path, tok b, (nonceOf a path), [], bk⟩ : Fo) m wa) := ⟨by rw [HW.out]; exact (Row.new' _ _ _ _ _ rfl rfl).alloc _, HOM.out.kept HBW.out, HT0.out.lt⟩
  have HNW : Hid (Rw q (x.heap.size + 1) [.int .u64 (n0 : Int), .int .u64 (n1 : Int)] 40 wa) := ⟨by rw [HW.out]; exact Row.new' _ _ _ _ _ (by simp) rfl, Nat.lt_succ_of_lt HT0.out.lt⟩
  have HT := hid (HT0.out.kept HBW.out)
  clear HW HT0 HBW hme
  generalize x.heap.size = g6 at *
  have cn := HNW.out.row.cell 1 _ rfl
  go_upto_region 2 with (first
    | (show wpList _ _ _ (Oper.mk (some 17) (.load 29 (.tmp 6)) _ _ _ _ :: _) _ _; refine HAS.out.row.wpLoad 29 (.tmp 6) rfl rfl rfl _ Tryd.underlying29 rfl i29 ?_)
    | (go_at_call 15; refine (hear_join_no HT.out.hb HAS.out.frin HP.out rfl rfl (by rintro ⟨_, h, _⟩; revert h; show ¬ ((3 : Int) = 0 ∨ (3 : Int) = 2); decide) HBB.out (HT.out.k HK.out) (HT.out.one H1.out) n1).mono ?_; rintro e w11 ⟨v, rfl, ⟨m11, hv, om⟩, hf, ho⟩; have HT11 := hid (HT.out.onB ho hf); have HM11 := hid om; have HV11 := hid hv; have HO11 := hid ho; clear hv om hf ho)
    | (show wpList _ _ _ (Oper.mk none (.store 29 (.tmp 9) (.tmp 19)) _ _ _ _ :: _) _ _; refine (Row.new' w11 _ frZ 29 _ rfl rfl).wpStore' 29 (.tmp 9) (.tmp 19) (frC (Fo.zero).k (Fo.zero).p (Fo.zero).tok (Fo.zero).non m11 (Fo.zero).bk) rfl rfl rfl HV11.out rfl (frC_m HM11.out) i29 ?_; intro wz11 HZ11))
  have HX11_ask := hid (HAS.out.only HO11.out (Nat.le_refl _))
  clear HAS
  have HX11_now := hid (HNW.out.only HO11.out (Nat.le_refl _))
  clear HNW
  have HB11 : Hid (Below w11.heap.size w11 wz11) := by show Below _ _ _; rw [HZ11.out]; exact below_put _ _ _
  have HY11_ask := hid (HX11_ask.out.kept HB11.out)
  clear HX11_ask
  have HY11_now := hid (HX11_now.out.kept HB11.out)
  clear HX11_now
  have HU11 := hid (HT11.out.kept HB11.out)
  clear HT HT11 HB11 HZ11 HM11 HV11 HO11
  generalize w11.heap.size = g11 at *
  clear cn
  go_wp2_with (first
    | (go_at_call_of 13 (Value.pointer (some ⟨p, 0, none⟩)); refine (state_any HU11.out.ha).mono ?_; rintro e wx ⟨rfl, hwx⟩; subst hwx)
    | (go_at_call_of 13 (Value.pointer (some ⟨q, 0, none⟩)); refine (state_any HU11.out.hb).mono ?_; rintro e wx ⟨rfl, hwx⟩; subst hwx))
  go_ret
  exact ⟨_, _, rfl, HU11.out, rfl, rfl⟩
end Go.Proofs.YtjpllcliehgnfaaDoor
