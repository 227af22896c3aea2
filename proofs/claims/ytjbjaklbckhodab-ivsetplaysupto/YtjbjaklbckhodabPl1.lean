import Derived.Test.YtjbjaklbckhodabDo1
import Derived.LaidEqlPtr
namespace Go.Proofs.Ytjbjaklbckhodab
open Go.RowKit
set_option maxRecDepth 100000

set_option maxHeartbeats 4000000 in
/-- Count, Len. -/
theorem do_count {B : Nat} {w : World} {p : Nat} {v : Value} {b : Option Addr} {c : Nat} {L : List Rg} (S : PSt B w p v b c L) (hf : L.length ≤ 2097152) (ot : Bool) (rl rh x : Int) :
    Calls Try.prog 16 #[.pointer (some ⟨p, 0, none⟩), .slice b L.length c, .agg #[.int .i64 6, .bool ot, .int .u64 rl, .int .u64 rh, .int .u64 x]] w fun e w' => DoAns B w w' p v (.slice b L.length c) L.length e := by
  have HS := hid S
  have hbx := below_box w (.cells #[.int .i64 6, .bool ot, .int .u64 rl, .int .u64 rh, .int .u64 x] 46)
  have c0 := op_cells w 6 ot rl rh x 0 _ rfl
  have HBX := hid hbx
  obtain ⟨av, cv, rfl, hV⟩ := S.view hf
  have HV := hid (hV.kept hbx)
  have HC := hid (S.cells.kept hbx)
  have HF := hid S.fit
  have hq : (total L == total L) = true := by simp
  have hq2 : ((L.length : Int) == (L.length : Int)) = true := by simp
  clear S hbx hV
  go_enter Try.func16, Try.ntmps16
  go_wp2_with fail
  refine (count_any HV.out HF.out).mono ?_
  rintro e w1 ⟨rfl, hb1⟩
  have HV1 := hid (HV.out.kept hb1)
  have HC1 := hid (HC.out.kept hb1)
  have HB1 := hid (HBX.out.trans (hb1.mono HBX.out.size))
  clear hb1 HV HC c0
  go_wp2_with fail
  refine (rcount_any HC1.out HF.out (by omega)).mono ?_
  rintro e w2 ⟨rfl, hb2⟩
  have HV2 := hid (HV1.out.kept hb2)
  have HB2 := hid (HB1.out.trans (hb2.mono HB1.out.size))
  clear hb2
  go_wp2_with fail
  refine (len_any HV2.out).mono ?_
  rintro e w3 ⟨rfl, hw3⟩
  subst hw3
  go_wp2_with fail
  refine bodyPost_ret (results_tmp3 Try.results16 _ _ _) rfl ?_
  exact do_same HS.out HB2.out _ (by first | rfl | simp)
set_option maxHeartbeats 4000000 in
/-- Ranges, All. -/
theorem do_ranges {B : Nat} {w : World} {p : Nat} {v : Value} {b : Option Addr} {c : Nat} {L : List Rg} (S : PSt B w p v b c L) (hf : L.length ≤ 2097152) (ot : Bool) (rl rh x : Int) :
    Calls Try.prog 16 #[.pointer (some ⟨p, 0, none⟩), .slice b L.length c, .agg #[.int .i64 9, .bool ot, .int .u64 rl, .int .u64 rh, .int .u64 x]] w fun e w' => DoAns B w w' p v (.slice b L.length c) L.length e := by
  have HS := hid S
  have hbx := below_box w (.cells #[.int .i64 9, .bool ot, .int .u64 rl, .int .u64 rh, .int .u64 x] 46)
  have c0 := op_cells w 9 ot rl rh x 0 _ rfl
  have HBX := hid hbx
  obtain ⟨av, cv, rfl, hV⟩ := S.view hf
  have hI := is_any (cb := c) (hV.kept hbx) S.fit (S.cells.kept hbx) (by omega)
  clear S hbx hV
  go_enter Try.func16, Try.ntmps16
  go_wp2_with fail
  refine hI.mono ?_
  rintro e w1 ⟨rfl, hb1⟩
  have HB1 := hid (HBX.out.trans (hb1.mono HBX.out.size))
  clear hb1 hI c0
  go_wp2_with fail
  refine bodyPost_ret (results_tmp3 Try.results16 _ _ _) rfl ?_
  exact do_same HS.out HB1.out _ (by first | rfl | simp)
set_option maxHeartbeats 4000000 in
/-- Any other kind. -/
theorem do_other {B : Nat} {w : World} {p : Nat} {v : Value} {b : Option Addr} {c : Nat} {L : List Rg} (S : PSt B w p v b c L) (k : Int) (hk : ¬ (1 ≤ k ∧ k ≤ 10)) (ot : Bool) (rl rh x : Int) :
    Calls Try.prog 16 #[.pointer (some ⟨p, 0, none⟩), .slice b L.length c, .agg #[.int .i64 k, .bool ot, .int .u64 rl, .int .u64 rh, .int .u64 x]] w fun e w' => DoAns B w w' p v (.slice b L.length c) L.length e := by
  have HS := hid S
  have hbx := below_box w (.cells #[.int .i64 k, .bool ot, .int .u64 rl, .int .u64 rh, .int .u64 x] 46)
  have c0 := op_cells w k ot rl rh x 0 _ rfl
  have HBX := hid hbx
  have n1 : (k == 1) = false := by simp; omega
  have n2 : (k == 2) = false := by simp; omega
  have n3 : (k == 3) = false := by simp; omega
  have n4 : (k == 4) = false := by simp; omega
  have n5 : (k == 5) = false := by simp; omega
  have n6 : (k == 6) = false := by simp; omega
  have n7 : (k == 7) = false := by simp; omega
  have n8 : (k == 8) = false := by simp; omega
  have n9 : (k == 9) = false := by simp; omega
  have n10 : (k == 10) = false := by simp; omega
  clear S hbx hk
  go_enter Try.func16, Try.ntmps16
  go_wp2_with fail
  refine bodyPost_ret (results_tmp3 Try.results16 _ _ _) rfl ?_
  exact do_same HS.out HBX.out _ rfl
end Go.Proofs.Ytjbjaklbckhodab
namespace Go.Proofs.Ytjbjaklbckhodab
open Go.RowKit
set_option maxRecDepth 100000

set_option maxHeartbeats 4000000 in
/-- Gap. -/
theorem do_gap {B : Nat} {w : World} {p : Nat} {v : Value} {b : Option Addr} {c : Nat} {L : List Rg} (S : PSt B w p v b c L) (hf : L.length ≤ 2097152) (ot : Bool) (rl rh x : Int) :
    Calls Try.prog 16 #[.pointer (some ⟨p, 0, none⟩), .slice b L.length c, .agg #[.int .i64 5, .bool ot, .int .u64 rl, .int .u64 rh, .int .u64 x]] w fun e w' => DoAns B w w' p v (.slice b L.length c) L.length e := by
  have HS := hid S
  have hbx := below_box w (.cells #[.int .i64 5, .bool ot, .int .u64 rl, .int .u64 rh, .int .u64 x] 46)
  have c0 := op_cells w 5 ot rl rh x 0 _ rfl
  have c4 := op_cells w 5 ot rl rh x 4 _ rfl
  have HBX := hid hbx
  obtain ⟨av, cv, rfl, hV⟩ := S.view hf
  have HV := hid (hV.kept hbx)
  have HC := hid (S.cells.kept hbx)
  have HF := hid S.fit
  have hq : (gapOf L x == gapR L x) = true := by rw [gapR_is S.fit]; simp
  clear S hbx hV
  go_enter Try.func16, Try.ntmps16
  go_upto_region 14 with fail
  obtain ⟨w0, hw0⟩ : ∃ w0, w.alloc (.cells #[.int .i64 5, .bool ot, .int .u64 rl, .int .u64 rh, .int .u64 x] 46) = w0 := ⟨_, rfl⟩
  rw [hw0] at c0 c4 HBX HV HC ⊢
  clear hw0 c0
  have hbd := below_drewN (Below.refl w0.heap.size w0) 1
  have HVd := hid (HV.out.kept hbd)
  have HCd := hid (HC.out.kept hbd)
  have HBd := hid (HBX.out.trans (hbd.mono HBX.out.size))
  have HC4 := hid (cell_kept hbd c4)
  clear hbd HV HC HBX
  go_region_held3 (fun w' => w'.cell? ⟨w.heap.size, 4, none⟩ = some (.int .u64 x)) (go_keep)
    (first
      | (go_at_call 28; refine (gap_any x HVd.out HF.out).mono ?_; rintro e w1 ⟨rfl, hb1⟩; have d4 := cell_kept hb1 HC4.out; have HC1 := hid (HCd.out.kept hb1); have HB1 := hid (HBd.out.trans (hb1.mono HBd.out.size)); clear hb1)
      | (go_at_call 39; refine (rgap_any HC1.out (by omega) x).mono ?_; rintro e w2 ⟨rfl, hb2⟩; have e4 := cell_kept hb2 d4; have HB2 := hid (HB1.out.trans (hb2.mono HB1.out.size)); clear hb2))
  go_wp2_with fail
  refine bodyPost_ret (results_tmp3 Try.results16 _ _ _) rfl ?_
  exact do_same HS.out HB2.out _ (by first | rfl | simp)
set_option maxHeartbeats 4000000 in
/-- With. -/
theorem do_with {B : Nat} {w : World} {p : Nat} {v : Value} {b : Option Addr} {c : Nat} {L : List Rg} (S : PSt B w p v b c L) (hf : L.length ≤ 2097152) (ot : Bool) (rl rh x : Int) (h0 : 0 ≤ rl) (h2 : rh ≤ 18446744073709551615) :
    Calls Try.prog 16 #[.pointer (some ⟨p, 0, none⟩), .slice b L.length c, .agg #[.int .i64 7, .bool ot, .int .u64 rl, .int .u64 rh, .int .u64 x]] w fun e w' => DoAns B w w' p v (.slice b L.length c) L.length e := by
  have HS := hid S
  have hbx := below_box w (.cells #[.int .i64 7, .bool ot, .int .u64 rl, .int .u64 rh, .int .u64 x] 46)
  have c0 := op_cells w 7 ot rl rh x 0 _ rfl
  have c2 := op_cells w 7 ot rl rh x 2 _ rfl
  have c3 := op_cells w 7 ot rl rh x 3 _ rfl
  have c4 := op_cells w 7 ot rl rh x 4 _ rfl
  have HBX := hid hbx
  obtain ⟨av, cv, rfl, hV⟩ := S.view hf
  have HV := hid (hV.kept hbx)
  have HC := hid (S.cells.kept hbx)
  have HF := hid S.fit
  clear S hbx hV
  go_enter Try.func16, Try.ntmps16
  go_upto_region 18 with fail
  obtain ⟨w0, hw0⟩ : ∃ w0, w.alloc (.cells #[.int .i64 7, .bool ot, .int .u64 rl, .int .u64 rh, .int .u64 x] 46) = w0 := ⟨_, rfl⟩
  rw [hw0] at c0 c2 c3 c4 HBX HV HC ⊢
  clear hw0 c0
  have hbd := below_drewN (Below.refl w0.heap.size w0) 1
  have HVd := hid (HV.out.kept hbd)
  have HCd := hid (HC.out.kept hbd)
  have HBd := hid (HBX.out.trans (hbd.mono HBX.out.size))
  have HC2 := hid (cell_kept hbd c2)
  have HC3 := hid (cell_kept hbd c3)
  have HC4 := hid (cell_kept hbd c4)
  clear hbd HV HC HBX
  have hq : (((addL L (rl, rh)).length : Int) == ((addL L (rl, rh)).length : Int)) = true := by simp
  go_region_held3 (fun w' => w'.cell? ⟨w.heap.size, 2, none⟩ = some (.int .u64 rl) ∧ w'.cell? ⟨w.heap.size, 3, none⟩ = some (.int .u64 rh)) (go_keep)
    (first
      | (go_at_call 40; refine (with_any (rl, rh) HVd.out HF.out).mono ?_; rintro e w1 ⟨rfl, hb1⟩; have d2 := cell_kept hb1 HC2.out; have d3 := cell_kept hb1 HC3.out; have HC1 := hid (HCd.out.kept hb1); have HB1 := hid (HBd.out.trans (hb1.mono HBd.out.size)); clear hb1)
      | (go_at_call 32; refine (rplus_any HC1.out HF.out (by omega) (rl, rh) h0 h2).mono ?_; rintro e w2 ⟨v2, rfl, ho2, hb2⟩; obtain ⟨a2, k2, rfl, _⟩ := own_cells ho2; have e2 := cell_kept hb2 d2; have e3 := cell_kept hb2 d3; have HB2 := hid (HB1.out.trans (hb2.mono HB1.out.size)); clear hb2 ho2))
  go_wp2_with fail
  refine bodyPost_ret (results_tmp3 Try.results16 _ _ _) rfl ?_
  exact do_same HS.out HB2.out _ (by first | rfl | simp)
set_option maxHeartbeats 4000000 in
/-- Missing. -/
theorem do_missing {B : Nat} {w : World} {p : Nat} {v : Value} {b : Option Addr} {c : Nat} {L : List Rg} (S : PSt B w p v b c L) (hf : L.length ≤ 2097152) (ot : Bool) (rl rh x : Int) (h0 : 0 ≤ rl) (h1 : rl ≤ 18446744073709551615) (h2 : rh ≤ 18446744073709551615) :
    Calls Try.prog 16 #[.pointer (some ⟨p, 0, none⟩), .slice b L.length c, .agg #[.int .i64 8, .bool ot, .int .u64 rl, .int .u64 rh, .int .u64 x]] w fun e w' => DoAns B w w' p v (.slice b L.length c) L.length e := by
  have HS := hid S
  have hbx := below_box w (.cells #[.int .i64 8, .bool ot, .int .u64 rl, .int .u64 rh, .int .u64 x] 46)
  have c0 := op_cells w 8 ot rl rh x 0 _ rfl
  have c2 := op_cells w 8 ot rl rh x 2 _ rfl
  have c3 := op_cells w 8 ot rl rh x 3 _ rfl
  have c4 := op_cells w 8 ot rl rh x 4 _ rfl
  have HBX := hid hbx
  obtain ⟨av, cv, rfl, hV⟩ := S.view hf
  have HV := hid (hV.kept hbx)
  have HC := hid (S.cells.kept hbx)
  have HF := hid S.fit
  have HMI := hid (missR_is S.fit (rl, rh) h0 h1 h2)
  have hml := (missL_each S.fit (rl, rh) h1).2.2
  clear S hbx hV
  go_enter Try.func16, Try.ntmps16
  go_upto_region 20 with fail
  obtain ⟨w0, hw0⟩ : ∃ w0, w.alloc (.cells #[.int .i64 8, .bool ot, .int .u64 rl, .int .u64 rh, .int .u64 x] 46) = w0 := ⟨_, rfl⟩
  rw [hw0] at c0 c2 c3 c4 HBX HV HC ⊢
  clear hw0 c0
  have hbd := below_drewN (Below.refl w0.heap.size w0) 1
  have HVd := hid (HV.out.kept hbd)
  have HCd := hid (HC.out.kept hbd)
  have HBd := hid (HBX.out.trans (hbd.mono HBX.out.size))
  have HC2 := hid (cell_kept hbd c2)
  have HC3 := hid (cell_kept hbd c3)
  have HC4 := hid (cell_kept hbd c4)
  clear hbd HV HC HBX
  go_region_held3 (fun w' => w'.cell? ⟨w.heap.size, 2, none⟩ = some (.int .u64 rl) ∧ w'.cell? ⟨w.heap.size, 3, none⟩ = some (.int .u64 rh)) (go_keep)
    (first
      | (go_at_call 13; refine (missing_any (rl, rh) h0 h1 (by omega) HVd.out HF.out).mono ?_; rintro e w1 ⟨v1, rfl, ho1, hb1⟩; obtain ⟨a1, k1, rfl, hC1⟩ := own_cells ho1; have d2 := cell_kept hb1 HC2.out; have d3 := cell_kept hb1 HC3.out; have HC1 := hid (HCd.out.kept hb1); have HM1 := hid hC1; have HB1 := hid (HBd.out.trans (hb1.mono HBd.out.size)); clear hb1 ho1 hC1)
      | (go_at_call 38; refine (rmissing_any HC1.out HF.out (by omega) rl rh h0 h1 h2).mono ?_; rintro e w2 ⟨v2, rfl, ho2, hb2⟩; rw [HMI.out] at ho2; obtain ⟨a2, k2, rfl, hC2⟩ := own_cells ho2; have e2 := cell_kept hb2 d2; have e3 := cell_kept hb2 d3; have HM2 := hid (HM1.out.kept hb2); have HN2 := hid hC2; have HB2 := hid (HB1.out.trans (hb2.mono HB1.out.size)); clear hb2 ho2 hC2)
      | (go_at_call 7; refine (same_below HM2.out HN2.out (by omega)).mono ?_; rintro e w3 ⟨rfl, hb3⟩; have f2 := cell_kept hb3 e2; have f3 := cell_kept hb3 e3; have HB3 := hid (HB2.out.trans (hb3.mono HB2.out.size)); clear hb3))
  go_wp2_with fail
  refine bodyPost_ret (results_tmp3 Try.results16 _ _ _) rfl ?_
  exact do_same HS.out HB3.out _ (by first | rfl | simp)
set_option maxHeartbeats 4000000 in
/-- Has, Covers. -/
theorem do_has {B : Nat} {w : World} {p : Nat} {v : Value} {b : Option Addr} {c : Nat} {L : List Rg} (S : PSt B w p v b c L) (hf : L.length ≤ 2097152) (ot : Bool) (rl rh x : Int) (h0 : 0 ≤ rl) (h1 : rl ≤ 18446744073709551615) (h2 : rh ≤ 18446744073709551615) :
    Calls Try.prog 16 #[.pointer (some ⟨p, 0, none⟩), .slice b L.length c, .agg #[.int .i64 4, .bool ot, .int .u64 rl, .int .u64 rh, .int .u64 x]] w fun e w' => DoAns B w w' p v (.slice b L.length c) L.length e := by
  have HS := hid S
  have hbx := below_box w (.cells #[.int .i64 4, .bool ot, .int .u64 rl, .int .u64 rh, .int .u64 x] 46)
  have c0 := op_cells w 4 ot rl rh x 0 _ rfl
  have c2 := op_cells w 4 ot rl rh x 2 _ rfl
  have c3 := op_cells w 4 ot rl rh x 3 _ rfl
  have c4 := op_cells w 4 ot rl rh x 4 _ rfl
  have HBX := hid hbx
  obtain ⟨av, cv, rfl, hV⟩ := S.view hf
  have HV := hid (hV.kept hbx)
  have HC := hid (S.cells.kept hbx)
  have HF := hid S.fit
  have HHA := hid (fun W (V : View W p av cv L) => (has_any x V HF.out).mono (R' := fun e w' => e = .returned (.bool (hasB L x)) ∧ Below W.heap.size W w') (fun e w' ⟨h, hb⟩ => ⟨by rw [h, has_is HF.out], hb⟩))
  have HCO := hid (fun W (V : View W p av cv L) => (covers_any (rl, rh) V HF.out).mono (R' := fun e w' => e = .returned (.bool (((missR L (rl, rh)).length : Int) == 0)) ∧ Below W.heap.size W w') (fun e w' ⟨h, hb⟩ => ⟨by rw [h, ← covers_is HF.out (rl, rh) h0 h1 h2], hb⟩))
  have HRH := hid (fun W (C : Cells W b L) => rhas_any (cap := c) C (by omega) x)
  generalize hasB L x = hx at *
  clear S hbx hV
  go_enter Try.func16, Try.ntmps16
  go_upto_region 12 with fail
  obtain ⟨w0, hw0⟩ : ∃ w0, w.alloc (.cells #[.int .i64 4, .bool ot, .int .u64 rl, .int .u64 rh, .int .u64 x] 46) = w0 := ⟨_, rfl⟩
  rw [hw0] at c0 c2 c3 c4 HBX HV HC ⊢
  clear hw0 c0
  have hbd := below_drewN (Below.refl w0.heap.size w0) 1
  have HVd := hid (HV.out.kept hbd)
  have HCd := hid (HC.out.kept hbd)
  have HBd := hid (HBX.out.trans (hbd.mono HBX.out.size))
  have HC2 := hid (cell_kept hbd c2)
  have HC3 := hid (cell_kept hbd c3)
  have HC4 := hid (cell_kept hbd c4)
  clear hbd HV HC HBX
  have hz : ((((missR L (rl, rh)).length : Int) == 0) == (((missR L (rl, rh)).length : Int) == 0)) = true := by simp
  have hxx : (hx == hx) = true := by simp
  go_region_held3 (fun w' => w'.cell? ⟨w.heap.size, 2, none⟩ = some (.int .u64 rl) ∧ w'.cell? ⟨w.heap.size, 3, none⟩ = some (.int .u64 rh) ∧ w'.cell? ⟨w.heap.size, 4, none⟩ = some (.int .u64 x)) (go_keep)
    (first
      | (go_at_call 27; refine (HHA.out _ HVd.out).mono ?_; rintro e w1 ⟨rfl, hb1⟩; have d2 := cell_kept hb1 HC2.out; have d3 := cell_kept hb1 HC3.out; have d4 := cell_kept hb1 HC4.out; have HC1 := hid (HCd.out.kept hb1); have HV1 := hid (HVd.out.kept hb1); have HB1 := hid (HBd.out.trans (hb1.mono HBd.out.size)); clear hb1)
      | (go_at_call 36; refine (HRH.out _ HC1.out).mono ?_; rintro e w2 ⟨rfl, hb2⟩; have e2 := cell_kept hb2 d2; have e3 := cell_kept hb2 d3; have e4 := cell_kept hb2 d4; have HCx := hid (HC1.out.kept hb2); have HV2 := hid (HV1.out.kept hb2); have HB2 := hid (HB1.out.trans (hb2.mono HB1.out.size)); clear hb2)
      | (go_at_call 37; refine (HCO.out _ HV2.out).mono ?_; rintro e w3 ⟨rfl, hb3⟩; have f2 := cell_kept hb3 e2; have f3 := cell_kept hb3 e3; have f4 := cell_kept hb3 e4; have HCy := hid (HCx.out.kept hb3); have HB3 := hid (HB2.out.trans (hb3.mono HB2.out.size)); clear hb3)
      | (go_at_call 38; refine (rmissing_any HCy.out HF.out (by omega) rl rh h0 h1 h2).mono ?_; rintro e w4 ⟨v4, rfl, ho4, hb4⟩; obtain ⟨a4, k4, rfl, _⟩ := own_cells ho4; have g2 := cell_kept hb4 f2; have g3 := cell_kept hb4 f3; have g4 := cell_kept hb4 f4; have HB4 := hid (HB3.out.trans (hb4.mono HB3.out.size)); clear hb4 ho4))
  go_wp2_with fail
  refine bodyPost_ret (results_tmp3 Try.results16 _ _ _) rfl ?_
  exact do_same HS.out HB4.out _ (by first | rfl | simp)
end Go.Proofs.Ytjbjaklbckhodab
namespace Go.Proofs.Ytjbjaklbckhodab
open Go.RowKit
set_option maxRecDepth 100000

theorem size55 : (Try.prog.info? 55).map (·.size) = some 1 := by kernel_rfl
/-- Two sets are held against each other. -/
theorem eql_sets {w : World} {p q : Nat} {v u : Value} {L M : List Rg} (S : SetAt w p v L) (O : SetAt w q u M) (h : ¬ q = p) : (binOp .eql 26 (.pointer (some ⟨q, 0, none⟩)) (.pointer (some ⟨p, 0, none⟩))).run Try.prog w = .ok (.bool false) w := by
  have hs := size55
  cases hj : Try.prog.info? 55 with
  | none => rw [hj] at hs; cases hs
  | some j =>
    rw [hj] at hs
    simp only [Option.map_some, Option.some.injEq] at hs
    exact run_eql_ptr_other w Try.underlying26 hj (by omega) (fun e => h (congrArg Addr.block e)) O.hp S.hp
/-- A copy is handed on, and the old set was turned. -/
theorem do_copied {B : Nat} {w w1 w3 : World} {p q : Nat} {v v' u : Value} {b : Option Addr} {c : Nat} {L : List Rg} (S : PSt B w p v b c L) (hb1 : Below w.heap.size w w1) (O : Own w.heap.size w1 q u L) (T : Turned w1 w3 p v v')
    (e : Ending) (he : e = .returned (.tuple #[.pointer (some ⟨q, 0, none⟩), .slice b L.length c, .bool true])) : DoAns B w w3 p v (.slice b L.length c) L.length e := by
  have hp := S.set.lt.1
  have hv := S.set.lt.2
  have hB := S.lt
  have hq := O.at_
  have hu := O.row
  have hr := S.row
  have hs1 := hb1.size
  refine ⟨q, u, b, c, L, he, ⟨O.set.other T (by omega) (fun e => by have := hv q e.symm; omega) (fun x hx => ⟨by have := hu x hx; omega, fun e => by have := hu x hx; have := hv x e.symm; omega⟩), S.fit, own_turned (own_below hr hb1) T (fun g hg => ⟨set_no_row S.set S.row hg, fun e => S.apart g e.symm hg⟩), by omega, fun x hx => by have := hu x hx; omega, fun x hx e => by have := hu x hx; have := (hr.lt x e).2; omega⟩, ⟨T.os.trans hb1.os, T.tape.trans hb1.tape, T.output.trans hb1.output, Nat.le_trans hs1 T.size, fun k hk h1 h2 => by rw [T.block k (by omega) h1 h2, hb1.block k hk], .inr hq, fun x hx => .inr (hu x hx), fun x hx => .inl hx⟩, by omega⟩

set_option maxHeartbeats 4000000 in
/-- Copy. -/
theorem do_copy {B : Nat} {w : World} {p : Nat} {v : Value} {b : Option Addr} {c : Nat} {L : List Rg} (S : PSt B w p v b c L) (hf : L.length ≤ 2097152) (ot : Bool) (rl rh x : Int) (h0 : 0 ≤ rl) (h2 : rh ≤ 18446744073709551615) (hx : x ≤ 18446744073709551615) :
    Calls Try.prog 16 #[.pointer (some ⟨p, 0, none⟩), .slice b L.length c, .agg #[.int .i64 10, .bool ot, .int .u64 rl, .int .u64 rh, .int .u64 x]] w fun e w' => DoAns B w w' p v (.slice b L.length c) L.length e := by
  have HS := hid S
  have hbx := below_box w (.cells #[.int .i64 10, .bool ot, .int .u64 rl, .int .u64 rh, .int .u64 x] 46)
  have c0 := op_cells w 10 ot rl rh x 0 _ rfl
  have c2 := op_cells w 10 ot rl rh x 2 _ rfl
  have c3 := op_cells w 10 ot rl rh x 3 _ rfl
  have c4 := op_cells w 10 ot rl rh x 4 _ rfl
  have HBX := hid hbx
  obtain ⟨av, cv, rfl, hV⟩ := S.view hf
  have hCo := copy_any (hV.kept hbx) (by omega)
  have HF := hid S.fit
  have HFA := hid (addL_fit S.fit (rl, rh) h0 h2)
  have HLA := hid (addL_length S.fit (rl, rh))
  have hpl := S.set.lt.1
  have hsz : (w.alloc (.cells #[.int .i64 10, .bool ot, .int .u64 rl, .int .u64 rh, .int .u64 x] 46)).heap.size = w.heap.size + 1 := by simp
  clear S hbx hV
  go_enter Try.func16, Try.ntmps16
  go_wp2_with fail
  refine hCo.mono ?_
  rintro e w1 ⟨q, rfl, u, hO, hb1⟩
  have hq := hO.at_
  have HB1 := hid (HBX.out.trans (hb1.mono HBX.out.size))
  have HO1 : Hid (Own w.heap.size w1 q u L) := ⟨hO.set, by omega, fun y hy => by have := hO.row y hy; omega⟩
  have hES := eql_sets (HS.out.set.kept HB1.out) HO1.out.set (by omega)
  have d2 := cell_kept hb1 c2
  have d3 := cell_kept hb1 c3
  have d4 := cell_kept hb1 c4
  have hA := add_any (HS.out.set.kept HB1.out) HF.out (by omega) (rl, rh) h0 h2
  clear hO hb1 hCo c0 c2 c3 c4
  go_wp2_with fail
  refine hA.mono ?_
  rintro e w2 ⟨rfl, v2, S2, T2⟩
  have hbl := HLA.out
  have hBe := below_any S2 HFA.out (by omega) x hx
  have hc4 : w2.cell? ⟨w.heap.size, 4, none⟩ = some (.int .u64 x) := by
    have hs1 := HB1.out.size
    have hlt : w.heap.size < w1.heap.size := by have := HO1.out.set.lt.1; omega
    have := T2.block w.heap.size hlt (by omega) (fun e => by have := HS.out.set.lt.2 _ e.symm; omega)
    exact (World.cell?_of_block (a := ⟨w.heap.size, 4, none⟩) this).trans d4
  have HT2 := hid T2
  clear S2 T2 hA d2 d3 d4
  go_wp2_with fail
  refine hBe.mono ?_
  rintro e w3 ⟨rfl, v3, S3, T3⟩
  have HT3 := hid (HT2.out.trans T3)
  clear S3 T3 hBe
  go_wp2_with fail
  refine bodyPost_ret (results_tmp3 Try.results16 _ _ _) rfl ?_
  exact do_copied HS.out HB1.out HO1.out HT3.out _ (by first | rfl | simp)
end Go.Proofs.Ytjbjaklbckhodab
namespace Go.Proofs.Ytjbjaklbckhodab
open Go.RowKit
set_option maxRecDepth 100000

def OpV.Ok (o : OpV) : Prop := 0 ≤ o.r.1 ∧ o.r.1 ≤ 18446744073709551615 ∧ o.r.2 ≤ 18446744073709551615 ∧ o.x ≤ 18446744073709551615
/-- One call of the law's do. -/
theorem do_any {B : Nat} {w : World} {p : Nat} {v : Value} {b : Option Addr} {c : Nat} {L : List Rg} (S : PSt B w p v b c L) (hf : L.length ≤ 2097152) (k : Int) (ot : Bool) (rl rh x : Int) (h : OpV.Ok ⟨k, ot, (rl, rh), x⟩) :
    Calls Try.prog 16 #[.pointer (some ⟨p, 0, none⟩), .slice b L.length c, .agg #[.int .i64 k, .bool ot, .int .u64 rl, .int .u64 rh, .int .u64 x]] w fun e w' => DoAns B w w' p v (.slice b L.length c) L.length e := by
  obtain ⟨h0, h1, h2, h3⟩ := h
  simp only at h0 h1 h2 h3
  by_cases hk : 1 ≤ k ∧ k ≤ 10
  · rcases (show k = 1 ∨ k = 2 ∨ k = 3 ∨ k = 4 ∨ k = 5 ∨ k = 6 ∨ k = 7 ∨ k = 8 ∨ k = 9 ∨ k = 10 by omega) with rfl | rfl | rfl | rfl | rfl | rfl | rfl | rfl | rfl | rfl
    · exact do_add S hf ot rl rh x h0 h2
    · exact do_rem S hf ot rl rh x h0 h2
    · exact do_below S hf ot rl rh x h3
    · exact do_has S hf ot rl rh x h0 h1 h2
    · exact do_gap S hf ot rl rh x
    · exact do_count S hf ot rl rh x
    · exact do_with S hf ot rl rh x h0 h2
    · exact do_missing S hf ot rl rh x h0 h1 h2
    · exact do_ranges S hf ot rl rh x
    · exact do_copy S hf ot rl rh x h0 h2 h3
  · exact do_other S k hk ot rl rh x
/-- A set and its list, by their numbers. -/
structure Sp where
  p : Nat
  v : Value
  b : Option Addr
  c : Nat
  L : List Rg
def Sp.lst (s : Sp) : Value := .slice s.b s.L.length s.c
abbrev Sp.At (B : Nat) (w : World) (s : Sp) : Prop := PSt B w s.p s.v s.b s.c s.L
/-- Two sets that know nothing of one another. -/
structure Two (B : Nat) (w : World) (s t : Sp) : Prop where
  fs : s.At B w
  ft : t.At B w
  ne : s.p ≠ t.p
  vs : ∀ x, s.v.ownBlock = some x → t.v.ownBlock ≠ some x ∧ t.lst.ownBlock ≠ some x
  vt : ∀ x, t.v.ownBlock = some x → s.lst.ownBlock ≠ some x
theorem Two.symm {B : Nat} {w : World} {s t : Sp} (h : Two B w s t) : Two B w t s := ⟨h.ft, h.fs, fun e => h.ne e.symm, fun x hx => ⟨fun e => (h.vs x e).1 hx, h.vt x hx⟩, fun x hx => (h.vs x hx).2⟩
theorem Two.kept {B : Nat} {w w' : World} {s t : Sp} (h : Two B w s t) (hb : Below w.heap.size w w') : Two B w' s t := ⟨PSt.kept h.fs hb, PSt.kept h.ft hb, h.ne, h.vs, h.vt⟩
/-- A row that is no set and no list is left as it was. -/
theorem Moved.row {B : Nat} {w w' : World} {s : Sp} {p' : Nat} {v' l' : Value} (S : s.At B w) (M : Moved w w' s.p s.v s.lst p' v' l') {g : Nat} {cs : List Value} {t : TypeId} (R : Row w g cs t) (h1 : t ≠ 55) (h2 : t ≠ 25) : Row w' g cs t := by
  refine R.of_block (M.block g R.lt ?_ ?_)
  · rintro rfl
    have := S.set.hp
    rw [R.at_] at this
    simp at this
    exact h1 this.2
  · intro e
    rcases S.set.own.2 with ⟨hv, _⟩ | ⟨g', cap, cur, hv, _, h3, _⟩
    · rw [hv] at e; simp [Value.ownBlock] at e
    · rw [hv] at e
      simp only [Value.ownBlock, Option.some.injEq] at e
      subst e
      rw [R.at_] at h3
      simp at h3
      exact h2 h3.2
theorem Two.move {B : Nat} {w w' : World} {s t s' : Sp} (h : Two B w s t) (S : s'.At B w') (M : Moved w w' s.p s.v s.lst s'.p s'.v s'.lst) : Two B w' s' t := by
  have hs := h.fs
  have ht := h.ft
  have hp := ht.set.lt.1
  have hv := ht.set.lt.2
  have hl : ∀ x, t.lst.ownBlock = some x → x < w.heap.size := fun x hx => (ht.row.lt x hx).2
  have kv : w'.ownsRow 0 25 2 t.v t.L.length (flat t.L) := by
    refine ⟨ht.set.own.1, ?_⟩
    rcases ht.set.own.2 with h' | ⟨g, cap, cur, hv', h1, h2, h3⟩
    · exact .inl h'
    · refine .inr ⟨g, cap, cur, hv', h1, ?_, h3⟩
      have hg : t.v.ownBlock = some g := by rw [hv']; rfl
      exact (M.block g (hv g hg) (set_no_row hs.set ht.set.own hg) (fun e => (h.vs g e.symm).1 hg)).trans h2
  have kl : w'.ownsRow B 25 2 t.lst t.L.length (flat t.L) := by
    refine ⟨ht.row.1, ?_⟩
    rcases ht.row.2 with h' | ⟨g, cap, cur, hv', h1, h2, h3⟩
    · exact .inl h'
    · refine .inr ⟨g, cap, cur, hv', h1, ?_, h3⟩
      have hg : t.lst.ownBlock = some g := by unfold Sp.lst; rw [hv']; rfl
      exact (M.block g (hl g hg) (set_no_row hs.set ht.row hg) (fun e => (h.vs g e.symm).2 hg)).trans h2
  have kp : w'.heap[t.p]? = some (.cells #[t.v] 55 (0, 0)) := by
    rw [M.block t.p hp (fun e => h.ne e.symm) (fun e => set_no_row ht.set hs.set.own e.symm rfl)]
    exact ht.set.hp
  refine ⟨S, ⟨⟨kp, kv⟩, ht.fit, kl, ht.at_, ht.vrow, ht.apart⟩, ?_, ?_, ?_⟩
  · rcases M.pp with e | e
    · rw [e]; exact h.ne
    · omega
  · intro x hx
    rcases M.vv x hx with e | e
    · exact h.vs x e
    · exact ⟨fun e' => by have := hv x e'; omega, fun e' => by have := hl x e'; omega⟩
  · intro x hx e'
    rcases M.ll x e' with e | e
    · exact h.vt x hx e
    · have := hv x hx; omega
theorem Moved.below {B : Nat} {w w' : World} {s : Sp} {p' : Nat} {v' l' : Value} (S : s.At B w) (M : Moved w w' s.p s.v s.lst p' v' l') : Below B w w' :=
  ⟨M.os, M.tape, M.output, M.size, fun k hk => M.block k (Nat.lt_of_lt_of_le hk S.lt) (by have := S.at_; omega) (fun e => by have := S.vrow k e.symm; omega)⟩
end Go.Proofs.Ytjbjaklbckhodab
