import Derived.Test.YtjbjaklbckhodabDo0
namespace Go.Proofs.Ytjbjaklbckhodab
open Go.RowKit
set_option maxRecDepth 100000

/-- The box that an Op lies in. -/
abbrev opA (k : Int) (ot : Bool) (rl rh x : Int) : Array Value := #[.int .i64 k, .bool ot, .int .u64 rl, .int .u64 rh, .int .u64 x]
theorem op_cells (w : World) (k : Int) (ot : Bool) (rl rh x : Int) (j : Nat) (v : Value) (h : (opA k ot rl rh x)[j]? = some v) : (w.alloc (.cells #[.int .i64 k, .bool ot, .int .u64 rl, .int .u64 rh, .int .u64 x] 46)).cell? ⟨w.heap.size, j, none⟩ = some v := box_cell w 46 _ j v h
/-- What a turned set leaves of the document's list. -/
theorem PSt.row_turned {B : Nat} {w w1 w2 : World} {p : Nat} {v v' : Value} {b : Option Addr} {c : Nat} {L : List Rg} (S : PSt B w p v b c L) (hb : Below w.heap.size w w1) (T : Turned w1 w2 p v v') : Cells w2 b L :=
  own_cells_at (own_turned (own_below S.row hb) T (fun g hg => ⟨set_no_row S.set S.row hg, fun e => S.apart g e.symm hg⟩))

theorem fresh_pos {L : List Rg} (F : Fit L) (r : Rg) (h0 : 0 ≤ r.1) (h1 : r.2 ≤ 18446744073709551615) : 0 ≤ freshOf L r := by
  unfold freshOf
  split
  · omega
  · have := clip_total F r h0 h1 (by omega); omega
theorem clip_pos {L : List Rg} (F : Fit L) (r : Rg) (h0 : 0 ≤ r.1) (h1 : r.2 ≤ 18446744073709551615) : 0 ≤ total (clipL L r) := by
  have h := (total_bd _ (clipL_fit F r h0 h1) _ (Nat.le_refl _)).1
  rw [List.take_length] at h
  exact h
set_option maxHeartbeats 4000000 in
theorem do_add {B : Nat} {w : World} {p : Nat} {v : Value} {b : Option Addr} {c : Nat} {L : List Rg} (S : PSt B w p v b c L) (hf : L.length ≤ 2097152) (ot : Bool) (rl rh x : Int) (h0 : 0 ≤ rl) (h2 : rh ≤ 18446744073709551615) :
    Calls Try.prog 16 #[.pointer (some ⟨p, 0, none⟩), .slice b L.length c, .agg #[.int .i64 1, .bool ot, .int .u64 rl, .int .u64 rh, .int .u64 x]] w fun e w' => DoAns B w w' p v (.slice b L.length c) L.length e := by
  have HS := hid S
  have hbx := below_box w (.cells #[.int .i64 1, .bool ot, .int .u64 rl, .int .u64 rh, .int .u64 x] 46)
  have c0 := op_cells w 1 ot rl rh x 0 _ rfl
  have c2 := op_cells w 1 ot rl rh x 2 _ rfl
  have c3 := op_cells w 1 ot rl rh x 3 _ rfl
  have c4 := op_cells w 1 ot rl rh x 4 _ rfl
  have hPl := rplus_any (cap := c) (S.cells.kept hbx) S.fit (by omega) (rl, rh) h0 h2
  have HBX := hid hbx
  have hT := addL_total S.fit (rl, rh) h0 h2
  have hps := fresh_pos S.fit (rl, rh) h0 h2
  have hbd := total_bd _ (addL_fit S.fit (rl, rh) h0 h2) _ (Nat.le_refl _)
  have hbl := total_bd _ S.fit _ (Nat.le_refl _)
  rw [List.take_length] at hbd hbl
  have HFN := hid (addL_fit S.fit (rl, rh) h0 h2)
  have HLN := hid (addL_length S.fit (rl, rh))
  have HFL := hid S.fit
  clear S hbx
  go_enter Try.func16, Try.ntmps16
  go_wp2_with fail
  refine hPl.mono ?_
  rintro e w1 ⟨v1, rfl, ho1, hb1⟩
  have HB1 := hid (HBX.out.trans (hb1.mono HBX.out.size))
  have d0 := cell_kept hb1 c0
  have d2 := cell_kept hb1 c2
  have d3 := cell_kept hb1 c3
  have d4 := cell_kept hb1 c4
  have hlN := HLN.out
  obtain ⟨a1, k1, rfl, hC1⟩ := own_cells ho1
  have HO1 := hid (owns_mono ho1 HBX.out.size)
  have hA := add_any (HS.out.set.kept HB1.out) HFL.out (by omega) (rl, rh) h0 h2
  clear hb1 ho1 hC1 hPl c0 c2 c3 c4
  go_wp2_with fail
  refine hA.mono ?_
  rintro e w2 ⟨rfl, v', S2, T2⟩
  have HCL := hid (HS.out.row_turned HB1.out T2)
  have HCN : Hid (Cells w2 a1 (addL L (rl, rh))) := own_cells_at (own_turned HO1.out T2 (fun g hg => ⟨by have := own_ge HO1.out hg; have := HS.out.set.lt.1; omega, fun e => by have := own_ge HO1.out hg; have := HS.out.set.lt.2 g e.symm; omega⟩))
  have HS2 := hid S2
  have HT2 := hid T2
  clear S2 T2 hA d0 d2 d3 d4
  go_wp2_with fail
  refine (rcount_any HCN.out HFN.out (by omega)).mono ?_
  rintro e w3 ⟨rfl, hb3⟩
  have HCL3 := hid (HCL.out.kept hb3)
  have HCN3 := hid (HCN.out.kept hb3)
  have HB3 := hid hb3
  clear hb3 HCL HCN
  go_wp2_with fail
  refine (rcount_any HCL3.out HFL.out (by omega)).mono ?_
  rintro e w4 ⟨rfl, hb4⟩
  have HB4 := hid (HB3.out.trans (hb4.mono HB3.out.size))
  clear hb4
  generalize total (addL L (rl, rh)) = tn at *
  generalize total L = tl at *
  generalize freshOf L (rl, rh) = fr at *
  have hq : (fr == tn - tl) = true := by simp; omega
  have hq0 : 0 ≤ tn - tl ∧ tn - tl ≤ 18446744073709551615 := by omega
  go_wp2_with fail
  refine bodyPost_ret (results_tmp3 Try.results16 _ _ _) rfl ?_
  exact do_turned HS.out HB1.out HS2.out HT2.out HB4.out HFN.out HO1.out (by omega) _ (by first | rfl | (simp; done) | (simp; omega))
set_option maxHeartbeats 4000000 in
theorem do_rem {B : Nat} {w : World} {p : Nat} {v : Value} {b : Option Addr} {c : Nat} {L : List Rg} (S : PSt B w p v b c L) (hf : L.length ≤ 2097152) (ot : Bool) (rl rh x : Int) (h0 : 0 ≤ rl) (h2 : rh ≤ 18446744073709551615) :
    Calls Try.prog 16 #[.pointer (some ⟨p, 0, none⟩), .slice b L.length c, .agg #[.int .i64 2, .bool ot, .int .u64 rl, .int .u64 rh, .int .u64 x]] w fun e w' => DoAns B w w' p v (.slice b L.length c) L.length e := by
  have HS := hid S
  have hbx := below_box w (.cells #[.int .i64 2, .bool ot, .int .u64 rl, .int .u64 rh, .int .u64 x] 46)
  have c0 := op_cells w 2 ot rl rh x 0 _ rfl
  have c2 := op_cells w 2 ot rl rh x 2 _ rfl
  have c3 := op_cells w 2 ot rl rh x 3 _ rfl
  have c4 := op_cells w 2 ot rl rh x 4 _ rfl
  have hPl := rminus_any (cap := c) (S.cells.kept hbx) (by omega) rl rh
  have HBX := hid hbx
  have hT := remL_total S.fit (rl, rh)
  have hps := clip_pos S.fit (rl, rh) h0 h2
  have hbd := total_bd _ (remL_fit S.fit (rl, rh) h0 h2) _ (Nat.le_refl _)
  have hbl := total_bd _ S.fit _ (Nat.le_refl _)
  rw [List.take_length] at hbd hbl
  have HFN := hid (remL_fit S.fit (rl, rh) h0 h2)
  have HLN := hid (remL_length S.fit (rl, rh))
  have HFL := hid S.fit
  clear S hbx
  go_enter Try.func16, Try.ntmps16
  go_wp2_with fail
  refine hPl.mono ?_
  rintro e w1 ⟨v1, rfl, ho1, hb1⟩
  rw [minus_rem HFL.out (rl, rh) h0 h2] at ho1
  have HB1 := hid (HBX.out.trans (hb1.mono HBX.out.size))
  have d0 := cell_kept hb1 c0
  have d2 := cell_kept hb1 c2
  have d3 := cell_kept hb1 c3
  have d4 := cell_kept hb1 c4
  have hlN := HLN.out
  obtain ⟨a1, k1, rfl, hC1⟩ := own_cells ho1
  have HO1 := hid (owns_mono ho1 HBX.out.size)
  have hA := rem_any (HS.out.set.kept HB1.out) HFL.out (by omega) (rl, rh) h0 h2
  clear hb1 ho1 hC1 hPl c0 c2 c3 c4
  go_wp2_with fail
  refine hA.mono ?_
  rintro e w2 ⟨rfl, v', S2, T2⟩
  have HCL := hid (HS.out.row_turned HB1.out T2)
  have HCN : Hid (Cells w2 a1 (remL L (rl, rh))) := own_cells_at (own_turned HO1.out T2 (fun g hg => ⟨by have := own_ge HO1.out hg; have := HS.out.set.lt.1; omega, fun e => by have := own_ge HO1.out hg; have := HS.out.set.lt.2 g e.symm; omega⟩))
  have HS2 := hid S2
  have HT2 := hid T2
  clear S2 T2 hA d0 d2 d3 d4
  go_wp2_with fail
  refine (rcount_any HCL.out HFL.out (by omega)).mono ?_
  rintro e w3 ⟨rfl, hb3⟩
  have HCL3 := hid (HCL.out.kept hb3)
  have HCN3 := hid (HCN.out.kept hb3)
  have HB3 := hid hb3
  clear hb3 HCL HCN
  go_wp2_with fail
  refine (rcount_any HCN3.out HFN.out (by omega)).mono ?_
  rintro e w4 ⟨rfl, hb4⟩
  have HB4 := hid (HB3.out.trans (hb4.mono HB3.out.size))
  clear hb4
  generalize total (remL L (rl, rh)) = tn at *
  generalize total L = tl at *
  generalize total (clipL L (rl, rh)) = fr at *
  have hq : (fr == tl - tn) = true := by simp; omega
  have hq0 : 0 ≤ tl - tn ∧ tl - tn ≤ 18446744073709551615 := by omega
  go_wp2_with fail
  refine bodyPost_ret (results_tmp3 Try.results16 _ _ _) rfl ?_
  exact do_turned HS.out HB1.out HS2.out HT2.out HB4.out HFN.out HO1.out (by omega) _ (by first | rfl | (simp; done) | (simp; omega))
set_option maxHeartbeats 4000000 in
theorem do_below {B : Nat} {w : World} {p : Nat} {v : Value} {b : Option Addr} {c : Nat} {L : List Rg} (S : PSt B w p v b c L) (hf : L.length ≤ 2097152) (ot : Bool) (rl rh x : Int) (hx : x ≤ 18446744073709551615) :
    Calls Try.prog 16 #[.pointer (some ⟨p, 0, none⟩), .slice b L.length c, .agg #[.int .i64 3, .bool ot, .int .u64 rl, .int .u64 rh, .int .u64 x]] w fun e w' => DoAns B w w' p v (.slice b L.length c) L.length e := by
  have HS := hid S
  have hbx := below_box w (.cells #[.int .i64 3, .bool ot, .int .u64 rl, .int .u64 rh, .int .u64 x] 46)
  have c0 := op_cells w 3 ot rl rh x 0 _ rfl
  have c2 := op_cells w 3 ot rl rh x 2 _ rfl
  have c3 := op_cells w 3 ot rl rh x 3 _ rfl
  have c4 := op_cells w 3 ot rl rh x 4 _ rfl
  have hPl := rminus_any (cap := c) (S.cells.kept hbx) (by omega) 0 x
  have HBX := hid hbx
  have hT := remL_total S.fit (0, x)
  have hps := clip_pos S.fit (0, x) (Int.le_refl _) hx
  have hbd := total_bd _ (remL_fit S.fit (0, x) (Int.le_refl _) hx) _ (Nat.le_refl _)
  have hbl := total_bd _ S.fit _ (Nat.le_refl _)
  rw [List.take_length] at hbd hbl
  have HFN := hid (remL_fit S.fit (0, x) (Int.le_refl _) hx)
  have HLN := hid (remL_length S.fit (0, x))
  have HFL := hid S.fit
  clear S hbx
  go_enter Try.func16, Try.ntmps16
  go_wp2_with fail
  refine hPl.mono ?_
  rintro e w1 ⟨v1, rfl, ho1, hb1⟩
  rw [minus_rem HFL.out (0, x) (Int.le_refl _) hx] at ho1
  have HB1 := hid (HBX.out.trans (hb1.mono HBX.out.size))
  have d0 := cell_kept hb1 c0
  have d2 := cell_kept hb1 c2
  have d3 := cell_kept hb1 c3
  have d4 := cell_kept hb1 c4
  have hlN := HLN.out
  obtain ⟨a1, k1, rfl, hC1⟩ := own_cells ho1
  have HO1 := hid (owns_mono ho1 HBX.out.size)
  have hA := below_any (HS.out.set.kept HB1.out) HFL.out (by omega) x hx
  clear hb1 ho1 hC1 hPl c0 c2 c3 c4
  go_wp2_with fail
  refine hA.mono ?_
  rintro e w2 ⟨rfl, v', S2, T2⟩
  have HCL := hid (HS.out.row_turned HB1.out T2)
  have HCN : Hid (Cells w2 a1 (remL L (0, x))) := own_cells_at (own_turned HO1.out T2 (fun g hg => ⟨by have := own_ge HO1.out hg; have := HS.out.set.lt.1; omega, fun e => by have := own_ge HO1.out hg; have := HS.out.set.lt.2 g e.symm; omega⟩))
  have HS2 := hid S2
  have HT2 := hid T2
  clear S2 T2 hA d0 d2 d3 d4
  go_wp2_with fail
  refine (rcount_any HCL.out HFL.out (by omega)).mono ?_
  rintro e w3 ⟨rfl, hb3⟩
  have HCL3 := hid (HCL.out.kept hb3)
  have HCN3 := hid (HCN.out.kept hb3)
  have HB3 := hid hb3
  clear hb3 HCL HCN
  go_wp2_with fail
  refine (rcount_any HCN3.out HFN.out (by omega)).mono ?_
  rintro e w4 ⟨rfl, hb4⟩
  have HB4 := hid (HB3.out.trans (hb4.mono HB3.out.size))
  clear hb4
  generalize total (remL L (0, x)) = tn at *
  generalize total L = tl at *
  generalize total (clipL L (0, x)) = fr at *
  have hq : (fr == tl - tn) = true := by simp; omega
  have hq0 : 0 ≤ tl - tn ∧ tl - tn ≤ 18446744073709551615 := by omega
  go_wp2_with fail
  refine bodyPost_ret (results_tmp3 Try.results16 _ _ _) rfl ?_
  exact do_turned HS.out HB1.out HS2.out HT2.out HB4.out HFN.out HO1.out (by omega) _ (by first | rfl | (simp; done) | (simp; omega))
end Go.Proofs.Ytjbjaklbckhodab
