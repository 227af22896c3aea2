import Derived.Test.YtdbdiebgjnofgaaBl1
namespace Go.Proofs.Ytdbdiebgjnofgaa
open Go.RowKit Go.Maps Go.Sort
set_option maxRecDepth 100000

abbrev pt0 (f win : Int) : Pv := ⟨true, false, true, f, win, win, false, ⟨0, 0, false, ⟨none, 0, 0⟩, false⟩⟩
abbrev pt1 (s wide i : Int) : Pv := ⟨true, false, true, s, wide, i, false, ⟨0, 0, false, ⟨none, 0, 0⟩, false⟩⟩
abbrev ptw (g : Nat) (f s win wide i off edge m : Int) : Vw := ⟨some ⟨g, 0, none⟩, 2, [pt0 f win, pt1 s wide i], true, ⟨off, 1, false, ⟨none, 0, 0⟩, false⟩, edge, m⟩
/-- What Blest decides over two paths, the quicker one being full. -/
theorem ble_pt (g : Nat) (f s win wide i off left m : Int) (f1 : 1 ≤ f) (fs : f ≤ s) (s1 : s ≤ 60000) (w1 : 1 ≤ win) (w2 : win ≤ 256) (v1 : i < wide) (i0 : 0 ≤ i) (i1 : i ≤ 256) (hw : 1 ≤ wide) (l0 : 0 ≤ left) (m1 : 1 ≤ m) (m2 : m ≤ 1024) :
    bleO (ptw g f s win wide i off (off + left) m) = if left < m * (2 * win + (s + f - 1) / f - 1) * ((s + f - 1) / f) / 2 + m * (i + 1) then none else some ⟨1, off, 1⟩ := by
  have e1 : (pt0 f win).time = f := by simp only [Pv.time, if_true]; omega
  have e2 : (pt1 s wide i).time = s := by simp only [Pv.time, if_true]; omega
  have eo : oth [pt0 f win, pt1 s wide i] = true := rfl
  have c0 : (pt0 f win).call true = true := rfl
  have c1 : (pt1 s wide i).call true = true := rfl
  have r0 : (pt0 f win).room = false := by simp [Pv.room]
  have r1 : (pt1 s wide i).room = true := by simp [Pv.room, hw, v1]
  have t0 : wid [pt0 f win, pt1 s wide i] (pt0 f win) = true := by simp [wid, eo, c0, w1]
  have t1 : wid [pt0 f win, pt1 s wide i] (pt1 s wide i) = true := by simp [wid, eo, c1, hw]
  have y0 : rdy [pt0 f win, pt1 s wide i] (pt0 f win) = false := by simp [rdy, r0]
  have y1 : rdy [pt0 f win, pt1 s wide i] (pt1 s wide i) = true := by simp [rdy, eo, c1, r1]
  have p0 : pth [pt0 f win, pt1 s wide i] 0 = pt0 f win := rfl
  have p1 : pth [pt0 f win, pt1 s wide i] 1 = pt1 s wide i := rfl
  have wd : (ptw g f s win wide i off (off + left) m).widest = 0 := by
    show bst _ _ _ 2 = 0
    have h1 : bst (wid [pt0 f win, pt1 s wide i]) Pv.time [pt0 f win, pt1 s wide i] 1 = 0 := by
      rw [bst, bst, p0, t0]; simp
    rw [bst, h1, p1, t1]
    have h2 : decide ((pt1 s wide i).time < (pth [pt0 f win, pt1 s wide i] (0 : Int).toNat).time) = false := by
      show decide ((pt1 s wide i).time < (pt0 f win).time) = false
      rw [e1, e2]; simpa using fs
    rw [h2]; rfl
  have fd : (ptw g f s win wide i off (off + left) m).fastest = 1 := by
    show bst _ _ _ 2 = 1
    have h1 : bst (rdy [pt0 f win, pt1 s wide i]) Pv.time [pt0 f win, pt1 s wide i] 1 = -1 := by
      rw [bst, bst, p0, y0]; simp
    rw [bst, h1, p1, y1]; simp
  have ha : (ptw g f s win wide i off (off + left) m).ahead = left := by
    simp only [Vw.ahead]; rw [if_neg (by omega)]; omega
  have hr : rounds (pt0 f win) (pt1 s wide i) = (s + f - 1) / f := by unfold rounds; rw [e1, e2]
  have hh : holds (ptw g f s win wide i off (off + left) m) (pt0 f win) (pt1 s wide i) = decide (left < m * (2 * win + (s + f - 1) / f - 1) * ((s + f - 1) / f) / 2 + m * (i + 1)) := by
    unfold holds
    rw [ha, hr]
    have g1 : min (max m 1) 1024 = m := by omega
    have g2 : frm win = win := by unfold frm; omega
    have g3 : frm i = i := by unfold frm; omega
    show decide (left < min (max m 1) 1024 * (2 * frm win + (s + f - 1) / f - 1) * ((s + f - 1) / f) / 2 + min (max m 1) 1024 * (frm i + 1)) = _
    rw [g1, g2, g3]
  unfold bleO
  rw [wd, fd]
  show (if true = true then _ else _) = _
  rw [if_pos rfl, if_neg (by decide)]
  show (if (pt0 f win).room = true then _ else if (1 : Int) < 0 then _ else if holds _ (pt0 f win) (pt1 s wide i) = true then _ else _) = _
  rw [r0, if_neg (by decide), if_neg (by decide), hh]
  by_cases hc : left < m * (2 * win + (s + f - 1) / f - 1) * ((s + f - 1) / f) / 2 + m * (i + 1)
  · rw [if_pos (by simpa using hc), if_pos hc]
  · rw [if_neg (by simpa using hc), if_neg hc]
theorem tmod_bd (x k : Int) (hk : 0 < k) : 0 ≤ (IntKind.u64.wrap x).tmod k ∧ (IntKind.u64.wrap x).tmod k ≤ k - 1 := by
  have h : 0 ≤ IntKind.u64.wrap x := by rw [IntKind.wrap_u64]; omega
  rw [Int.tmod_eq_emod_of_nonneg h]
  have := Int.emod_nonneg (IntKind.u64.wrap x) (show k ≠ 0 by omega)
  have := Int.emod_lt_of_pos (IntKind.u64.wrap x) hk
  omega
theorem eg63 : ∀ args w, (callFunc 63 args).run Try.prog w = .ok (.enter 63 args) w := enters_of Try.func63 (by kernel_rfl) rfl
theorem next3_any {w : World} {s : Nat} {V : Vw} (h : VwAt w V) (h0 : 0 ≤ V.want.off) (h1 : V.edge ≤ 18446744073709551615) (hs : Row w s [.iface 65 (.agg #[])] 33) : Calls Try.prog 11 #[.pointer (some ⟨s, 0, none⟩), V.val] w fun e w' => e = .returned (pkv (bleO V)) ∧ Below w.heap.size w w' :=
  (next_by (T := 65) (f := 63) (S := fun _ => False) (R := fun _ => True) (hs.cell 0 _ rfl) (fun _ => by kernel_rfl) eg63 (fun _ e => e.elim) (fun _ _ _ _ => trivial) (fun e => e)
    (fun w' hb => (ble_any (h.kept hb) h0 h1).mono (by rintro e w2 ⟨rfl, hb2⟩; exact ⟨rfl, fr0 hb2, trivial⟩))).mono (by rintro e w2 ⟨rfl, hf, _⟩; exact ⟨rfl, below_fr hf (fun _ e => e)⟩)
set_option maxHeartbeats 4000000 in
theorem patient_any (w : World) (x0 x1 x2 x3 x4 x5 x6 x7 : Int) (h0 : 0 ≤ x0) (h1 : 0 ≤ x1) (h6 : 0 ≤ x6) (h7 : 0 ≤ x7) :
    Calls Try.prog 4 #[.int .u64 x0, .int .u64 x1, .int .i64 x2, .int .i64 x3, .int .i64 x4, .int .i64 x5, .int .u64 x6, .int .u64 x7] w fun e w' => e = .returned (.bool true) ∧ Below w.heap.size w w' := by
  have b2 := tmod_bd x2 256 (by decide)
  have b4 := tmod_bd x4 256 (by decide)
  have b5 := tmod_bd x5 1024 (by decide)
  generalize hm2 : (IntKind.u64.wrap x2).tmod 256 = m2 at *
  generalize hm4 : (IntKind.u64.wrap x4).tmod 256 = m4 at *
  generalize hm5 : (IntKind.u64.wrap x5).tmod 1024 = m5 at *
  have b3 := tmod_bd x3 (1 + m4) (by omega)
  generalize hm3 : (IntKind.u64.wrap x3).tmod (1 + m4) = m3 at *
  have b0 : 0 ≤ x0 % 60000 ∧ x0 % 60000 ≤ 59999 := by omega
  generalize hm0 : x0 % 60000 = m0 at *
  have b1 : 0 ≤ x1 % (60001 - (1 + m0)) ∧ x1 % (60001 - (1 + m0)) ≤ 59999 - m0 := by
    have := Int.emod_nonneg x1 (show 60001 - (1 + m0) ≠ 0 by omega)
    have := Int.emod_lt_of_pos x1 (show 0 < 60001 - (1 + m0) by omega)
    omega
  generalize hm1 : x1 % (60001 - (1 + m0)) = m1 at *
  have b6 : 0 ≤ x6 % 4611686018427387904 ∧ x6 % 4611686018427387904 ≤ 4611686018427387903 := by omega
  generalize hm6 : x6 % 4611686018427387904 = m6 at *
  have b7 : 0 ≤ x7 % 1099511627776 ∧ x7 % 1099511627776 ≤ 1099511627775 := by omega
  generalize hm7 : x7 % 1099511627776 = m7 at *
  obtain ⟨b01, b02⟩ := b0
  obtain ⟨b11, b12⟩ := b1
  obtain ⟨b21, b22⟩ := b2
  obtain ⟨b31, b32⟩ := b3
  obtain ⟨b41, b42⟩ := b4
  obtain ⟨b51, b52⟩ := b5
  obtain ⟨b61, b62⟩ := b6
  obtain ⟨b71, b72⟩ := b7
  have hd : (1 : Int) ≤ 60001 - (1 + m0) := by omega
  have u1 : IntKind.u64.wrap (1 + m0 + m1) = 1 + m0 + m1 := wrapu _ (by omega) (by omega)
  have u4 : IntKind.u64.wrap (1 + m4) = 1 + m4 := wrapu _ (by omega) (by omega)
  go_enter Try.func4, Try.ntmps4
  go_upto_region 9 with fail
  rw [hm6, hm7]
  obtain ⟨f, hf⟩ : ∃ f, f = 1 + m0 := ⟨_, rfl⟩
  obtain ⟨sl, hsl⟩ : ∃ sl, sl = f + m1 := ⟨_, rfl⟩
  obtain ⟨win, hwin⟩ : ∃ win, win = 1 + m2 := ⟨_, rfl⟩
  obtain ⟨wide, hwide⟩ : ∃ wide, wide = 1 + m4 := ⟨_, rfl⟩
  obtain ⟨m, hm⟩ : ∃ m, m = 1 + m5 := ⟨_, rfl⟩
  rw [← hf, ← hsl, ← hwin, ← hwide, ← hm]
  have c1 : 1 ≤ f := by omega
  have c2 : f ≤ sl := by omega
  have c3 : sl ≤ 60000 := by omega
  have c4 : 1 ≤ win := by omega
  have c5 : win ≤ 256 := by omega
  have c6 : m3 < wide := by omega
  have c7 : m3 ≤ 256 := by omega
  have c8 : 1 ≤ wide := by omega
  have c9 : 1 ≤ m := by omega
  have c10 : m ≤ 1024 := by omega
  have HBL := hid (fun g => ble_pt g f sl win wide m3 m6 m7 m c1 c2 c3 c4 c5 c6 b31 c7 c8 b71 c9 c10)
  obtain ⟨R, hR⟩ : ∃ R, R = (sl + f - 1) / f := ⟨_, rfl⟩
  have r1 : 1 ≤ R := by rw [hR, Int.le_ediv_iff_mul_le (by omega)]; omega
  have r2 : R ≤ 60000 := by
    have h3 : (60000 + 1) * f = 60000 * f + f := by omega
    have := Int.ediv_lt_of_lt_mul (show 0 < f by omega) (show sl + f - 1 < (60000 + 1) * f by omega)
    omega
  have e1 : IntKind.u64.wrap (sl + f) = sl + f := wrapu _ (by omega) (by omega)
  have e2 : IntKind.u64.wrap (sl + f - 1) = sl + f - 1 := wrapu _ (by omega) (by omega)
  have e3 : (sl + f - 1).tdiv f = R := by rw [Int.tdiv_eq_ediv_of_nonneg (by omega), hR]
  have e3' : (sl + f - 1) / f = R := hR.symm
  have e4 : IntKind.u64.wrap R = R := wrapu _ (by omega) (by omega)
  have ne : ¬ f = 0 := by omega
  have neb : (f == 0) = false := by simpa using ne
  rw [← hR] at HBL
  have HE : Hid (R = (sl + f - 1) / f) := hR
  obtain ⟨A, hA⟩ : ∃ A, A = m * (2 * win + R - 1) := ⟨_, rfl⟩
  obtain ⟨Bq, hBq⟩ : ∃ Bq, Bq = A * R := ⟨_, rfl⟩
  obtain ⟨C, hC⟩ : ∃ C, C = m * (m3 + 1) := ⟨_, rfl⟩
  have A0 : 0 ≤ A := by rw [hA]; exact Int.mul_nonneg (by omega) (by omega)
  have A1 : A ≤ 1024 * 60511 := by rw [hA]; exact Int.mul_le_mul (by omega) (by omega) (by omega) (by omega)
  have B0 : 0 ≤ Bq := by rw [hBq]; exact Int.mul_nonneg A0 (by omega)
  have B1 : Bq ≤ 61963264 * 60000 := by rw [hBq]; exact Int.mul_le_mul (by omega) (by omega) (by omega) (by omega)
  have C0 : 0 ≤ C := by rw [hC]; exact Int.mul_nonneg (by omega) (by omega)
  have C1 : C ≤ 1024 * 257 := by rw [hC]; exact Int.mul_le_mul (by omega) (by omega) (by omega) (by omega)
  have g0 : IntKind.u64.wrap m = m := wrapu _ (by omega) (by omega)
  have g00 : IntKind.u64.wrap win = win := wrapu _ (by omega) (by omega)
  have f1 : IntKind.u64.wrap (2 * win) = 2 * win := wrapu _ (by omega) (by omega)
  have f2 : IntKind.u64.wrap (2 * win + R) = 2 * win + R := wrapu _ (by omega) (by omega)
  have f3 : IntKind.u64.wrap (2 * win + R - 1) = 2 * win + R - 1 := wrapu _ (by omega) (by omega)
  have f4 : IntKind.u64.wrap (m * (2 * win + R - 1)) = A := by rw [← hA]; exact wrapu _ (by omega) (by omega)
  have f5 : IntKind.u64.wrap (A * R) = Bq := by rw [← hBq]; exact wrapu _ (by omega) (by omega)
  have f6 : Bq.tdiv 2 = Bq / 2 := Int.tdiv_eq_ediv_of_nonneg B0
  have f7 : IntKind.u64.wrap (Bq / 2) = Bq / 2 := wrapu _ (by omega) (by omega)
  have f8 : IntKind.u64.wrap (m3 + 1) = m3 + 1 := wrapu _ (by omega) (by omega)
  have f9 : IntKind.u64.wrap (m * (m3 + 1)) = C := by rw [← hC]; exact wrapu _ (by omega) (by omega)
  have f10 : IntKind.u64.wrap (Bq / 2 + C) = Bq / 2 + C := wrapu _ (by omega) (by omega)
  have f11 : IntKind.u64.wrap (m6 + m7) = m6 + m7 := wrapu _ (by omega) (by omega)
  rw [← hA, ← hBq, ← hC] at HBL
  have HEB := hid (show m6 + m7 ≤ 18446744073709551615 by omega)
  clear hA hBq hC A0 A1 B0 B1 C0 C1 hR r1 r2 hm0 hm1 hm2 hm3 hm4 hm5 hm6 hm7 u1 u4 hd h0 h1 h6 h7 c1 c2 hf hsl hwin hwide hm
  have HN := hid (new3_any w none none 0 0 0 0)
  go_upto_region 12 with (go_at_call 9; refine HN.out.mono ?_; rintro e w1 ⟨hb, s, rfl, hs, hr⟩; have HB := hid hb; have HR := hid hr; clear hb hs hr)
  go_upto_region 16 with fail
  refine wp_world fun W HW => ?_
  have HB1 : Hid (Below w.heap.size w W) := by show Below _ _ _; rw [HW.out]; exact (HB.out.alloc HB.out.size _).alloc (by have := HB.out.size; simp; omega) _
  have HR1 : Hid (Row W s [.iface 65 (.agg #[])] 33) := by show Row _ _ _ _; rw [HW.out]; exact (HR.out.alloc _).alloc _
  have HX : Hid (Row W w1.heap.size (ptw (w1.heap.size + 1) f sl win wide m3 m6 (m6 + m7) m).cells 28) := by show Row _ _ _ _; rw [HW.out]; exact (Row.new _ _ _).alloc _
  have HV : Hid (VwAt W (ptw (w1.heap.size + 1) f sl win wide m3 m6 (m6 + m7) m)) := by
    refine ⟨Row.paths (t := 43) ?_, by simp⟩
    rw [HW.out]
    exact Row.new' _ _ _ _ _ (by simp) rfl
  have b0 := HX.out.cell 0 _ rfl
  have b1 := HX.out.cell 1 _ rfl
  have b2 := HX.out.cell 2 _ rfl
  have b3 := HX.out.cell 3 _ rfl
  have b4 := HX.out.cell 4 _ rfl
  have b5 := HX.out.cell 5 _ rfl
  have b6 := HX.out.cell 6 _ rfl
  have b7 := HX.out.cell 7 _ rfl
  have b8 := HX.out.cell 8 _ rfl
  have hc := next3_any HV.out b61 HEB.out HR1.out
  rw [HBL.out] at hc
  simp only [Vw.val, Vw.cells, List.length_cons, List.length_nil, Nat.zero_add, Nat.reduceAdd] at hc
  simp only [List.length_cons, List.length_nil, Nat.zero_add, Nat.reduceAdd] at b0
  clear HW HX HB HR HN HBL HV HR1 HEB e1 e2 e3 e3' f1 f2 f3 f4 f5 f6 f7 f11 HE
  by_cases hq : m7 < Bq / 2 + C
  · rw [if_pos hq] at hc
    simp only [pkv] at hc
    have HC := hid hc
    clear hc
    go_wp2_with (first
      | (go_at_call 11; refine HC.out.mono ?_; rintro e w2 ⟨rfl, hb2⟩; have HB2 := hid (HB1.out.trans (hb2.mono HB1.out.size)); have HAL := hid (alive_any (w2.alloc (.cells #[.int .i64 0, .int .u64 0, .int .i64 0] 36))); clear hb2 HC)
      | (go_at_call 12; refine HAL.out.mono ?_; rintro e w3 ⟨rfl, hb3⟩; have HB3 := hid ((HB2.out.alloc HB2.out.size _).trans (hb3.mono (by have := HB2.out.size; simp; omega))); clear hb3 HAL))
    go_ret
    exact ⟨rfl, HB3.out⟩
  · rw [if_neg hq] at hc
    simp only [pkv, Pk.cells] at hc
    have HC := hid hc
    clear hc
    go_wp2_with (first
      | (go_at_call 11; refine HC.out.mono ?_; rintro e w2 ⟨rfl, hb2⟩; have HB2 := hid (HB1.out.trans (hb2.mono HB1.out.size)); have HAL := hid (alive_any (w2.alloc (.cells #[.int .i64 1, .int .u64 m6, .int .i64 1] 36))); clear hb2 HC)
      | (go_at_call 12; refine HAL.out.mono ?_; rintro e w3 ⟨rfl, hb3⟩; have HB3 := hid ((HB2.out.alloc HB2.out.size _).trans (hb3.mono (by have := HB2.out.size; simp; omega))); clear hb3 HAL))
    go_ret
    exact ⟨rfl, HB3.out⟩
end Go.Proofs.Ytdbdiebgjnofgaa
