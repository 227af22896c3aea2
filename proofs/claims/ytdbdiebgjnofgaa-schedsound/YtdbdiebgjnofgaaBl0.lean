import Derived.Test.YtdbdiebgjnofgaaSd9
namespace Go.Proofs.Ytdbdiebgjnofgaa
open Go.RowKit Go.Maps Go.Sort
set_option maxRecDepth 100000

theorem wrapu (x : Int) (h0 : 0 ≤ x) (h1 : x ≤ 18446744073709551615) : IntKind.u64.wrap x = x := by rw [IntKind.wrap_u64]; omega
def frm (n : Int) : Int := min (max n 0) 256
theorem frm_bd (n : Int) : 0 ≤ frm n ∧ frm n ≤ 256 := by unfold frm; omega
theorem frames_any (w : World) (n : Int) : Calls Try.prog 66 #[.int .i64 n] w fun e w' => e = .returned (.int .u64 (frm n)) ∧ w' = w := by
  have e1 : IntKind.u64.wrap (min (max n 0) 256) = frm n := by rw [wrapu _ (by omega) (by omega)]; rfl
  go_enter Try.func66, Try.ntmps66
  go_wp2
  go_ret
  exact ⟨rfl, rfl⟩
def Vw.ahead (V : Vw) : Int := if V.edge < V.want.off then 0 else V.edge - V.want.off
set_option maxHeartbeats 1000000 in
theorem ahead_any (w : World) (V : Vw) (h0 : 0 ≤ V.want.off) (h1 : V.edge ≤ 18446744073709551615) : Calls Try.prog 67 #[V.val] w fun e w' => e = .returned (.int .u64 V.ahead) ∧ Below w.heap.size w w' := by
  obtain ⟨a, cap, L, has, want, edge, mss⟩ := V
  simp only [Vw.val, Vw.cells, Vw.ahead] at h0 h1 ⊢
  have HB := hid (below_grow (Below.refl w.heap.size w) (.cells #[.slice a L.length cap, .bool has, .int .u64 want.off, .int .i64 want.len, .bool want.fin, .slice want.on.a want.on.n want.on.c, .bool want.held, .int .u64 edge, .int .i64 mss] 28))
  by_cases h : edge < want.off
  · rw [if_pos h]
    go_enter Try.func67, Try.ntmps67
    go_wp2
    go_ret
    exact ⟨rfl, HB.out⟩
  · rw [if_neg h]
    have e1 := wrapu (edge - want.off) (by omega) (by omega)
    go_enter Try.func67, Try.ntmps67
    go_wp2
    go_ret
    exact ⟨rfl, HB.out⟩
def rounds (f s : Pv) : Int := (s.time + f.time - 1) / f.time
def holds (V : Vw) (f s : Pv) : Bool := decide (V.ahead < min (max V.mss 1) 1024 * (2 * frm f.w + rounds f s - 1) * rounds f s / 2 + min (max V.mss 1) 1024 * (frm s.i + 1))
theorem rounds_bd (f s : Pv) : 1 ≤ rounds f s ∧ rounds f s ≤ 60000 := by
  have h1 := f.time_bd
  have h2 := s.time_bd
  unfold rounds
  refine ⟨?_, ?_⟩
  · rw [Int.le_ediv_iff_mul_le (by omega)]; omega
  · have : s.time + f.time - 1 < (60000 + 1) * f.time := by
      have h3 : (60000 + 1) * f.time = 60000 * f.time + f.time := by omega
      have h4 : 60000 ≤ 60000 * f.time := by omega
      omega
    have := Int.ediv_lt_of_lt_mul (by omega) this
    omega
set_option maxHeartbeats 4000000 in
theorem holds_any (w : World) (V : Vw) (f s : Pv) (h0 : 0 ≤ V.want.off) (h1 : V.edge ≤ 18446744073709551615) : Calls Try.prog 65 #[V.val, f.val, s.val] w fun e w' => e = .returned (.bool (holds V f s)) ∧ Below w.heap.size w w' := by
  have HA := hid (fun w => ahead_any w V h0 h1)
  have HTF := fun W => hid (toK (n := 49) (args := #[f.val]) (v := .int .u64 f.time) (w := W) (fun w' hb => time_any w' f))
  have HTS := fun W => hid (toK (n := 49) (args := #[s.val]) (v := .int .u64 s.time) (w := W) (fun w' hb => time_any w' s))
  have tf := f.time_bd
  have ts := s.time_bd
  have rb := rounds_bd f s
  obtain ⟨H0, hH0⟩ : ∃ H0, H0 = holds V f s := ⟨_, rfl⟩
  rw [← hH0]
  unfold holds at hH0
  have HH := hid hH0
  clear hH0
  have hrd : rounds f s = (s.time + f.time - 1) / f.time := rfl
  generalize rounds f s = R at *
  generalize f.time = tF at *
  generalize s.time = tS at *
  generalize V.ahead = ah at *
  obtain ⟨a, cap, L, has, want, edge, mss⟩ := V
  obtain ⟨u, b, k, sr, wi, i, h, off, len, fin, on, held⟩ := f
  obtain ⟨u', b', k', sr', wi', i', h', off', len', fin', on', held'⟩ := s
  simp only [Vw.val, Vw.cells, Pv.val, Pv.cells] at HA HTF HTS HH ⊢
  have em : IntKind.u64.wrap (min (max mss 1) 1024) = min (max mss 1) 1024 := wrapu _ (by omega) (by omega)
  have bm : 1 ≤ min (max mss 1) 1024 ∧ min (max mss 1) 1024 ≤ 1024 := by omega
  go_enter Try.func65, Try.ntmps65
  go_upto_region 2 with fail
  refine wp_world fun W HW => ?_
  obtain ⟨x, hx⟩ : ∃ x, x = w.heap.size := ⟨_, rfl⟩
  obtain ⟨y, hy⟩ : ∃ y, y = w.heap.size + 1 := ⟨_, rfl⟩
  obtain ⟨z, hz⟩ : ∃ z, z = w.heap.size + 1 + 1 := ⟨_, rfl⟩
  have HB0 : Hid (Below w.heap.size w W) := by show Below _ _ _; rw [HW.out]; exact (((Below.refl _ _).alloc (Nat.le_refl _) _).alloc (by simp) _).alloc (by simp; omega) _
  have HX : Hid (Row W x [.slice a L.length cap, .bool has, .int .u64 want.off, .int .i64 want.len, .bool want.fin, .slice want.on.a want.on.n want.on.c, .bool want.held, .int .u64 edge, .int .i64 mss] 28) := by show Row _ _ _ _; rw [HW.out, hx]; exact ((Row.new _ _ _).alloc _).alloc _
  have HY : Hid (Row W y [.bool u, .bool b, .bool k, .int .u64 sr, .int .i64 wi, .int .i64 i, .bool h, .int .u64 off, .int .i64 len, .bool fin, .slice on.a on.n on.c, .bool held] 43) := by show Row _ _ _ _; rw [HW.out, hy]; exact (Row.new' _ _ _ _ _ (by simp) rfl).alloc _
  have HZ : Hid (Row W z [.bool u', .bool b', .bool k', .int .u64 sr', .int .i64 wi', .int .i64 i', .bool h', .int .u64 off', .int .i64 len', .bool fin', .slice on'.a on'.n on'.c, .bool held'] 43) := by show Row _ _ _ _; rw [HW.out, hz]; exact Row.new' _ _ _ _ _ (by simp) rfl
  rw [← hz, ← hy, ← hx]
  clear HW hx hy hz em
  generalize min (max mss 1) 1024 = m at *
  have HF := hid (frames_any)
  have HFb := hid (frm_bd)
  have y0 := cell_regrown (HY.out.cell 0 _ rfl)
  have z0 := cell_regrown (HZ.out.cell 0 _ rfl)
  have y1 := cell_regrown (HY.out.cell 1 _ rfl)
  have z1 := cell_regrown (HZ.out.cell 1 _ rfl)
  have y2 := cell_regrown (HY.out.cell 2 _ rfl)
  have z2 := cell_regrown (HZ.out.cell 2 _ rfl)
  have y3 := cell_regrown (HY.out.cell 3 _ rfl)
  have z3 := cell_regrown (HZ.out.cell 3 _ rfl)
  have y4 := cell_regrown (HY.out.cell 4 _ rfl)
  have z4 := cell_regrown (HZ.out.cell 4 _ rfl)
  have y5 := cell_regrown (HY.out.cell 5 _ rfl)
  have z5 := cell_regrown (HZ.out.cell 5 _ rfl)
  have y6 := cell_regrown (HY.out.cell 6 _ rfl)
  have z6 := cell_regrown (HZ.out.cell 6 _ rfl)
  have y7 := cell_regrown (HY.out.cell 7 _ rfl)
  have z7 := cell_regrown (HZ.out.cell 7 _ rfl)
  have y8 := cell_regrown (HY.out.cell 8 _ rfl)
  have z8 := cell_regrown (HZ.out.cell 8 _ rfl)
  have y9 := cell_regrown (HY.out.cell 9 _ rfl)
  have z9 := cell_regrown (HZ.out.cell 9 _ rfl)
  have y10 := cell_regrown (HY.out.cell 10 _ rfl)
  have z10 := cell_regrown (HZ.out.cell 10 _ rfl)
  have y11 := cell_regrown (HY.out.cell 11 _ rfl)
  have z11 := cell_regrown (HZ.out.cell 11 _ rfl)
  have e1 : IntKind.u64.wrap (tS + tF) = tS + tF := wrapu _ (by omega) (by omega)
  have e2 : IntKind.u64.wrap (tS + tF - 1) = tS + tF - 1 := wrapu _ (by omega) (by omega)
  have e3 : (tS + tF - 1).tdiv tF = R := by rw [Int.tdiv_eq_ediv_of_nonneg (by omega), hrd]
  have e4 : IntKind.u64.wrap R = R := wrapu _ (by omega) (by omega)
  have ne : ¬ tF = 0 := by omega
  have neb : (tF == 0) = false := by simpa using ne
  have HTF1 := hid (HTF W).out
  have HTS1 := hid (HTS W).out
  have HRB := hid rb
  clear hrd HTF HTS ts rb h0 h1
  refine wp_region_quiet_below (by kernel_rfl) (by decide +kernel) ?_
  iterate 2 (go_big_quiet_step ((go_at_call 49; exact HTS1.out _ _)))
  clear HTS1
  iterate 8 (go_big_quiet_step ((go_at_call 49; exact HTF1.out _ _)))
  refine wpQuiet_nil ?_
  intro _ hw'
  obtain ⟨⟨dq, osq⟩, hw''⟩ := hw'
  subst hw''
  have HB1 := hid (HB0.out.trans ((below_regrown W dq osq).mono HB0.out.size))
  have HX1 := hid (HX.out.kept (below_regrown W dq osq) HX.out.lt)
  replace y0 := y0 dq osq
  replace z0 := z0 dq osq
  replace y1 := y1 dq osq
  replace z1 := z1 dq osq
  replace y2 := y2 dq osq
  replace z2 := z2 dq osq
  replace y3 := y3 dq osq
  replace z3 := z3 dq osq
  replace y4 := y4 dq osq
  replace z4 := z4 dq osq
  replace y5 := y5 dq osq
  replace z5 := z5 dq osq
  replace y6 := y6 dq osq
  replace z6 := z6 dq osq
  replace y7 := y7 dq osq
  replace z7 := z7 dq osq
  replace y8 := y8 dq osq
  replace z8 := z8 dq osq
  replace y9 := y9 dq osq
  replace z9 := z9 dq osq
  replace y10 := y10 dq osq
  replace z10 := z10 dq osq
  replace y11 := y11 dq osq
  replace z11 := z11 dq osq
  have x0 := HX1.out.cell 0 _ rfl
  have x1 := HX1.out.cell 1 _ rfl
  have x2 := HX1.out.cell 2 _ rfl
  have x3 := HX1.out.cell 3 _ rfl
  have x4 := HX1.out.cell 4 _ rfl
  have x5 := HX1.out.cell 5 _ rfl
  have x6 := HX1.out.cell 6 _ rfl
  have x7 := HX1.out.cell 7 _ rfl
  have x8 := HX1.out.cell 8 _ rfl
  have bf := HFb.out wi
  have bi := HFb.out i'
  have HF1 := hid (fun w => HF.out w wi)
  have HF2 := hid (fun w => HF.out w i')
  generalize frm wi = fw at *
  generalize frm i' = fi at *
  obtain ⟨rb1, rb2⟩ := HRB.out
  obtain ⟨A, hA⟩ : ∃ A, A = m * (2 * fw + R - 1) := ⟨_, rfl⟩
  obtain ⟨Bq, hBq⟩ : ∃ Bq, Bq = A * R := ⟨_, rfl⟩
  obtain ⟨C, hC⟩ : ∃ C, C = m * (fi + 1) := ⟨_, rfl⟩
  have A0 : 0 ≤ A := by rw [hA]; exact Int.mul_nonneg (by omega) (by omega)
  have A1 : A ≤ 1024 * 60511 := by rw [hA]; exact Int.mul_le_mul (by omega) (by omega) (by omega) (by omega)
  have B0 : 0 ≤ Bq := by rw [hBq]; exact Int.mul_nonneg A0 (by omega)
  have B1 : Bq ≤ 61963264 * 60000 := by rw [hBq]; exact Int.mul_le_mul (by omega) (by omega) (by omega) (by omega)
  have C0 : 0 ≤ C := by rw [hC]; exact Int.mul_nonneg (by omega) (by omega)
  have C1 : C ≤ 1024 * 257 := by rw [hC]; exact Int.mul_le_mul (by omega) (by omega) (by omega) (by omega)
  have f1 : IntKind.u64.wrap (2 * fw) = 2 * fw := wrapu _ (by omega) (by omega)
  have f2 : IntKind.u64.wrap (2 * fw + R) = 2 * fw + R := wrapu _ (by omega) (by omega)
  have f3 : IntKind.u64.wrap (2 * fw + R - 1) = 2 * fw + R - 1 := wrapu _ (by omega) (by omega)
  have f4 : IntKind.u64.wrap (m * (2 * fw + R - 1)) = A := by rw [← hA]; exact wrapu _ (by omega) (by omega)
  have f5 : IntKind.u64.wrap (A * R) = Bq := by rw [← hBq]; exact wrapu _ (by omega) (by omega)
  have f6 : Bq.tdiv 2 = Bq / 2 := Int.tdiv_eq_ediv_of_nonneg B0
  have f7 : IntKind.u64.wrap (Bq / 2) = Bq / 2 := wrapu _ (by omega) (by omega)
  have f8 : IntKind.u64.wrap (fi + 1) = fi + 1 := wrapu _ (by omega) (by omega)
  have f9 : IntKind.u64.wrap (m * (fi + 1)) = C := by rw [← hC]; exact wrapu _ (by omega) (by omega)
  have f10 : IntKind.u64.wrap (Bq / 2 + C) = Bq / 2 + C := wrapu _ (by omega) (by omega)
  have HE : Hid (m * (2 * fw + R - 1) * R / 2 + m * (fi + 1) = Bq / 2 + C) := by show _ = _; rw [← hA, ← hBq, ← hC]
  clear hA hBq hC A0 A1 B0 B1 C0 C1 HRB HFb HF bf bi rb1 rb2 HB0 HX HY HZ HTF1
  generalize (grow (redrawn W dq) osq) = W1 at *
  go_wp2_with (first
    | (go_at_call 66; refine (HF1.out _).mono ?_; rintro e w2 ⟨rfl, rfl⟩; clear HF1)
    | (go_at_call 66; refine (HF2.out _).mono ?_; rintro e w2 ⟨rfl, rfl⟩; clear HF2)
    | (go_at_call 67; refine (HA.out _).mono ?_; rintro e w3 ⟨rfl, hb3⟩; have HB3 := hid (HB1.out.trans (hb3.mono HB1.out.size)); clear hb3 HA))
  go_ret
  exact ⟨by rw [HH.out, HE.out]; rfl, HB3.out⟩
end Go.Proofs.Ytdbdiebgjnofgaa
