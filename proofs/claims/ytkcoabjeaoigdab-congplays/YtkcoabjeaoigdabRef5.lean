import Derived.Test.YtkcoabjeaoigdabRef4
namespace Go.Proofs.Ytkcoabjeaoigdab
open Go.RowKit Go.Sort
set_option maxRecDepth 100000

theorem cl_cg {D : Nat → Ln} {n : Nat} (ok : ∀ k, k < n → (D k).Ok) : ∀ l ∈ cl D n, Cg l := by
  intro l hl
  unfold cl at hl
  obtain ⟨h1, h2⟩ := List.mem_filter.1 hl
  obtain ⟨k, hk, rfl⟩ := List.mem_map.1 h1
  exact ⟨ok k (by simpa using hk), h2⟩
set_option maxHeartbeats 2000000 in
theorem rstep_any {w : World} {r q n k : Nat} {D : Nat → Ln} (h : RAt w r q n D) (hk : k < n) :
    Calls Try.prog 22 #[.pointer (some ⟨r, 0, none⟩), .int .i64 k] w fun e w' => e = .returned (.int .i64 (stepD D n k)) ∧ Below w.heap.size w w' := by
  have ok := h.ok k hk
  obtain ⟨cap, c0⟩ := h.cell_hd
  have a0 := h.cell_c hk
  have a1 := h.cell_t hk
  have a2 := h.cell_on hk
  have a3 := h.cell_r hk
  have l1 : (k : Int) < (n : Int) := by omega
  have HCM : Hid ((D k).cnt = true → cl D n ≠ []) := cl_mem hk
  have HSD : Hid (stepD D n k = if (D k).cnt then max (min (1048576 / (D k).c) (coupled (cl D n))) 1 else 1048576 / (D k).c) := rfl
  have HG := hid h
  have H8 := hid h.le
  clear h hk
  generalize D k = l at *
  obtain ⟨c, t, on, rr⟩ := l
  obtain ⟨k0, k1, _, _, k4, _⟩ := ok
  simp only at a0 a1 a2 a3 k0 k1 k4 HSD
  have ob := own_b k0 k1
  have ed : (1048576 : Int).tdiv c = 1048576 / c := Int.tdiv_eq_ediv_of_nonneg (by decide)
  have ew : wrap64 (1048576 / c) = 1048576 / c := by unfold wrap64; omega
  have nz : ¬ c = 0 := by omega
  have HB : Hid (Below w.heap.size w (w.alloc (.cells #[.int .i64 c, .int .i64 t, .bool on, .int .u64 rr] 37))) := below_grow (Below.refl _ _) _
  have HRB := hid (Row.new w [.int .i64 c, .int .i64 t, .bool on, .int .u64 rr] 37)
  have x0 := HRB.out.cell 0 _ rfl
  have x2 := HRB.out.cell 2 _ rfl
  have x3 := HRB.out.cell 3 _ rfl
  by_cases hc : on = true ∧ 0 < rr
  · obtain ⟨rfl, hr⟩ := hc
    have hcnt : Ln.cnt ⟨c, t, true, rr⟩ = true := by simp [Ln.cnt, hr]
    have hne := HCM.out hcnt
    have HE : Hid (stepD D n k = max (min (1048576 / c) (coupled (cl D n))) 1) := by show _ = _; rw [HSD.out, hcnt]; rfl
    have z0 : (rr == 0) = false := by simp; omega
    have hG1 : RAt (w.alloc (.cells #[.int .i64 c, .int .i64 t, .bool true, .int .u64 rr] 37)) r q n D := HG.out.kept HB.out
    have HCC := hid (rcounts_any hG1)
    have hcg := cl_cg HG.out.ok
    have h8 : (cl D n).length ≤ 8 := Nat.le_trans (cl_len D n) H8.out
    obtain ⟨q0, q1, p0, p1⟩ := qp_b _ hne hcg h8
    have t0 := tot_b _ hcg
    have hlen : 1 ≤ (cl D n).length := by
      cases hcl : cl D n with
      | nil => exact absurd hcl hne
      | cons _ _ => simp
    obtain ⟨L, hL⟩ : ∃ L, L = cl D n := ⟨_, rfl⟩
    rw [← hL] at HE HCC hne hcg h8 q0 q1 p0 p1 t0 hlen
    have HNE := hid hne
    have HCG := hid hcg
    have HL8 := hid h8
    obtain ⟨m0, m1⟩ := mul_b q0 p0 q1 p1
    obtain ⟨al, hal⟩ : ∃ al, al = qOf L * pOf L / 1048576 := ⟨_, rfl⟩
    have al0 : 0 ≤ al ∧ al ≤ 268435456 := by omega
    have HCP : Hid (coupled L = al * 2048 / tot L) := by show _ = _; rw [hal]; rfl
    have HAL := hid hal
    have tT : 1024 ≤ tot L := by omega
    generalize hT : tot L = T at *
    have HT := hid hT
    have u1 : IntKind.u64.wrap (al * 2048) = al * 2048 := by rw [IntKind.wrap_u64]; omega
    have u2 : (al * 2048).tdiv T = al * 2048 / T := Int.tdiv_eq_ediv_of_nonneg (by omega)
    have dv := div_b (a := al * 2048) (b := T) (y := 549755813888) (by omega) (by omega) (by omega)
    have u3 : IntKind.u64.wrap (al * 2048 / T) = al * 2048 / T := by rw [IntKind.wrap_u64]; omega
    have u4 : wrap64 (al * 2048 / T) = al * 2048 / T := by unfold wrap64; omega
    have nzT : ¬ T = 0 := by omega
    clear q0 q1 p0 p1 t0 hlen m0 m1 al0 hT hal hL hne hcg h8 hG1 hcnt k0 k1 k4 hr tT
    generalize al * 2048 / T = cp at *
    generalize 1048576 / c = own at *
    by_cases g1 : own < cp
    · have d1 : decide (own < cp) = true := decide_eq_true g1
      have d2 : decide (own < 1) = false := decide_eq_false (by omega)
      have HF : Hid (stepD D n k = own) := by show _ = _; rw [HE.out, HCP.out]; omega
      clear g1 ob dv
      go_enter Try.func22, Try.ntmps22
      go_wp2_with (first
        | (go_at_call 30; refine HCC.out.mono ?_; clear HCC; rintro e w2 ⟨v, rfl, ho, hb⟩; have HLA := hid (lat_of ho HNE.out); have HB2 := hid (HB.out.trans (hb.mono HB.out.size)); clear ho hb)
        | (go_at_call 29; refine (alpha_any HLA.out HNE.out HCG.out HL8.out).mono ?_; rintro e w3 ⟨rfl, hw3⟩; rw [← HAL.out, HT.out]; have HB4 : Hid (Below w.heap.size w w3) := by (show Below _ _ _; rw [hw3]; exact HB2.out)
           clear hw3))
      go_ret
      exact ⟨by rw [HF.out]; rfl, HB4.out⟩
    · have d1 : decide (own < cp) = false := decide_eq_false g1
      by_cases g2 : cp < 1
      · have d2 : decide (cp < 1) = true := decide_eq_true g2
        have HF : Hid (stepD D n k = 1) := by show _ = _; rw [HE.out, HCP.out]; omega
        clear g1 g2 ob dv
        go_enter Try.func22, Try.ntmps22
        go_wp2_with (first
          | (go_at_call 30; refine HCC.out.mono ?_; clear HCC; rintro e w2 ⟨v, rfl, ho, hb⟩; have HLA := hid (lat_of ho HNE.out); have HB2 := hid (HB.out.trans (hb.mono HB.out.size)); clear ho hb)
          | (go_at_call 29; refine (alpha_any HLA.out HNE.out HCG.out HL8.out).mono ?_; rintro e w3 ⟨rfl, hw3⟩; rw [← HAL.out, HT.out]; have HB4 : Hid (Below w.heap.size w w3) := by (show Below _ _ _; rw [hw3]; exact HB2.out)
             clear hw3))
        go_ret
        exact ⟨by rw [HF.out]; rfl, HB4.out⟩
      · have d2 : decide (cp < 1) = false := decide_eq_false g2
        have HF : Hid (stepD D n k = cp) := by show _ = _; rw [HE.out, HCP.out]; omega
        clear g1 g2 ob dv
        go_enter Try.func22, Try.ntmps22
        go_wp2_with (first
          | (go_at_call 30; refine HCC.out.mono ?_; clear HCC; rintro e w2 ⟨v, rfl, ho, hb⟩; have HLA := hid (lat_of ho HNE.out); have HB2 := hid (HB.out.trans (hb.mono HB.out.size)); clear ho hb)
          | (go_at_call 29; refine (alpha_any HLA.out HNE.out HCG.out HL8.out).mono ?_; rintro e w3 ⟨rfl, hw3⟩; rw [← HAL.out, HT.out]; have HB4 : Hid (Below w.heap.size w w3) := by (show Below _ _ _; rw [hw3]; exact HB2.out)
             clear hw3))
        go_ret
        exact ⟨by rw [HF.out]; show Ending.returned (.int .i64 (wrap64 cp)) = _; rw [u4], HB4.out⟩
  · have hcnt : Ln.cnt ⟨c, t, on, rr⟩ = false := by
      unfold Ln.cnt
      simp only
      cases on with
      | false => rfl
      | true =>
        have hr : ¬ 0 < rr := fun h => hc ⟨rfl, h⟩
        simp only [Bool.true_and]
        exact decide_eq_false hr
    have HE : Hid (stepD D n k = 1048576 / c) := by show _ = _; rw [HSD.out, hcnt]; rfl
    cases on with
    | false =>
      clear k0 k1 k4 ob hcnt hc HCM HSD
      generalize 1048576 / c = own at *
      go_enter Try.func22, Try.ntmps22
      go_wp2
      go_ret
      exact ⟨by rw [HE.out]; first | rfl | (show Ending.returned (.int .i64 (wrap64 own)) = _; rw [ew]), HB.out⟩
    | true =>
      have z0 : rr = 0 := by
        have hr : ¬ 0 < rr := fun h => hc ⟨rfl, h⟩
        omega
      subst z0
      clear k0 k1 k4 ob hcnt hc HCM HSD
      generalize 1048576 / c = own at *
      go_enter Try.func22, Try.ntmps22
      go_wp2
      go_ret
      exact ⟨by rw [HE.out]; first | rfl | (show Ending.returned (.int .i64 (wrap64 own)) = _; rw [ew]), HB.out⟩
end Go.Proofs.Ytkcoabjeaoigdab
