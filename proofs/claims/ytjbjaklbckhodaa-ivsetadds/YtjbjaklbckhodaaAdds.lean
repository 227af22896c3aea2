import Derived.Test.YtjbjaklbckhodaaAdds0
import Derived.Test.YtjbjaklbckhodaaGaps
import Derived.Deep.CutRange
import Derived.Lib.QuietBelow
namespace Go.Proofs.Ytjbjaklbckhodaa
open Go.RowKit Go.Sort

set_option maxRecDepth 100000 in
set_option maxHeartbeats 2000000 in
theorem adds_any {w : World} {a : Option Addr} {cap : Nat} {L : List Rg} (C : Cells w a L) (hf : (L.length + 4) * 16 ≤ 140737488355328) (hw : ∀ r ∈ L, 0 ≤ r.1 ∧ r.2 ≤ 18446744073709551615) (rl rh ol oh : Int)
    (hr0 : 0 ≤ rl) (hr1 : rl ≤ 18446744073709551615) (hr2 : rh ≤ 18446744073709551615) (ho0 : 0 ≤ ol) (ho1 : oh ≤ 18446744073709551615) (ho2 : 0 ≤ oh) :
    Calls Try.prog 7 #[.slice a L.length cap, .agg #[.int .u64 rl, .int .u64 rh], .agg #[.int .u64 ol, .int .u64 oh]] w fun e w' => e = .returned (.bool true) ∧ Below w.heap.size w w' := by
  have HBW : Hid _ := boxes (w := w) (.cells #[.int .u64 rl, .int .u64 rh] 29) (.cells #[.int .u64 ol, .int .u64 oh] 29)
  have hN := new_any sort_any (cap := cap) (C.kept HBW.out) (by omega) hw
  have HCE : Hid (∀ X, Below ((w.alloc (.cells #[.int .u64 rl, .int .u64 rh] 29)).alloc (.cells #[.int .u64 ol, .int .u64 oh] 29)).heap.size ((w.alloc (.cells #[.int .u64 rl, .int .u64 rh] 29)).alloc (.cells #[.int .u64 ol, .int .u64 oh] 29)) X →
      (X.cell? ⟨w.heap.size, 0, none⟩ = some (.int .u64 rl) ∧ X.cell? ⟨w.heap.size, 1, none⟩ = some (.int .u64 rh)) ∧ (X.cell? ⟨w.heap.size + 1, 0, none⟩ = some (.int .u64 ol) ∧ X.cell? ⟨w.heap.size + 1, 1, none⟩ = some (.int .u64 oh))) :=
    fun X hb => ⟨⟨cell_kept hb (box0 _ _ _ 0), cell_kept hb (box0 _ _ _ 1)⟩, ⟨cell_kept hb (box1 _ _ _ 0), cell_kept hb (box1 _ _ _ 1)⟩⟩
  clear C
  have HAW : Hid _ := fun w => awake_any sort_any w
  have HW : Hid _ := hw
  clear hw
  go_enter Try.func7, Try.ntmps7
  go_wp2_with fail
  refine hN.mono ?_
  rintro e w1 ⟨p, rfl, v, L', hP, hO, hb1⟩
  obtain ⟨hF, hL⟩ := addAll_fit L' (fun r hr => HW.out r (hP.mem_iff.1 hr)) L'.length (Nat.le_refl _)
  rw [List.take_length, hP.length_eq] at hL
  rw [List.take_length] at hF
  generalize addAll L' = M at *
  generalize (w.alloc (.cells #[.int .u64 rl, .int .u64 rh] 29)).alloc (.cells #[.int .u64 ol, .int .u64 oh] 29) = W at *
  have HF : Hid (Fit M) := hF
  have HO1 : Hid _ := hO
  have HB1 : Hid _ := hb1
  clear hP hO hb1 hN hF HW
  go_wp2_with fail
  refine Calls.mono (HAW.out w1) ?_
  rintro e w2 ⟨rfl, hb2⟩
  have HO2 : Hid _ := HO1.out.kept hb2
  have HB2 : Hid _ := HB1.out.trans (hb2.mono HB1.out.size)
  clear hb2 HO1 HB1 HAW
  obtain ⟨a2, c2, rfl, V2⟩ := HO2.out.set.view (by omega)
  have HV2 : Hid _ := V2
  clear V2
  obtain ⟨⟨b0, b1⟩, _⟩ := HCE.out _ HB2.out
  have HMI : Hid (∀ (X : World) (a : Option Addr) (c : Nat) (K : List Rg), K.length ≤ L.length + 1 → View X p a c K → Fit K → Calls Try.prog 25 #[.pointer (some ⟨p, 0, none⟩), .agg #[.int .u64 rl, .int .u64 rh]] X fun e w' => ∃ v, e = .returned v ∧ w'.ownsRow (X.heap.size + 1) 29 2 v (missL K (rl, rh)).length (flat (missL K (rl, rh))) ∧ Below X.heap.size X w') :=
    fun X a c K hK V F => missing_any (rl, rh) hr0 hr1 (by omega) V F
  have HE : Hid _ := missL_each HF.out (rl, rh) hr1
  have HHM : Hid _ := has_miss HF.out (rl, rh) hr1
  have HMT : Hid _ := missL_total HF.out (rl, rh) hr0 hr1 hr2
  have HAT : Hid _ := addL_total HF.out (rl, rh) hr0 hr2
  have HF1 : Hid (Fit (addL M (rl, rh))) := addL_fit HF.out (rl, rh) hr0 hr2
  have HL1 : Hid _ := addL_length HF.out (rl, rh)
  have HNL : Hid _ := missL_nil HF.out (rl, rh) hr1
  simp only at HNL
  go_wp2_with fail
  refine (HMI.out _ _ _ _ (by omega) HV2.out HF.out).mono ?_
  rintro e w3 ⟨v3, rfl, hown, hb3⟩
  have HO3 : Hid _ := HO2.out.kept hb3
  have HV3 : Hid _ := HV2.out.kept hb3
  have HB3 : Hid _ := HB2.out.trans (hb3.mono HB2.out.size)
  obtain ⟨a3, c3, rfl, hcel⟩ := owns_shape hown
  have HCEL : Hid _ := hcel
  clear hb3 HV2 HO2 HB2 hown hcel b0 b1
  obtain ⟨N, hNd⟩ : ∃ N, N = missL M (rl, rh) := ⟨_, rfl⟩
  rw [← hNd] at HCEL HE HHM HMT HNL ⊢
  have HND : Hid _ := hNd
  clear hNd
  have hNl := HE.out.2.2
  go_wp2_with fail
  go_loopg [8, 26] N.length (fun kx n i wr => ∃ k : Nat, k ≤ N.length ∧ N.length - k ≤ kx ∧ i = .int .i64 k ∧ n = .int .u64 (total (N.take k)) ∧ Below w3.heap.size w3 wr)
  case atStart => exact ⟨0, Nat.zero_le _, by omega, rfl, rfl, Below.refl _ _⟩
  case round =>
    obtain ⟨k, hk, hkx, rfl, rfl, hb⟩ := hrel
    have HBr : Hid _ := hb
    clear hb
    by_cases hlt : k < N.length
    · have hki : (k : Int) < (N.length : Int) := by omega
      obtain ⟨g, rfl, c1, c2'⟩ := HCEL.out k hlt
      have e1 := cell_kept HBr.out c1
      have e2 := cell_kept HBr.out c2'
      obtain ⟨⟨b0, b1⟩, _⟩ := HCE.out _ (HB3.out.trans (HBr.out.mono HB3.out.size))
      have hs := total_snoc N k hlt
      have ht := total_take (fun m hm => by have := HE.out.1 m hm; omega) k hk
      have ht2 := total_take (fun m hm => by have := HE.out.1 m hm; omega) (k + 1) hlt
      have hm := HE.out.1 N[k] (List.getElem_mem hlt)
      have hh := HHM.out N[k] (List.getElem_mem hlt)
      have htf := total_fit HF1.out
      rw [HAT.out, ← HMT.out] at htf
      have htm := (total_fit HF.out).1
      rw [hs] at ht2
      clear c1 c2'
      generalize N[k] = m at *
      obtain ⟨ml, mh⟩ := m
      simp only at e1 e2 hs hm hh ht2
      have HS : Hid _ := hs
      clear hs
      generalize total (N.take k) = t at *
      generalize total N = tn at *
      generalize total M = tm at *
      have hx1 : decide (ml < rl) = false := by simp; omega
      have hx2 : decide (rh < mh) = false := by simp; omega
      have hw1 : IntKind.u64.wrap (mh - 1) = mh - 1 := by rw [IntKind.wrap_u64]; omega
      have hw2 : IntKind.u64.wrap (mh - ml) = mh - ml := by rw [IntKind.wrap_u64]; omega
      have hw3 : IntKind.u64.wrap (t + (mh - ml)) = t + (mh - ml) := by rw [IntKind.wrap_u64]; omega
      have g0 := fun o => cell_kept (below_box wr o) b0
      have g1 := fun o => cell_kept (below_box wr o) b1
      have HVr : Hid _ := (HV3.out.kept HBr.out).kept (below_box wr (.cells #[.int .u64 ml, .int .u64 mh] 29))
      have HBX : Hid _ := box_cells wr (.int .u64 ml) (.int .u64 mh)
      have HBB : Hid _ := HBr.out.trans ((below_box wr (.cells #[.int .u64 ml, .int .u64 mh] 29)).mono HBr.out.size)
      have HHH : Hid _ := hh
      clear hh hm ht ht2 htf htm
      go_wp2_with fail
      refine (has_any ml HVr.out HF.out).mono ?_
      rintro e x1 ⟨rfl, hx⟩
      rw [HHH.out.1]
      have d0 := cell_kept hx HBX.out.1
      have d1 := cell_kept hx HBX.out.2
      have HVx : Hid _ := HVr.out.kept hx
      have HBx : Hid _ := HBB.out.trans (hx.mono HBB.out.size)
      clear hx HVr HBB HBX
      go_wp2_with fail
      refine (has_any (mh - 1) HVx.out HF.out).mono ?_
      rintro e x2 ⟨rfl, hx⟩
      rw [HHH.out.2]
      have f0 := cell_kept hx d0
      have f1 := cell_kept hx d1
      have HBy : Hid _ := HBx.out.trans (hx.mono HBx.out.size)
      clear hx HVx HBx d0 d1
      go_wp2_with fail
      go_roundg (N.length - (k + 1))
      case measure => omega
      case rel => exact ⟨k + 1, hlt, Nat.le_refl _, by go_num, by rw [HS.out], HBy.out⟩
    · obtain rfl : k = N.length := by omega
      have hki : ¬ (N.length : Int) < (N.length : Int) := by omega
      rw [List.take_length]
      have HV4 : Hid _ := HV3.out.kept HBr.out
      have HO4 : Hid _ := HO3.out.kept HBr.out
      have HB4 : Hid _ := HB3.out.trans (HBr.out.mono HB3.out.size)
      obtain ⟨⟨b0, b1⟩, _⟩ := HCE.out _ HB4.out
      have H1 : Hid (∀ d os, Calls Try.prog 14 #[.pointer (some ⟨p, 0, none⟩)] (grow (redrawn wr d) os) fun e w'' => e = .returned (.int .u64 (total M)) ∧ ∃ q : Regrown, w'' = grow (redrawn wr q.d) q.os) :=
        fun d os => Calls.regrown_of (count_any (HV4.out.kept (below_regrown _ d os)) HF.out)
      have H2 : Hid (∀ d os, Calls Try.prog 26 #[.pointer (some ⟨p, 0, none⟩), .agg #[.int .u64 rl, .int .u64 rh]] (grow (redrawn wr d) os) fun e w'' => e = .returned (.int .i64 (addL M (rl, rh)).length) ∧ ∃ q : Regrown, w'' = grow (redrawn wr q.d) q.os) :=
        fun d os => Calls.regrown_of (with_any (rl, rh) (HV4.out.kept (below_regrown _ d os)) HF.out)
      clear HV3 HO3 HB3 HBr HCEL HE HHM
      go_upto_region 12 with fail
      go_cut [11, 12] from 14 (fun b t wd => b = .int .u64 (total M) ∧ t = .int .i64 (addL M (rl, rh)).length ∧ Below wr.heap.size wr wd)
      case first =>
        have k0 := cell_regrown b0
        have k1 := cell_regrown b1
        clear b0 b1
        refine wp_region_quiet_below (by kernel_rfl) (by kernel_rfl) ?_
        repeat (quiet_step (first | (go_at_call 14; exact H1.out _ _) | (go_at_call 26; exact H2.out _ _)))
        refine wpQuiet_nil ?_
        intro _ hw'
        obtain ⟨⟨dq, osq⟩, hw''⟩ := hw'
        subst hw''
        go_wp2_with fail
        go_meet
        exact ⟨rfl, rfl, below_regrown wr dq osq⟩
      case rest =>
        obtain ⟨rfl, rfl, hbd⟩ := hcut
        obtain ⟨x0, hx0⟩ : ∃ x0 : World, x0 = wc := ⟨_, rfl⟩
        subst hx0
        have HV5 : Hid _ := HV4.out.kept hbd
        have HO5 : Hid _ := HO4.out.kept hbd
        have HB5 : Hid _ := HB4.out.trans (hbd.mono HB4.out.size)
        clear hbd HV4 HO4 HB4 H1 H2 b0 b1
        obtain ⟨⟨b0, b1⟩, _⟩ := HCE.out _ HB5.out
        have HCV : Hid _ := add_covers HF.out (rl, rh) hr0 hr2
        have HAA : Hid _ := add_again HF.out (rl, rh) hr0 hr2
        have HFA : Hid _ := fresh_again HF.out (rl, rh) hr0 hr1 hr2
        have HMA : Hid _ := miss_again HF.out (rl, rh) hr0 hr1 hr2
        have HRF : Hid (Fit (remL (addL M (rl, rh)) (ol, oh))) := remL_fit HF1.out (ol, oh) ho0 ho1
        have HRL : Hid _ := remL_length HF1.out (ol, oh)
        have HRT : Hid _ := remL_total HF1.out (ol, oh)
        have HRA : Hid _ := rem_again HF1.out (ol, oh) ho0 ho1
        have HRC : Hid _ := clip_again HF1.out (ol, oh) ho0 ho1
        have HRH : Hid _ := rem_has HF1.out (ol, oh) ho0 ho1
        have hl1 := HL1.out
        have htf := total_fit HF1.out
        have htm := total_fit HF.out
        rw [HAT.out, ← HMT.out] at htf
        go_wp2_with fail
        refine (covers_any (rl, rh) HV5.out HF.out).mono ?_
        rintro e x1 ⟨rfl, hb⟩
        simp only
        rw [← HNL.out]
        have HO6 : Hid _ := HO5.out.kept hb
        have HB6 : Hid _ := HB5.out.trans (hb.mono HB5.out.size)
        clear hb HV5 HO5 HB5 HNL b0 b1
        obtain ⟨⟨b0, b1⟩, _⟩ := HCE.out _ HB6.out
        have HADD : Hid _ := add_any HO6.out.set HF.out (by omega) (rl, rh) hr0 hr2
        generalize hzz : (total N == 0) = bz at *
        have hbb : (bz != bz) = false := by cases bz <;> rfl
        go_wp2_with fail
        refine Calls.mono HADD.out ?_
        rintro e x2 ⟨rfl, v2, hS, hT⟩
        rw [← HMT.out]
        obtain ⟨hO7, hb7⟩ := HO6.out.turned hS hT
        have HO7 : Hid _ := hO7
        have HB7 : Hid _ := HB6.out.trans hb7
        clear hS hT hO7 hb7 HO6 HB6 HADD b0 b1 hzz hbb
        generalize total N = tn at *
        have hnn : (tn != tn) = false := by simp
        obtain ⟨a7, c7, rfl, V7⟩ := HO7.out.set.view (by omega)
        have HV7 : Hid _ := V7
        clear V7
        go_wp2_with fail
        refine (count_any HV7.out HF1.out).mono ?_
        rintro e x3 ⟨rfl, hb⟩
        rw [HAT.out, ← HMT.out]
        have HO8 : Hid _ := HO7.out.kept hb
        have HV8 : Hid _ := HV7.out.kept hb
        have HB8 : Hid _ := HB7.out.trans (hb.mono HB7.out.size)
        clear hb HO7 HV7 HB7
        have hwr : IntKind.u64.wrap (total M + tn) = total M + tn := by rw [IntKind.wrap_u64]; omega
        have hne : ((total M + tn) != (total M + tn)) = false := by simp
        go_wp2_with fail
        refine (len_any HV8.out).mono ?_
        rintro e x4 ⟨rfl, rfl⟩
        obtain ⟨⟨b0, b1⟩, _⟩ := HCE.out _ HB8.out
        have hll : (((addL M (rl, rh)).length : Int) != ((addL M (rl, rh)).length : Int)) = false := by simp
        go_wp2_with fail
        refine (covers_any (rl, rh) HV8.out HF1.out).mono ?_
        rintro e x5 ⟨rfl, hb⟩
        simp only
        rw [decide_eq_true HCV.out]
        have HO9 : Hid _ := HO8.out.kept hb
        have HB9 : Hid _ := HB8.out.trans (hb.mono HB8.out.size)
        clear hb HO8 HV8 HB8 b0 b1 hll
        obtain ⟨⟨b0, b1⟩, _⟩ := HCE.out _ HB9.out
        have hA := add_any HO9.out.set HF1.out (by omega) (rl, rh) hr0 hr2
        rw [HAA.out, HFA.out] at hA
        have HADD : Hid _ := hA
        clear hA
        go_wp2_with fail
        refine Calls.mono HADD.out ?_
        rintro e x6 ⟨rfl, v6, hS, hT⟩
        obtain ⟨hO7, hb7⟩ := HO9.out.turned hS hT
        have HO10 : Hid _ := hO7
        have HB10 : Hid _ := HB9.out.trans hb7
        clear hS hT hO7 hb7 HO9 HB9 HADD b0 b1
        obtain ⟨a7, c7, rfl, V7⟩ := HO10.out.set.view (by omega)
        have HV10 : Hid _ := V7
        clear V7
        obtain ⟨⟨b0, b1⟩, _⟩ := HCE.out _ HB10.out
        go_wp2_with fail
        refine (HMI.out _ _ _ _ (by omega) HV10.out HF1.out).mono ?_
        rintro e x7 ⟨v7, rfl, hown, hb⟩
        rw [HMA.out] at hown
        obtain ⟨a8, c8, rfl, _⟩ := owns_shape hown
        have HO11 : Hid _ := HO10.out.kept hb
        have HV11 : Hid _ := HV10.out.kept hb
        have HB11 : Hid _ := HB10.out.trans (hb.mono HB10.out.size)
        clear hb HO10 HV10 HB10 b0 b1 hown
        go_wp2_with fail
        refine (count_any HV11.out HF1.out).mono ?_
        rintro e x8 ⟨rfl, hb⟩
        have HO12 : Hid _ := HO11.out.kept hb
        have HB12 : Hid _ := HB11.out.trans (hb.mono HB11.out.size)
        clear hb HO11 HV11 HB11
        obtain ⟨_, b0, b1⟩ := HCE.out _ HB12.out
        have HREM : Hid _ := rem_any HO12.out.set HF1.out (by omega) (ol, oh) ho0 ho1
        have hrl := HRL.out
        go_wp2_with fail
        refine Calls.mono HREM.out ?_
        rintro e x9 ⟨rfl, v9, hS, hT⟩
        obtain ⟨hO7, hb7⟩ := HO12.out.turned hS hT
        have HO13 : Hid _ := hO7
        have HB13 : Hid _ := HB12.out.trans hb7
        clear hS hT hO7 hb7 HO12 HB12 HREM b0 b1
        obtain ⟨a9, c9, rfl, V9⟩ := HO13.out.set.view (by omega)
        have HV13 : Hid _ := V9
        clear V9
        go_wp2_with fail
        refine (count_any HV13.out HRF.out).mono ?_
        rintro e x10 ⟨rfl, hb⟩
        have htr := total_fit HRF.out
        rw [HRT.out] at htr ⊢
        have htf1 := total_fit HF1.out
        have HO14 : Hid _ := HO13.out.kept hb
        have HB14 : Hid _ := HB13.out.trans (hb.mono HB13.out.size)
        clear hb HO13 HV13 HB13
        generalize total (clipL (addL M (rl, rh)) (ol, oh)) = tc at *
        generalize total (addL M (rl, rh)) = ta at *
        have hwc : IntKind.u64.wrap (ta - tc) = ta - tc := by rw [IntKind.wrap_u64]; omega
        have heq : ((ta - tc) == (ta - tc)) = true := by simp
        obtain ⟨_, b0, b1⟩ := HCE.out _ HB14.out
        have hR := rem_any HO14.out.set HRF.out (by omega) (ol, oh) ho0 ho1
        rw [HRA.out, HRC.out] at hR
        have HREM : Hid _ := hR
        clear hR
        go_wp2_with fail
        refine Calls.mono HREM.out ?_
        rintro e x11 ⟨rfl, v11, hS, hT⟩
        obtain ⟨hO7, hb7⟩ := HO14.out.turned hS hT
        have HO15 : Hid _ := hO7
        have HB15 : Hid _ := HB14.out.trans hb7
        clear hS hT hO7 hb7 HO14 HB14 HREM b0 b1
        obtain ⟨a9, c9, rfl, V9⟩ := HO15.out.set.view (by omega)
        have HV15 : Hid _ := V9
        clear V9
        obtain ⟨_, b0, b1⟩ := HCE.out _ HB15.out
        by_cases ho : oh ≤ ol
        · have hd : decide (oh ≤ ol) = true := by simp; omega
          go_wp2_with fail
          go_ret
          exact ⟨rfl, HBW.out.trans (HB15.out.mono HBW.out.size)⟩
        · have hd : decide (oh ≤ ol) = false := by simp; omega
          have hh1 := HRH.out ol (by omega)
          have hh2 := HRH.out (oh - 1) (by omega)
          have HH1 : Hid _ := hh1
          have HH2 : Hid _ := hh2
          have hw1 : IntKind.u64.wrap (oh - 1) = oh - 1 := by rw [IntKind.wrap_u64]; omega
          clear hh1 hh2
          go_wp2_with fail
          refine (has_any ol HV15.out HRF.out).mono ?_
          rintro e x12 ⟨rfl, hb⟩
          rw [HH1.out]
          have HV16 : Hid _ := HV15.out.kept hb
          have HB16 : Hid _ := HB15.out.trans (hb.mono HB15.out.size)
          clear hb HV15 HB15 b0 b1
          obtain ⟨_, b0, b1⟩ := HCE.out _ HB16.out
          go_wp2_with fail
          refine (has_any (oh - 1) HV16.out HRF.out).mono ?_
          rintro e x13 ⟨rfl, hb⟩
          rw [HH2.out]
          have HB17 : Hid _ := HB16.out.trans (hb.mono HB16.out.size)
          clear hb HV16 HB16
          go_wp2_with fail
          go_ret
          exact ⟨rfl, HBW.out.trans (HB17.out.mono HBW.out.size)⟩

end Go.Proofs.Ytjbjaklbckhodaa
