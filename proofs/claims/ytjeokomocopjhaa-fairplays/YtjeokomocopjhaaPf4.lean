import Derived.Test.YtjeokomocopjhaaPf3
namespace Go.Proofs.Ytjeokomocopjhaa
open Go.RowKit Go.Maps
set_option maxRecDepth 100000

set_option maxHeartbeats 8000000 in
theorem do_any {col : Nat → Nat} {w : World} {a b p r : Nat} (hab : a ≠ b) (h : Fin2 col w a b p r w) (K : Int) (ot : Bool) {id : Int} (cls shr n : Int) (h0 : 0 ≤ id) (h1 : id ≤ 18446744073709551615) :
    Calls Try.prog 16 #[pt p 0, pt r 0, .agg #[.int .i64 K, .bool ot, .int .u64 id, .int .i64 cls, .int .i64 shr, .int .i64 n]] w fun e w' => e = .returned (.bool true) ∧ Fin2 col w a b p r w' ∧ Rk w w' := by
  have hb := below_box w (.cells #[.int .i64 K, .bool ot, .int .u64 id, .int .i64 cls, .int .i64 shr, .int .i64 n] 38)
  have RO := Row.new w [.int .i64 K, .bool ot, .int .u64 id, .int .i64 cls, .int .i64 shr, .int .i64 n] 38
  have H1 := hid2 (h.below hb)
  have HK := hid2 (Rk.of_below hb)
  have HRO := hid2 RO
  have c0 := RO.cell 0 _ rfl
  have c2 := RO.cell 2 _ rfl
  have c3 := RO.cell 3 _ rfl
  have c4 := RO.cell 4 _ rfl
  have c5 := RO.cell 5 _ rfl
  have HID : Hid (0 ≤ id ∧ id ≤ 18446744073709551615) := ⟨h0, h1⟩
  have HAB := hid2 hab
  clear h hb RO hab
  go_enter Try.func16, Try.ntmps16
  by_cases k1 : K = 1
  · subst k1
    obtain ⟨E, Fm, F, C1, C2⟩ := two_add HAB.out H1.out cls shr HID.out.1 HID.out.2
    have HC1 := hid2 C1
    have HC2 := hid2 C2
    clear C1 C2
    go_upto_region 3 with fail
    go_region_held3 (fun W => W.cell? ⟨w.heap.size, 2, none⟩ = some (.int .u64 id) ∧ W.cell? ⟨w.heap.size, 3, none⟩ = some (.int .i64 cls) ∧ W.cell? ⟨w.heap.size, 4, none⟩ = some (.int .i64 shr)) (go_keep)
      (first
        | (go_at_call 9; refine (HC1.out _ (Below.refl _ _).drew).mono ?_; rintro e w2 ⟨rfl, hM, hk⟩; have hr2 := hk _ _ _ (HRO.out.drew 1) (by decide) (by decide) (by decide) (by decide) (by decide); have d2 := hr2.cell 2 _ rfl; have d3 := hr2.cell 3 _ rfl; have d4 := hr2.cell 4 _ rfl; have HM := hid2 hM; have HR2 := hid2 hr2; have HK2 := hid2 hk; clear hM hk hr2 HC1)
        | (go_at_call 27; refine (HC2.out _ HM.out).mono ?_; rintro e w3 ⟨rfl, hM3, hk3⟩; have hr3 := hk3 _ _ _ HR2.out (by decide) (by decide) (by decide) (by decide) (by decide); have e2 := hr3.cell 2 _ rfl; have e3 := hr3.cell 3 _ rfl; have e4 := hr3.cell 4 _ rfl; have HM3 := hid2 hM3; have HK3 := hid2 hk3; clear hM3 hk3 hr3 HC2))
    go_wp2_with fail
    go_ret
    exact ⟨by first | rfl | simp, HM3.out, HK.out.trans ((Rk.of_below (Below.refl _ _).drew).trans (HK2.out.trans HK3.out))⟩
  by_cases k2 : K = 2
  · subst k2
    clear k1
    obtain ⟨E, Fm, F, C1, C2⟩ := two_rem HAB.out H1.out  HID.out.1 HID.out.2
    have HC1 := hid2 C1
    have HC2 := hid2 C2
    clear C1 C2
    go_upto_region 5 with fail
    go_region_held3 (fun W => W.cell? ⟨w.heap.size, 2, none⟩ = some (.int .u64 id)) (go_keep)
      (first
        | (go_at_call 12; refine (HC1.out _ (Below.refl _ _).drew).mono ?_; rintro e w2 ⟨rfl, hM, hk⟩; have hr2 := hk _ _ _ (HRO.out.drew 1) (by decide) (by decide) (by decide) (by decide) (by decide); have d2 := hr2.cell 2 _ rfl; have HM := hid2 hM; have HR2 := hid2 hr2; have HK2 := hid2 hk; clear hM hk hr2 HC1)
        | (go_at_call 28; refine (HC2.out _ HM.out).mono ?_; rintro e w3 ⟨rfl, hM3, hk3⟩; have hr3 := hk3 _ _ _ HR2.out (by decide) (by decide) (by decide) (by decide) (by decide); have e2 := hr3.cell 2 _ rfl; have HM3 := hid2 hM3; have HK3 := hid2 hk3; clear hM3 hk3 hr3 HC2))
    go_wp2_with fail
    go_ret
    exact ⟨by first | rfl | simp, HM3.out, HK.out.trans ((Rk.of_below (Below.refl _ _).drew).trans (HK2.out.trans HK3.out))⟩
  by_cases k3 : K = 3
  · subst k3
    clear k1 k2
    obtain ⟨E, Fm, F, C1, C2⟩ := two_more HAB.out H1.out n HID.out.1 HID.out.2
    have HC1 := hid2 C1
    have HC2 := hid2 C2
    clear C1 C2
    go_upto_region 7 with fail
    go_region_held3 (fun W => W.cell? ⟨w.heap.size, 2, none⟩ = some (.int .u64 id) ∧ W.cell? ⟨w.heap.size, 5, none⟩ = some (.int .i64 n)) (go_keep)
      (first
        | (go_at_call 10; refine (HC1.out _ (Below.refl _ _).drew).mono ?_; rintro e w2 ⟨rfl, hM, hk⟩; have hr2 := hk _ _ _ (HRO.out.drew 1) (by decide) (by decide) (by decide) (by decide) (by decide); have d2 := hr2.cell 2 _ rfl; have d5 := hr2.cell 5 _ rfl; have HM := hid2 hM; have HR2 := hid2 hr2; have HK2 := hid2 hk; clear hM hk hr2 HC1)
        | (go_at_call 29; refine (HC2.out _ HM.out).mono ?_; rintro e w3 ⟨rfl, hM3, hk3⟩; have hr3 := hk3 _ _ _ HR2.out (by decide) (by decide) (by decide) (by decide) (by decide); have e2 := hr3.cell 2 _ rfl; have e5 := hr3.cell 5 _ rfl; have HM3 := hid2 hM3; have HK3 := hid2 hk3; clear hM3 hk3 hr3 HC2))
    go_wp2_with fail
    go_ret
    exact ⟨by first | rfl | simp, HM3.out, HK.out.trans ((Rk.of_below (Below.refl _ _).drew).trans (HK2.out.trans HK3.out))⟩
  by_cases k4 : K = 4
  · subst k4
    clear k1 k2 k3
    obtain ⟨X, N, O, Fm, F, C1, C2⟩ := two_next HAB.out H1.out n
    have HC1 := hid2 C1
    have HC2 := hid2 C2
    have heq := eq31 X N
    clear C1 C2
    go_upto_region 10 with (go_at_call 11; refine HC1.out.mono ?_; rintro e w2 ⟨rfl, hM, hk⟩; have hr2 := hk _ _ _ HRO.out (by decide) (by decide) (by decide) (by decide) (by decide); have HM := hid2 hM; have HR2 := hid2 hr2; have HK2 := hid2 hk; clear hM hk hr2 HC1)
    have hb2 := below_box w2 (.cells #[.int .u64 X, .int .i64 N] 31)
    have RT := Row.new w2 [.int .u64 X, .int .i64 N] 31
    have d5 := (HR2.out.kept hb2 HR2.out.lt).cell 5 _ rfl
    have HC2b := hid2 (HC2.out _ (HM.out.below hb2))
    have HKB := hid2 (Rk.of_below hb2)
    have HRT := hid2 RT
    clear hb2 RT HC2 HM
    go_upto_region 11 with (go_at_call 30; refine HC2b.out.mono ?_; rintro e w3 ⟨rfl, hM3, hk3⟩; have hr3 := hk3 _ _ _ HRT.out (by decide) (by decide) (by decide) (by decide) (by decide); have HM3 := hid2 hM3; have HR3 := hid2 hr3; have HK3 := hid2 hk3; clear hM3 hk3 hr3 HC2b)
    have hb3 := below_box w3 (.cells #[.int .u64 X, .int .i64 N] 31)
    have R3 := HR3.out.kept hb3 HR3.out.lt
    have y0 := R3.cell 0 _ rfl
    have y1 := R3.cell 1 _ rfl
    have RU := Row.new w3 [.int .u64 X, .int .i64 N] 31
    have z0 := RU.cell 0 _ rfl
    have z1 := RU.cell 1 _ rfl
    have HF := hid2 (HM3.out.below hb3)
    have HKC := hid2 (Rk.of_below hb3)
    clear hb3 R3 RU
    go_wp2_with fail
    go_ret
    exact ⟨by first | rfl | simp, HF.out, HK.out.trans (HK2.out.trans (HKB.out.trans (HK3.out.trans HKC.out)))⟩
  by_cases k5 : K = 5
  · subst k5
    clear k1 k2 k3 k4
    obtain ⟨cw, F, hF, hR, hT⟩ := H1.out
    have HFa := hid2 hF
    have HRa := hid2 hR
    have HTa := hid2 hT
    clear hF hR hT
    have hlen := HFa.out.ok.len
    have HVW := hid2 (fa_view HFa.out.fa)
    go_upto_region 14 with (go_at_call 14; refine HVW.out.mono ?_; rintro e w2 ⟨g, rfl, hr, hg, hb2⟩; have HV2 := hid2 hr; have HB2 := hid2 hb2; clear hr hb2 HVW)
    have HRV := hid2 (pr_view (HRa.out.below HB2.out))
    go_upto_region 15 with (first
      | (go_at_call 18; refine HRV.out.mono ?_; rintro e w3 ⟨v, rfl, hv, hb3⟩; have HS3 := hid2 (same_view (HV2.out.kept hb3 HV2.out.lt) hv hlen); have HB3 := hid2 (HB2.out.trans (hb3.mono HB2.out.size)); have HV3 := hid2 (HV2.out.kept hb3 HV2.out.lt); clear hv hb3 HRV)
      | (go_at_call 17; refine HS3.out.mono ?_; rintro e w4 ⟨rfl, q4, rfl⟩; have HW4 := hid2 (fa_waiting (HFa.out.below (below_drewN HB3.out q4)).fa); clear HS3)
      | (go_at_call 13; refine HW4.out.mono ?_; rintro e w5 ⟨rfl, hb5⟩; have HB5 := hid2 ((below_drewN HB3.out q4).trans (hb5.mono (below_drewN HB3.out q4).size)); have HV5 := hid2 ((HV3.out.drew q4).kept hb5 (HV3.out.drew q4).lt); have HW5 := hid2 (pr_waiting (HRa.out.below HB5.out)); clear hb5 HW4)
      | (go_at_call 19; refine HW5.out.mono ?_; rintro e w6 ⟨rfl, hb6⟩; have HB6 := hid2 (HB5.out.trans (hb6.mono HB5.out.size)); have HV6 := hid2 (HV5.out.kept hb6 HV5.out.lt); clear hb6 HW5))
    have HG := hid2 hg
    clear c0 c2 c3 c4 c5 hg
    go_wp2_with fail
    go_loopw [103] (fun s wr => ∃ (k : Nat) (cs : List Value), k ≤ F.U.length ∧ s = .int .i64 k ∧ cs.length = F.U.length * 5 ∧ Row wr g cs 44 ∧ Fr (fun x => x = g) w6 wr) (fun s _ => F.U.length + 1 - (intOf s).toNat)
    case atStart => exact ⟨0, flatI F.U, Nat.zero_le _, rfl, flatI_len _, HV6.out, Fr.refl _ _⟩
    case round =>
      obtain ⟨k, cs, hk, rfl, hcl, hrow, hfr⟩ := hrel
      have HFR := hid2 hfr
      have HROW := hid2 hrow
      have HCL := hid2 hcl
      clear hfr hrow hcl
      by_cases hlt : k < F.U.length
      · have hki : (k : Int) < (F.U.length : Int) := by omega
        have hk0 : (0 : Int) ≤ (k : Int) := by omega
        have hc : ∀ j, j < 5 → ∃ u, wr.cell? ⟨g, k * 5 + j, none⟩ = some u := fun j hj => ⟨_, HROW.out.cell _ _ (List.getElem?_eq_getElem (by have := HCL.out; omega))⟩
        obtain ⟨u0, a0⟩ := hc 0 (by decide)
        obtain ⟨u1, a1⟩ := hc 1 (by decide)
        obtain ⟨u2, a2⟩ := hc 2 (by decide)
        obtain ⟨u3, a3⟩ := hc 3 (by decide)
        obtain ⟨u4, a4⟩ := hc 4 (by decide)
        rw [Nat.add_zero] at a0
        have f0 := HROW.out.frozen (k * 5)
        have f1 := HROW.out.frozen (k * 5 + 1)
        have f2 := HROW.out.frozen (k * 5 + 2)
        have f3 := HROW.out.frozen (k * 5 + 3)
        have f4 := HROW.out.frozen (k * 5 + 4)
        clear hc
        generalize F.U.length = M at *
        go_wp2_with fail
        go_roundw
        case rel => exact ⟨k + 1, ((((cs.set (k * 5) (.int .u64 3)).set (k * 5 + 1) (.int .i64 0)).set (k * 5 + 2) (.int .i64 0)).set (k * 5 + 3) (.int .i64 9)).set (k * 5 + 4) (.int .i64 0), hlt, by go_num, by simpa using HCL.out, ((((HROW.out.set _ _).set _ _).set _ _).set _ _).set _ _, ((((HFR.out.setCell g _ _ (.inl rfl)).setCell g _ _ (.inl rfl)).setCell g _ _ (.inl rfl)).setCell g _ _ (.inl rfl)).setCell g _ _ (.inl rfl)⟩
        case measure => simp [intOf]; omega
      · obtain rfl : k = F.U.length := by omega
        go_wp2_with fail
        go_ret
        have hfr := (Fr.of_below (S := fun k => (w.alloc (.cells #[.int .i64 5, .bool ot, .int .u64 id, .int .i64 cls, .int .i64 shr, .int .i64 n] 38)).heap.size ≤ k) HB6.out (Nat.le_refl _)).trans HFR.out (fun x e => .inl (by rw [e]; exact HG.out))
        exact ⟨rfl, H1.out.fresh hfr, HK.out.trans (Tn.of_new (T := fun _ => False) (col := cw) hfr).row⟩
  by_cases k6 : K = 6
  · subst k6
    clear k1 k2 k3 k4 k5
    go_wp2_with fail
    refine wp_world ?_
    intro w1 hw1
    rw [← hw1.out] at H1 HK HRO c0 c2 c3 c4 c5
    go_loopw [14] (fun s wr => ∃ k : Nat, k ≤ 2000 ∧ s = .int .i64 k ∧ Fin2 col w a b p r wr ∧ Rk w1 wr) (fun s _ => 2001 - (intOf s).toNat)
    case atStart => exact ⟨0, Nat.zero_le _, rfl, H1.out, Rk.of_below (Below.refl _ _)⟩
    case round =>
      obtain ⟨k, hk, rfl, hS, hRk⟩ := hrel
      have hr := hRk _ _ _ HRO.out (by decide) (by decide) (by decide) (by decide) (by decide)
      have HS := hid2 hS
      have HRK := hid2 hRk
      have HRW := hid2 hr
      clear c0 c2 c3 c4 c5
      have c2 := hr.cell 2 _ rfl
      have c3 := hr.cell 3 _ rfl
      have c4 := hr.cell 4 _ rfl
      have c5 := hr.cell 5 _ rfl
      clear hr hS hRk
      by_cases hkn : (k : Int) < n
      · by_cases hk2 : (k : Int) < 2000
        · obtain ⟨J, hJ⟩ : ∃ J, IntKind.u64.wrap (id + (k : Int)) = J := ⟨_, rfl⟩
          have hJ0 : 0 ≤ J ∧ J ≤ 18446744073709551615 := by
            rw [← hJ, IntKind.wrap_u64]
            omega
          have hkw : IntKind.u64.wrap (k : Int) = (k : Int) := by rw [IntKind.wrap_u64]; omega
          obtain ⟨E, Fm, F, C1, C2⟩ := two_add HAB.out HS.out (id := J) cls shr hJ0.1 hJ0.2
          have HC1 := hid2 C1
          have HC2 := hid2 C2
          clear C1 C2 hJ0
          go_upto_region 25 with fail
          go_region_held3 (fun W => W.cell? ⟨w.heap.size, 2, none⟩ = some (.int .u64 id) ∧ W.cell? ⟨w.heap.size, 3, none⟩ = some (.int .i64 cls) ∧ W.cell? ⟨w.heap.size, 4, none⟩ = some (.int .i64 shr)) (go_keep)
            (first
              | (go_at_call 9; refine (HC1.out _ (Below.refl _ _).drew).mono ?_; rintro e w2 ⟨rfl, hM, hk⟩; have hr2 := hk _ _ _ (HRW.out.drew 1) (by decide) (by decide) (by decide) (by decide) (by decide); have d2 := hr2.cell 2 _ rfl; have d3 := hr2.cell 3 _ rfl; have d4 := hr2.cell 4 _ rfl; have HM := hid2 hM; have HR2 := hid2 hr2; have HK2 := hid2 hk; clear hM hk hr2 HC1)
              | (go_at_call 27; refine (HC2.out _ HM.out).mono ?_; rintro e w3 ⟨rfl, hM3, hk3⟩; have hr3 := hk3 _ _ _ HR2.out (by decide) (by decide) (by decide) (by decide) (by decide); have e2 := hr3.cell 2 _ rfl; have e3 := hr3.cell 3 _ rfl; have e4 := hr3.cell 4 _ rfl; have HM3 := hid2 hM3; have HK3 := hid2 hk3; clear hM3 hk3 hr3 HC2))
          go_wp2_with fail
          go_roundw
          case rel => exact ⟨k + 1, by omega, by go_num, HM3.out, HRK.out.trans ((Rk.of_below (Below.refl _ _).drew).trans (HK2.out.trans HK3.out))⟩
          case measure => simp [intOf]; omega
        · go_wp2_with fail
          go_ret
          exact ⟨rfl, HS.out, HK.out.trans HRK.out⟩
      · go_wp2_with fail
        go_ret
        exact ⟨rfl, HS.out, HK.out.trans HRK.out⟩
  go_wp2_with fail
  go_ret
  exact ⟨rfl, H1.out, HK.out⟩
end Go.Proofs.Ytjeokomocopjhaa
