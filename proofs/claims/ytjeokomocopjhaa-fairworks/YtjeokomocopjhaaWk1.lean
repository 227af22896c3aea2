import Derived.Test.YtjeokomocopjhaaWk0
namespace Go.Proofs.Ytjeokomocopjhaa
open Go.RowKit Go.Maps Go.Sort
set_option maxRecDepth 100000

set_option maxHeartbeats 16000000 in
theorem works_law {w : World} (quantum : Int) {a1 : Option Addr} {S : List OpF} (c1 : Nat) (hS : OpsAt w a1 S) (hl1 : S.length ≤ 2932031007402) :
    Calls Try.prog 5 #[.int .i64 quantum, .slice a1 S.length c1] w fun e w' => e = .returned (.bool true) ∧ Below w.heap.size w w' := by
  have HS := hid2 hS
  have HNW := hid2 (fa_new w quantum)
  have hn23 := eq23
  have HL := hid2 hl1
  have hlI : (S.length : Int) ≤ 2932031007402 := by omega
  generalize qN quantum = Q at *
  clear hS hl1
  go_enter Try.func5, Try.ntmps5
  go_upto_region 4 with (first
    | (go_at_call 7; refine HNW.out.mono ?_; rintro e w1 ⟨p, rfl, hF1, hb1⟩; have HF1 := hid2 hF1; have HB1 := hid2 hb1; clear hF1 hb1 HNW)
    | (go_at_call 8; refine (awake_any _).mono ?_; rintro e w2 ⟨rfl, hb2⟩; have HF2 := hid2 (HF1.out.below hb2); have HB2 := hid2 (HB1.out.trans (hb2.mono HB1.out.size)); clear hb2 HF1 HB1))
  go_wp2_with fail
  go_loopw [26] (fun s26 wr => ∃ (k : Nat) (F : Fs), k ≤ S.length ∧ s26 = .int .i64 k ∧ Fa w.heap.size wr p F ∧ Below w.heap.size w wr) (fun s _ => S.length - (intOf s).toNat)
  case atStart => exact ⟨0, _, Nat.zero_le _, rfl, HF2.out, HB2.out⟩
  case round =>
    obtain ⟨k, F, hk, rfl, hFa, hBe⟩ := hrel
    have HFa := hid2 hFa
    have HBE := hid2 hBe
    clear hFa hBe HF2 HB2
    by_cases hlt : k < S.length
    · have hkI : (k : Int) < (S.length : Int) := by omega
      have hk2 : (k : Int) ≤ 2932031007401 := by omega
      obtain ⟨gA, oA, rfl, hcA⟩ := HS.out.at_ k hlt
      have hid0 := HS.out.id0 S[k] (List.getElem_mem hlt)
      have a0 := cell_kept HBE.out (hcA 0 _ rfl)
      have a1 := cell_kept HBE.out (hcA 1 _ rfl)
      have a2 := cell_kept HBE.out (hcA 2 _ rfl)
      have a3 := cell_kept HBE.out (hcA 3 _ rfl)
      have a4 := cell_kept HBE.out (hcA 4 _ rfl)
      have a5 := cell_kept HBE.out (hcA 5 _ rfl)
      clear hcA
      generalize S[k] = o at *
      obtain ⟨K, ot, id, cls, shr, n⟩ := o
      simp only at a0 a1 a2 a3 a4 a5 hid0
      rw [Nat.add_zero] at a0
      go_upto_region 7 with fail
      refine wp_world ?_
      intro w3 hw3
      have hb3 : Below wr.heap.size wr w3 := by rw [hw3.out]; exact below_box wr _
      have RB : Row w3 wr.heap.size (OpF.mk K ot id cls shr n).cells 38 := by rw [hw3.out]; exact Row.new wr _ 38
      have HRB := hid2 RB
      have HF3 := hid2 (HFa.out.below hb3)
      have HB3 := hid2 (HBE.out.trans (hb3.mono HBE.out.size))
      have HID := hid2 hid0
      have b0 := RB.cell 0 _ rfl
      have b2 := RB.cell 2 _ rfl
      have b3 := RB.cell 3 _ rfl
      have b4 := RB.cell 4 _ rfl
      have b5 := RB.cell 5 _ rfl
      obtain ⟨gO, hgO⟩ : ∃ g, wr.heap.size = g := ⟨_, rfl⟩
      rw [hgO] at HRB b0 b2 b3 b4 b5 ⊢
      clear hw3 hb3 RB HFa HBE a0 a1 a2 a3 a4 a5 hid0 hgO
      by_cases h1 : K = 1
      · subst h1
        have HC := hid2 (fa_add_any HF3.out cls shr HID.out.1 HID.out.2)
        go_wp2_with (go_at_call 9; refine HC.out.mono ?_; rintro e w4 ⟨v4, F4, rfl, hF4, hM4⟩; have HF4 := hid2 hF4; have HM4 := hid2 hM4; clear hF4 hM4 HC)
        go_roundw
        case rel => exact ⟨k + 1, F4, hlt, by go_num, HF4.out, HB3.out.trans HM4.out.below⟩
        case measure => simp [intOf]; omega
      · by_cases h2 : K = 2
        · subst h2
          clear h1
          have HC := hid2 (fa_remove_any HF3.out HID.out.1 HID.out.2)
          go_wp2_with (go_at_call 12; refine HC.out.mono ?_; rintro e w4 ⟨v4, F4, rfl, hF4, hM4⟩; have HF4 := hid2 hF4; have HM4 := hid2 hM4; clear hF4 hM4 HC)
          go_roundw
          case rel => exact ⟨k + 1, F4, hlt, by go_num, HF4.out, HB3.out.trans HM4.out.below⟩
          case measure => simp [intOf]; omega
        · by_cases h3 : K = 3
          · subst h3
            clear h1 h2
            have HW := hid2 (fa_waiting HF3.out)
            have hwb := waits_bd HF3.out.1
            have hwb0 : 0 ≤ F.waits := hwb.1
            have hwb1 : F.waits ≤ 1125899906842624 := hwb.2
            go_upto_region 14 with (go_at_call 13; refine HW.out.mono ?_; rintro e w4 ⟨rfl, hb4⟩; have HF4 := hid2 (HF3.out.below hb4); have HR4 := hid2 (HRB.out.kept hb4 HRB.out.lt); have HB4 := hid2 (HB3.out.trans (hb4.mono HB3.out.size)); clear hb4 HW HF3 HB3 HRB)
            clear b0 b2 b3 b4 b5
            have b2 := HR4.out.cell 2 _ rfl
            have b5 := HR4.out.cell 5 _ rfl
            by_cases hok : ∃ x, fnd F.U id = some x ∧ x.s.moreE n = 0
            · obtain ⟨x, hx, hE⟩ := hok
              obtain ⟨hn1, hn2⟩ := moreE_ok hE
              have hxw := (HF4.out.1.wt x (fnd_some hx).1).1
              have hn3 : n ≤ 1099511627776 := by omega
              have HMo : Hid (∀ W, Below w4.heap.size w4 W → Calls Try.prog 10 #[pt p 0, .int .u64 id, .int .i64 n] W fun e w' => e = .returned (.int .i64 0) ∧ w'.cell? ⟨gO, 2, none⟩ = some (.int .u64 id) ∧ w'.cell? ⟨gO, 5, none⟩ = some (.int .i64 n) ∧ Fa w.heap.size w' p (F.more x n) ∧ Below w.heap.size w w') := fun W hW =>
                (fa_more (HF4.out.below hW) hx hE).mono (fun e w' ⟨he, hF, hM⟩ => by
                  have r := hM.row _ _ _ (HR4.out.kept hW HR4.out.lt) (by decide) (by decide) (by decide)
                  exact ⟨he, r.cell 2 _ rfl, r.cell 5 _ rfl, hF, (HB4.out.trans (hW.mono HB4.out.size)).trans hM.below⟩)
              have HW2 : Hid (∀ W, Fa w.heap.size W p (F.more x n) → Calls Try.prog 13 #[pt p 0] W fun e w' => e = .returned (.int .i64 (F.waits + n)) ∧ Below W.heap.size W w') := fun W hW => by
                rw [← more_waits HF4.out.1 (fnd_some hx).1 n]
                exact fa_waiting hW
              clear hx hE hn2 hxw
              generalize F.waits = T at *
              have hwr : IntKind.i64.wrap (T + n) = T + n := by rw [IntKind.wrap_i64]; omega
              go_region_held3 (fun w' => w'.cell? ⟨gO, 2, none⟩ = some (.int .u64 id) ∧ w'.cell? ⟨gO, 5, none⟩ = some (.int .i64 n)) (go_keep)
                (first
                  | (go_at_call 10; refine (HMo.out _ (below_drewN (Below.refl _ _) 1)).mono ?_; rintro e w5 ⟨rfl, d2, d5, hF5, hB5⟩; have HF5 := hid2 hF5; have HB5 := hid2 hB5; clear hF5 hB5)
                  | (go_at_call 13; refine (HW2.out _ HF5.out).mono ?_; rintro e w6 ⟨rfl, hb6⟩; have e2 := cell_kept hb6 d2; have e5 := cell_kept hb6 d5; have HF6 := hid2 (HF5.out.below hb6); have HB6 := hid2 (HB5.out.trans (hb6.mono HB5.out.size)); clear hb6))
              go_wp2_with fail
              go_roundw
              case rel => exact ⟨k + 1, F.more x n, hlt, by go_num, HF6.out, HB6.out⟩
              case measure => simp [intOf]; omega
            · obtain ⟨E, hE0, hCE⟩ : ∃ E : Int, E ≠ 0 ∧ ∀ W, Below w4.heap.size w4 W → Calls Try.prog 10 #[pt p 0, .int .u64 id, .int .i64 n] W fun e w' => e = .returned (.int .i64 E) ∧ Below W.heap.size W w' := by
                cases hf : fnd F.U id with
                | none => exact ⟨190, by decide, fun W hW => (fa_more_none (HF4.out.below hW) HID.out.1 HID.out.2 hf).mono (by rintro e w' ⟨rfl, rfl⟩; exact ⟨rfl, Below.refl _ _⟩)⟩
                | some x => exact ⟨193, by decide, fun W hW => (fa_more_no (HF4.out.below hW) hf (fun e => hok ⟨x, hf, e⟩)).mono (by rintro e w' ⟨rfl, rfl⟩; exact ⟨rfl, Below.refl _ _⟩)⟩
              have HTK := hid2 (toK hCE)
              have hEb : (E == 0) = false := by simpa using hE0
              clear hok hCE hE0
              generalize F.waits = T at *
              have q2 : ∀ d os, (grow (redrawn w4 d) os).cell? ⟨gO, 2, none⟩ = some (.int .u64 id) := fun d os => cell_kept (below_regrown w4 d os) b2
              have q5 : ∀ d os, (grow (redrawn w4 d) os).cell? ⟨gO, 5, none⟩ = some (.int .i64 n) := fun d os => cell_kept (below_regrown w4 d os) b5
              refine wp_region_quiet_below (by kernel_rfl) (by decide +kernel) ?_
              iterate 8 (quiet_step (first | (go_at_call 10; exact HTK.out _ _)))
              iterate 7 go_big_quiet_skip
              quiet_step (fail)
              refine wpQuiet_nil ?_
              intro _ hw'
              obtain ⟨⟨dq, osq⟩, hw''⟩ := hw'
              subst hw''
              have HBQ := hid2 (below_regrown w4 dq osq)
              go_wp2_with fail
              go_roundw
              case rel => exact ⟨k + 1, F, hlt, by go_num, HF4.out.below HBQ.out, HB4.out.trans (HBQ.out.mono HB4.out.size)⟩
              case measure => simp [intOf]; omega
          · by_cases h4 : K = 4
            · subst h4
              clear h1 h2 h3
              have HV := hid2 (fa_view HF3.out)
              have HFB := hid2 HF3.out.toB
              have hwb := waits_bd HF3.out.1
              have hwb0 : 0 ≤ F.waits := hwb.1
              have hwb1 : F.waits ≤ 1125899906842624 := hwb.2
              have HOK := hid2 HF3.out.1
              clear hwb b2 b3 b4
              go_upto_region 18 with (first
                | (go_at_call 14; refine HV.out.mono ?_; rintro e w4 ⟨gV, rfl, hRV, hgV, hb4⟩; have HRV := hid2 hRV; have HGV := hid2 hgV; have HR4 := hid2 (HRB.out.kept hb4 HRB.out.lt); have HFB4 := hid2 (HFB.out.below hb4); have HB4 := hid2 (HB3.out.trans (hb4.mono HB3.out.size)); have HW := hid2 (fa_waiting (HF3.out.below hb4)); clear hRV hgV hb4 HV HF3 HB3 HRB HFB)
                | (go_at_call 13; refine HW.out.mono ?_; rintro e w5 ⟨rfl, hb5⟩; have HRV5 := hid2 (HRV.out.kept hb5 HRV.out.lt); have HR5 := hid2 (HR4.out.kept hb5 HR4.out.lt); have HFB5 := hid2 (HFB4.out.below hb5); have HB5 := hid2 (HB4.out.trans (hb5.mono HB4.out.size)); clear hb5 HW HRV HR4 HFB4 HB4))
              clear b0 b5
              have b5 := HR5.out.cell 5 _ rfl
              by_cases hT : 1 ≤ n ∧ ∃ x B, F.Turn x B
              · obtain ⟨hn1, x, B, t⟩ := hT
                obtain ⟨tb1, tb2, tb3, tb4, tb5⟩ := turn_bd HOK.out t hn1
                have HNX := hid2 (fab_next HFB5.out hn1 t)
                have HWT := hid2 (next_waits HOK.out t (most := n))
                have hwp := waits_turn HOK.out t
                have hxm := t.mem
                have HUQ : Hid (∀ y ∈ F.U, y.num = x.num → y = x) := fun y hy e => HOK.out.rise.inj hy hxm e
                have hxc8 := HOK.out.cls x hxm
                generalize x.tk F.q n = N at *
                generalize F.next x n B = F6 at *
                go_upto_region 19 with (go_at_call 11; refine HNX.out.mono ?_; rintro e w6 ⟨rfl, hF6, hM6, hK6⟩; have HF6 := hid2 hF6; have HR6 := hid2 (hM6.row _ _ _ HR5.out (by decide) (by decide) (by decide)); have HRV6 := hid2 (hK6 _ _ _ HRV5.out HGV.out); have HB6 := hid2 (HB5.out.trans hM6.below); clear hF6 hM6 hK6 HNX HR5 HRV5 HB5 HFB5)
                refine wp_world ?_
                intro w7 hw7
                have hb7 : Below w6.heap.size w6 w7 := by rw [hw7.out]; exact below_box w6 _
                have RT : Row w7 w6.heap.size [.int .u64 x.num, .int .i64 N] 31 := by rw [hw7.out]; exact Row.new w6 _ 31
                have HRT := hid2 RT
                have HF7 := hid2 (HF6.out.below hb7)
                have HR7 := hid2 (HR6.out.kept hb7 HR6.out.lt)
                have HRV7 := hid2 (HRV6.out.kept hb7 HRV6.out.lt)
                have HB7 := hid2 (HB6.out.trans (hb7.mono HB6.out.size))
                obtain ⟨gT, hgT⟩ : ∃ g, w6.heap.size = g := ⟨_, rfl⟩
                rw [hgT] at HRT ⊢
                clear b5
                have b5 := HR7.out.cell 5 _ rfl
                have t0 := HRT.out.cell 0 _ rfl
                have t1 := HRT.out.cell 1 _ rfl
                obtain ⟨j0, hj0, hjx⟩ : ∃ j, ∃ h : j < F.U.length, F.U[j] = x := List.getElem_of_mem hxm
                have HJX := hid2 hjx
                have HTB := hid2 tb5
                have HXM := hid2 hxm
                have hlU : (F.U.length : Int) ≤ 1024 := by have := HOK.out.len; omega
                have hnb : ¬ n < 1 := by omega
                have hwp2 : (0 : Int) < F.waits := hwp
                clear hw7 hb7 RT HF6 HR6 HRV6 HB6 hgT hjx tb5 hxm t hwp
                generalize F.waits = T at *
                go_wp2_with fail
                obtain ⟨wo, hwo⟩ : ∃ wo, wo = wr := ⟨_, rfl⟩
                go_loopw [13, 14, 103] (fun s13 s14 s103 wx => ∃ (i : Nat) (at' least : Int), i ≤ F.U.length ∧ s13 = .int .i64 at' ∧ s14 = .int .i64 least ∧ s103 = .int .i64 i ∧ at' = (if j0 < i then (j0 : Int) else -1) ∧ (x.s.cls : Int) ≤ least ∧ least ≤ 8 ∧ (j0 < i → least = x.s.cls) ∧ Below w7.heap.size w7 wx) (fun _ _ s _ => F.U.length - (intOf s).toNat)
                case atStart => exact ⟨0, -1, 8, Nat.zero_le _, rfl, rfl, rfl, by rw [if_neg (Nat.not_lt_zero _)], by omega, by omega, fun h => absurd h (Nat.not_lt_zero _), Below.refl _ _⟩
                case round =>
                  obtain ⟨i, at', least, hi, rfl, rfl, rfl, hat, hl1, hl2, hl3, hbx⟩ := hrel
                  have HBX := hid2 hbx
                  have HL3 := hid2 hl3
                  have HAT := hid2 hat
                  clear hbx hl3 hat
                  by_cases hil : i < F.U.length
                  · have hiI : (i : Int) < (F.U.length : Int) := by omega
                    have rv := HRV7.out.kept HBX.out HRV7.out.lt
                    have rt := HRT.out.kept HBX.out HRT.out.lt
                    obtain ⟨v0, v1, v3⟩ := flat_row rv hil
                    have r0 := rt.cell 0 _ rfl
                    have hym : F.U[i] ∈ F.U := List.getElem_mem hil
                    have HEQ : Hid (F.U[i].num = x.num ↔ i = j0) := by
                      constructor
                      · intro e
                        have h2 : F.U[i].num = F.U[j0].num := by rw [e, HJX.out]
                        rcases Nat.lt_trichotomy i j0 with h | h | h
                        · have := (List.pairwise_iff_getElem.1 HOK.out.rise) i j0 hil hj0 h; omega
                        · exact h
                        · have := (List.pairwise_iff_getElem.1 HOK.out.rise) j0 i hj0 hil h; omega
                      · intro e
                        subst e
                        rw [HJX.out]
                    have hyw0 := (HOK.out.wt _ hym).1
                    have hyc := HOK.out.cls _ hym
                    have HYC := hid2 (HTB.out _ hym)
                    have HYX : Hid (i = j0 → F.U[i].s.wt = x.s.wt ∧ F.U[i].s.cls = x.s.cls) := fun e => by
                      subst e
                      rw [HJX.out]
                      exact ⟨rfl, rfl⟩
                    clear rv rt hym
                    generalize F.U[i].num = yn at *
                    generalize F.U[i].s.cls = yc at *
                    generalize F.U[i].s.wt = yw at *
                    have hycI : (yc : Int) ≤ 7 := by omega
                    by_cases he : yn = x.num
                    · have hi0 := HEQ.out.1 he
                      have hyx := HYX.out hi0
                      have hw0 : 0 < yw := by omega
                      have HFIN : Hid ((i : Int) = (if j0 < i + 1 then (j0 : Int) else -1) ∧ min least (yc : Int) = x.s.cls) := ⟨by rw [if_pos (by omega)]; omega, by rw [hyx.2]; omega⟩
                      subst he
                      clear hyx hi0 HYX HEQ
                      go_upto_region 26 with fail
                      go_quiet (fail)
                      go_wp2_with fail
                      go_roundw
                      case rel => exact ⟨i + 1, _, _, hil, rfl, rfl, by go_num, HFIN.out.1, by rw [HFIN.out.2]; exact Int.le_refl _, by rw [HFIN.out.2]; omega, fun _ => HFIN.out.2, below_drewN HBX.out _⟩
                      case measure => simp [intOf]; omega
                    · have hne : i ≠ j0 := fun e => he (HEQ.out.2 e)
                      have HFIN : Hid (at' = (if j0 < i + 1 then (j0 : Int) else -1)) := by
                        show _ = _
                        rw [HAT.out]
                        by_cases h2 : j0 < i
                        · rw [if_pos h2, if_pos (by omega)]
                        · rw [if_neg h2, if_neg (by omega)]
                      have HNE : Hid (j0 < i + 1 → j0 < i) := fun h => by have : i ≠ j0 := hne; omega
                      have heb : (yn == x.num) = false := by simpa using he
                      clear hne HEQ HYX
                      by_cases hw0 : 0 < yw
                      · have HMIN : Hid ((x.s.cls : Int) ≤ min least (yc : Int) ∧ (least = x.s.cls → min least (yc : Int) = x.s.cls)) := by
                          have := HYC.out hw0
                          exact ⟨by omega, fun e => by omega⟩
                        go_upto_region 26 with fail
                        go_quiet (fail)
                        go_wp2_with fail
                        go_roundw
                        case rel => exact ⟨i + 1, _, _, hil, rfl, rfl, by go_num, HFIN.out, HMIN.out.1, by omega, fun h => HMIN.out.2 (HL3.out (HNE.out h)), below_drewN HBX.out _⟩
                        case measure => simp [intOf]; omega
                      · go_upto_region 26 with fail
                        go_quiet (fail)
                        go_wp2_with fail
                        go_roundw
                        case rel => exact ⟨i + 1, _, _, hil, rfl, rfl, by go_num, HFIN.out, hl1, hl2, fun h => HL3.out (HNE.out h), below_drewN HBX.out _⟩
                        case measure => simp [intOf]; omega
                  · obtain rfl : i = F.U.length := by omega
                    have hiI : ¬ (F.U.length : Int) < (F.U.length : Int) := by omega
                    have hatj := HAT.out
                    rw [if_pos hj0] at hatj
                    have hlj := HL3.out hj0
                    subst hatj
                    subst hlj
                    have hj0I : (j0 : Int) < (F.U.length : Int) := by omega
                    have rv := HRV7.out.kept HBX.out HRV7.out.lt
                    have rt := HRT.out.kept HBX.out HRT.out.lt
                    have ro := HR7.out.kept HBX.out HR7.out.lt
                    obtain ⟨v0, v1, v3⟩ := flat_row rv hj0
                    rw [HJX.out] at v1 v3
                    have r1 := rt.cell 1 _ rfl
                    have o5 := ro.cell 5 _ rfl
                    have HF8 := hid2 (HF7.out.below HBX.out)
                    have HTK := hid2 (toK (n := 13) (args := #[pt p 0]) (v := .int .i64 (T - N)) (w := wr) (fun w' hb => by
                      rw [← HWT.out]
                      exact fa_waiting (HF8.out.below hb)))
                    have g1 : ∀ d os, (grow (redrawn wr d) os).cell? ⟨gV, j0 * 5 + 1, none⟩ = some (.int .i64 x.s.cls) := fun d os => cell_kept (below_regrown wr d os) v1
                    have g3 : ∀ d os, (grow (redrawn wr d) os).cell? ⟨gV, j0 * 5 + 3, none⟩ = some (.int .i64 x.s.wt) := fun d os => cell_kept (below_regrown wr d os) v3
                    have g5 : ∀ d os, (grow (redrawn wr d) os).cell? ⟨gT, 1, none⟩ = some (.int .i64 N) := fun d os => cell_kept (below_regrown wr d os) r1
                    have g6 : ∀ d os, (grow (redrawn wr d) os).cell? ⟨gO, 5, none⟩ = some (.int .i64 n) := fun d os => cell_kept (below_regrown wr d os) o5
                    have hq1 : ¬ N < 1 := by omega
                    have hq2 : ¬ n < N := by omega
                    have hq3 : ¬ x.s.wt < N := by omega
                    have hwT : IntKind.i64.wrap (T - N) = T - N := by rw [IntKind.wrap_i64]; have := (HOK.out.wt x HXM.out).2; omega
                    have d0 : decide ((j0 : Int) < 0) = false := by simp
                    have d1 : decide (N < 1) = false := decide_eq_false hq1
                    have d2 : decide (n < N) = false := decide_eq_false hq2
                    have d3 : decide (x.s.wt < N) = false := decide_eq_false hq3
                    clear rv rt ro v0 v1 v3 r1 o5
                    go_upto_region 31 with fail
                    refine wp_region_quiet_below (by kernel_rfl) (by decide +kernel) ?_
                    iterate 42 (quiet_step (first | (go_at_call 13; exact HTK.out _ _)))
                    refine wpQuiet_nil ?_
                    intro _ hw'
                    obtain ⟨⟨dq, osq⟩, hw''⟩ := hw'
                    subst hw''
                    have HBQ := hid2 (below_regrown wr dq osq)
                    go_wp2_with fail
                    go_roundw
                    case rel => exact ⟨k + 1, F6, hlt, by go_num, HF8.out.below HBQ.out, (HB7.out.trans (HBX.out.mono HB7.out.size)).trans (HBQ.out.mono (HB7.out.trans (HBX.out.mono HB7.out.size)).size)⟩
                    case measure => simp [intOf]; omega
              · have hE : (∀ c, c < 8 → F.R c = []) ∨ n < 1 := by
                  rcases Fs.turn_or HOK.out with h | h
                  · exact .inl h
                  · refine .inr ?_
                    rcases Int.lt_or_le n 1 with h' | h'
                    · exact h'
                    · exact absurd ⟨h', h⟩ hT
                have HNX := hid2 (fa_next_none HFB5.out.fa hE)
                have hwz : 1 ≤ n → F.waits = 0 := fun h => by
                  rcases hE with h' | h'
                  · exact waits_none HOK.out h'
                  · omega
                have hz := eq31z
                clear hT hE
                generalize F.waits = T at *
                go_upto_region 19 with (go_at_call 11; refine HNX.out.mono ?_; rintro e w6 ⟨rfl, hb6⟩; have HF6 := hid2 (HFB5.out.fa.below hb6); have HR6 := hid2 (HR5.out.kept hb6 HR5.out.lt); have HB6 := hid2 (HB5.out.trans (hb6.mono HB5.out.size)); clear hb6 HNX HR5 HB5 HFB5)
                refine wp_world ?_
                intro w7 hw7
                have hb7 : Below w6.heap.size w6 w7 := by rw [hw7.out]; exact below_box w6 _
                have RT : Row w7 w6.heap.size [.int .u64 0, .int .i64 0] 31 := by rw [hw7.out]; exact Row.new w6 _ 31
                have HF7 := hid2 (HF6.out.below hb7)
                have r7 := HR6.out.kept hb7 HR6.out.lt
                have HB7 := hid2 (HB6.out.trans (hb7.mono HB6.out.size))
                clear b5
                have b5 := r7.cell 5 _ rfl
                have t0 := RT.cell 0 _ rfl
                have t1 := RT.cell 1 _ rfl
                clear hw7 hb7 RT HF6 HR6 HB6 r7
                by_cases hn1 : n < 1
                · have hn2 : ¬ 1 ≤ n := by omega
                  clear hwz
                  go_wp2_with fail
                  go_roundw
                  case rel => exact ⟨k + 1, F, hlt, by go_num, HF7.out, HB7.out⟩
                  case measure => simp [intOf]; omega
                · have hn2 : 1 ≤ n := by omega
                  have hT0 := hwz hn2
                  subst hT0
                  clear hwz
                  go_wp2_with fail
                  go_roundw
                  case rel => exact ⟨k + 1, F, hlt, by go_num, HF7.out, HB7.out⟩
                  case measure => simp [intOf]; omega
            · go_wp2_with fail
              go_roundw
              case rel => exact ⟨k + 1, F, hlt, by go_num, HF3.out, HB3.out⟩
              case measure => simp [intOf]; omega
    · have hkI : ¬ (k : Int) < (S.length : Int) := by omega
      go_wp2_with fail
      go_ret
      exact ⟨rfl, HBE.out⟩
end Go.Proofs.Ytjeokomocopjhaa
