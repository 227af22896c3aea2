import Derived.Test.YtjeokomocopjhaaPf5
namespace Go.Proofs.Ytjeokomocopjhaa
open Go.RowKit Go.Maps
set_option maxRecDepth 100000

theorem paint_lo {col : Nat → Nat} {s a k : Nat} (h : k < s) : paint col s a k = col k := if_pos h
set_option maxHeartbeats 16000000 in
theorem plays_law {w : World} (qa qb : Int) {a1 : Option Addr} {S : List OpF} (c1 : Nat) (hS : OpsAt w a1 S) (hl1 : S.length ≤ 2932031007402) :
    Calls Try.prog 6 #[.int .i64 qa, .int .i64 qb, .slice a1 S.length c1] w fun e w' => e = .returned (.bool true) ∧ Below w.heap.size w w' := by
  have HS := hid2 hS
  have hn23 := eq23
  have hlI : (S.length : Int) ≤ 2932031007402 := by omega
  clear hS hl1
  have HN1 := hid2 (pf_new w qa (fun _ => 9) 0)
  go_enter Try.func6, Try.ntmps6
  go_upto_region 2 with (first
    | (go_at_call 7; refine HN1.out.mono ?_; rintro e w1 ⟨p0, rfl, hF1, hb1⟩; have HN2 := hid2 (pf_new w1 qb (paint (fun _ => 9) w.heap.size 0) 1); have HF1 := hid2 hF1; have HB1 := hid2 hb1; clear hF1 hb1 HN1)
    | (go_at_call 7; refine HN2.out.mono ?_; rintro e w2 ⟨p1, rfl, hF2, hb2⟩; have HF2 := hid2 hF2; have HB2 := hid2 hb2; clear hF2 hb2 HN2))
  refine wp_world ?_
  intro w3 hw3
  have hb3 : Below w2.heap.size w2 w3 := by rw [hw3.out]; exact below_box w2 _
  have RA : Row w3 w2.heap.size [pt p0 0, pt p1 0] 46 := by rw [hw3.out]; exact Row.new w2 _ 46
  have HF0 := hid2 (((HF1.out.repaint HB2.out (col' := paint (paint (fun _ => 9) w.heap.size 0) w1.heap.size 1) (fun k hk => paint_lo hk))).below hb3)
  have HG0 := hid2 (HF2.out.below hb3)
  have HBW := hid2 ((HB1.out.trans (HB2.out.mono HB1.out.size)).trans (hb3.mono (Nat.le_trans HB1.out.size HB2.out.size)))
  have HRA := hid2 RA
  clear hb3 RA hw3
  obtain ⟨bf, hbf⟩ : ∃ g, w2.heap.size = g := ⟨_, rfl⟩
  rw [hbf] at HRA ⊢
  have HC9 : Hid (∀ k, k < w.heap.size → paint (paint (fun _ => 9) w.heap.size 0) w1.heap.size 1 k = 9) := fun k hk => by rw [paint_lo (Nat.lt_of_lt_of_le hk HB1.out.size), paint_lo hk]
  generalize paint (paint (fun _ => 9) w.heap.size 0) w1.heap.size 1 = col0 at *
  clear HF1 HF2 HB1 HB2 hbf
  have HN1 := hid2 (pr_new w3 qa col0 2)
  go_upto_region 3 with (first
    | (go_at_call 15; refine HN1.out.mono ?_; rintro e w4 ⟨r0, rfl, hF1, hb1⟩; have HN2 := hid2 (pr_new w4 qb (paint col0 w3.heap.size 2) 3); have HF1 := hid2 hF1; have HB1 := hid2 hb1; clear hF1 hb1 HN1)
    | (go_at_call 15; refine HN2.out.mono ?_; rintro e w5 ⟨r1, rfl, hF2, hb2⟩; have HF2 := hid2 hF2; have HB2 := hid2 hb2; clear hF2 hb2 HN2))
  refine wp_world ?_
  intro w6 hw6
  have hb6 : Below w5.heap.size w5 w6 := by rw [hw6.out]; exact below_box w5 _
  have RA : Row w6 w5.heap.size [pt r0 0, pt r1 0] 49 := by rw [hw6.out]; exact Row.new w5 _ 49
  have hB36 := (HB1.out.trans (HB2.out.mono HB1.out.size)).trans (hb6.mono (Nat.le_trans HB1.out.size HB2.out.size))
  have hc2 : ∀ k, k < w3.heap.size → paint (paint col0 w3.heap.size 2) w4.heap.size 3 k = col0 k := fun k hk => by rw [paint_lo (Nat.lt_of_lt_of_le hk HB1.out.size), paint_lo hk]
  have HPL : Hid (PlS w p0 p1 r0 r1 bf w5.heap.size w6) := ⟨⟨paint (paint col0 w3.heap.size 2) w4.heap.size 3, Fs.zero (qN qa), Fs.zero (qN qb), HF0.out.repaint hB36 hc2, (HF1.out.repaint HB2.out (fun k hk => paint_lo hk)).below hb6, HG0.out.repaint hB36 hc2, HF2.out.below hb6, fun k hk => (hc2 k (Nat.lt_of_lt_of_le hk HBW.out.size)).trans (HC9.out k hk)⟩, HRA.out.kept hB36 HRA.out.lt, RA, HBW.out.trans (hB36.mono HBW.out.size)⟩
  clear hb6 RA hB36 hc2 hw6
  obtain ⟨br, hbr⟩ : ∃ g, w5.heap.size = g := ⟨_, rfl⟩
  rw [hbr] at HPL ⊢
  have x0 := HPL.out.af.cell 0 _ rfl
  have x1 := HPL.out.af.cell 1 _ rfl
  clear HF0 HG0 HBW HRA HC9 HF1 HF2 HB1 HB2 hbr
  go_wp2_with fail
  go_loopw [33] (fun s wr => ∃ k : Nat, k ≤ S.length ∧ s = .int .i64 k ∧ PlS w p0 p1 r0 r1 bf br wr) (fun s _ => S.length + 1 - (intOf s).toNat)
  case atStart => exact ⟨0, Nat.zero_le _, rfl, HPL.out⟩
  case round =>
    obtain ⟨k, hk, rfl, hPl⟩ := hrel
    have HP := hid2 hPl
    clear hPl HPL x0 x1
    by_cases hlt : k < S.length
    · have hkI : (k : Int) < (S.length : Int) := by omega
      have hk2 : (k : Int) ≤ 2932031007401 := by omega
      obtain ⟨gA, oA, rfl, hcA⟩ := HS.out.at_ k hlt
      have hid0 := HS.out.id0 S[k] (List.getElem_mem hlt)
      have a0 := cell_kept HP.out.be (hcA 0 _ rfl)
      have a1 := cell_kept HP.out.be (hcA 1 _ rfl)
      have a2 := cell_kept HP.out.be (hcA 2 _ rfl)
      have a3 := cell_kept HP.out.be (hcA 3 _ rfl)
      have a4 := cell_kept HP.out.be (hcA 4 _ rfl)
      have a5 := cell_kept HP.out.be (hcA 5 _ rfl)
      clear hcA
      generalize S[k] = o at *
      obtain ⟨K, ot, id, cls, shr, n⟩ := o
      simp only at a0 a1 a2 a3 a4 a5 hid0
      rw [Nat.add_zero] at a0
      go_upto_region 8 with fail
      refine wp_world ?_
      intro w7 hw7
      have hb7 : Below wr.heap.size wr w7 := by rw [hw7.out]; exact below_box wr _
      have RB : Row w7 wr.heap.size (OpF.mk K ot id cls shr n).cells 38 := by rw [hw7.out]; exact Row.new wr _ 38
      have HRB := hid2 RB
      have HP7 := hid2 (HP.out.below hb7)
      have HID := hid2 hid0
      have b0 := RB.cell 0 _ rfl
      have b1 := RB.cell 1 _ rfl
      have b2 := RB.cell 2 _ rfl
      have b3 := RB.cell 3 _ rfl
      have b4 := RB.cell 4 _ rfl
      have b5 := RB.cell 5 _ rfl
      obtain ⟨gO, hgO⟩ : ∃ g, wr.heap.size = g := ⟨_, rfl⟩
      rw [hgO] at HRB b0 b1 b2 b3 b4 b5 ⊢
      clear hw7 hb7 RB HP a0 a1 a2 a3 a4 a5 hid0 hgO
      cases ot with
      | false =>
        have HC := hid2 ((HP7.out.below (Below.refl _ _).drew).call0 K false cls shr n HID.out.1 HID.out.2)
        have y0 := HP7.out.af.cell 0 _ rfl
        have y1 := HP7.out.ar.cell 0 _ rfl
        go_upto_region 11 with fail
        go_region_held3 (fun W => W.cell? ⟨bf, 0, none⟩ = some (pt p0 0) ∧ W.cell? ⟨br, 0, none⟩ = some (pt r0 0) ∧ W.cell? ⟨gO, 0, none⟩ = some (.int .i64 K) ∧ W.cell? ⟨gO, 1, none⟩ = some (.bool false) ∧ W.cell? ⟨gO, 2, none⟩ = some (.int .u64 id) ∧ W.cell? ⟨gO, 3, none⟩ = some (.int .i64 cls) ∧ W.cell? ⟨gO, 4, none⟩ = some (.int .i64 shr) ∧ W.cell? ⟨gO, 5, none⟩ = some (.int .i64 n)) (go_keep)
          (first
            | (go_at_call 16; refine HC.out.mono ?_; rintro e w8 ⟨rfl, hP, hk⟩; have z0 := hP.af.cell 0 _ rfl; have z1 := hP.ar.cell 0 _ rfl; have hr8 := hk _ _ _ (HRB.out.drew 1) (by decide) (by decide) (by decide) (by decide) (by decide); have q0 := hr8.cell 0 _ rfl; have q1 := hr8.cell 1 _ rfl; have q2 := hr8.cell 2 _ rfl; have q3 := hr8.cell 3 _ rfl; have q4 := hr8.cell 4 _ rfl; have q5 := hr8.cell 5 _ rfl; have HP8 := hid2 hP; clear hP hk hr8 HC))
        go_wp2_with fail
        go_roundw
        case rel => exact ⟨k + 1, hlt, by go_num, HP8.out⟩
        case measure => simp [intOf]; omega
      | true =>
        have HC := hid2 ((HP7.out.below (Below.refl _ _).drew).call1 K true cls shr n HID.out.1 HID.out.2)
        have y0 := HP7.out.af.cell 1 _ rfl
        have y1 := HP7.out.ar.cell 1 _ rfl
        go_upto_region 11 with fail
        go_region_held3 (fun W => W.cell? ⟨bf, 1, none⟩ = some (pt p1 0) ∧ W.cell? ⟨br, 1, none⟩ = some (pt r1 0) ∧ W.cell? ⟨gO, 0, none⟩ = some (.int .i64 K) ∧ W.cell? ⟨gO, 1, none⟩ = some (.bool true) ∧ W.cell? ⟨gO, 2, none⟩ = some (.int .u64 id) ∧ W.cell? ⟨gO, 3, none⟩ = some (.int .i64 cls) ∧ W.cell? ⟨gO, 4, none⟩ = some (.int .i64 shr) ∧ W.cell? ⟨gO, 5, none⟩ = some (.int .i64 n)) (go_keep)
          (first
            | (go_at_call 16; refine HC.out.mono ?_; rintro e w8 ⟨rfl, hP, hk⟩; have z0 := hP.af.cell 1 _ rfl; have z1 := hP.ar.cell 1 _ rfl; have hr8 := hk _ _ _ (HRB.out.drew 1) (by decide) (by decide) (by decide) (by decide) (by decide); have q0 := hr8.cell 0 _ rfl; have q1 := hr8.cell 1 _ rfl; have q2 := hr8.cell 2 _ rfl; have q3 := hr8.cell 3 _ rfl; have q4 := hr8.cell 4 _ rfl; have q5 := hr8.cell 5 _ rfl; have HP8 := hid2 hP; clear hP hk hr8 HC))
        go_wp2_with fail
        go_roundw
        case rel => exact ⟨k + 1, hlt, by go_num, HP8.out⟩
        case measure => simp [intOf]; omega
    · obtain rfl : k = S.length := by omega
      clear hlt
      go_wp2_with fail
      refine wp_world ?_
      intro wq hwq
      rw [← hwq.out] at HP
      go_loopw [12] (fun s wz => ∃ j : Nat, j ≤ 2 ∧ s = .int .i64 j ∧ PlS w p0 p1 r0 r1 bf br wz) (fun s _ => 3 - (intOf s).toNat)
      case atStart => exact ⟨0, Nat.zero_le _, rfl, HP.out⟩
      case round =>
        obtain ⟨j, hj, rfl, hPl⟩ := hrel
        clear HP
        have HP := hid2 hPl
        clear hPl
        by_cases hj2 : j < 2
        · have hjI : (j : Int) < 2 := by omega
          have hj0 : (0 : Int) ≤ (j : Int) := by omega
          obtain ⟨p, r, e1, e2, F, kF, ⟨cF, hF⟩, cR, aR, hR⟩ := HP.out.look j hj2
          have x0 := HP.out.af.cell j _ e1
          have x1 := HP.out.ar.cell j _ e2
          have HFa := hid2 hF
          have HRa := hid2 hR
          have hlen := kF.len
          clear hF hR e1 e2 kF
          have HVW := hid2 (fa_view (HFa.out.below (Below.refl _ _).drew).fa)
          go_upto_region 17 with fail
          go_region_held3 (fun W => W.cell? ⟨bf, j, none⟩ = some (pt p 0) ∧ W.cell? ⟨br, j, none⟩ = some (pt r 0)) (go_keep)
            (first
              | (go_at_call 14; refine HVW.out.mono ?_; rintro e w2 ⟨g, rfl, hr, hg, hb2⟩; have HV2 := hid2 hr; have HB2 := hid2 ((Below.refl _ _).drew.trans hb2); have HRV := hid2 (pr_view (HRa.out.below HB2.out)); have y0 := cell_kept HB2.out x0; have y1 := cell_kept HB2.out x1; clear hr hb2 hg HVW)
              | (go_at_call 18; refine HRV.out.mono ?_; rintro e w3 ⟨v, rfl, hv, hb3⟩; have HS3 := hid2 (same_view (HV2.out.kept hb3 HV2.out.lt) hv hlen); have HB3 := hid2 (HB2.out.trans (hb3.mono HB2.out.size)); have z0 := cell_kept HB3.out x0; have z1 := cell_kept HB3.out x1; clear hv hb3 HRV)
              | (go_at_call 17; refine HS3.out.mono ?_; rintro e w4 ⟨rfl, q4, rfl⟩; have HW4 := hid2 (fa_waiting (HFa.out.below (below_drewN HB3.out q4)).fa); clear HS3)
              | (go_at_call 13; refine HW4.out.mono ?_; rintro e w5 ⟨rfl, hb5⟩; have HB5 := hid2 ((below_drewN HB3.out q4).trans (hb5.mono (below_drewN HB3.out q4).size)); have HW5 := hid2 (pr_waiting (HRa.out.below HB5.out)); have v0 := cell_kept HB5.out x0; have v1 := cell_kept HB5.out x1; clear hb5 HW4)
              | (go_at_call 19; refine HW5.out.mono ?_; rintro e w6 ⟨rfl, hb6⟩; have HB6 := hid2 (HB5.out.trans (hb6.mono HB5.out.size)); have t0 := cell_kept HB6.out x0; have t1 := cell_kept HB6.out x1; clear hb6 HW5))
          go_wp2_with fail
          go_roundw
          case rel => exact ⟨j + 1, by omega, by go_num, HP.out.below HB6.out⟩
          case measure => simp [intOf]; omega
        · obtain rfl : j = 2 := by omega
          go_wp2_with fail
          go_ret
          exact ⟨rfl, HP.out.be⟩
end Go.Proofs.Ytjeokomocopjhaa
