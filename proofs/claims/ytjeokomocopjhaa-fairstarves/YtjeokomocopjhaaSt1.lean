import Derived.Test.YtjeokomocopjhaaSt0
import Derived.Test.YtjeokomocopjhaaSh2
namespace Go.Proofs.Ytjeokomocopjhaa
open Go.RowKit Go.Maps
set_option maxRecDepth 100000

set_option maxHeartbeats 8000000 in
theorem starves_law {w : World} (quantum ahead : Int) {a1 a3 : Option Addr} {S W : List Int} (c1 c3 : Nat) (hS : IntsAt w a1 S) (hM : IntsAt w a3 W) (hl1 : S.length ≤ 140737488355328) (hl2 : W.length ≤ 140737488355328) :
    Calls Try.prog 4 #[.int .i64 quantum, .slice a1 S.length c1, .int .i64 ahead, .slice a3 W.length c3] w fun e w' => e = .returned (.bool true) ∧ Below w.heap.size w w' := by
  have HS := hid2 hS
  have HM := hid2 hM
  have HNW := hid2 (fa_new w quantum)
  have hn23 := eq23
  have hqe := qN_eq quantum
  have hqb := qN_bd quantum
  generalize qN quantum = Q at *
  obtain ⟨n, hn⟩ : ∃ n : Nat, (n : Int) = min (S.length : Int) 20 := ⟨(min (S.length : Int) 20).toNat, by omega⟩
  have hn' : min (S.length : Int) 20 = (n : Int) := hn.symm
  have HN := hid2 (show n ≤ S.length ∧ n ≤ 20 by omega)
  have HL := hid2 (And.intro hl1 hl2)
  have HQ := hid2 hqb
  have HSH : Hid (∀ y, 1 ≤ shOf S y ∧ shOf S y ≤ 255) := fun y => shOf_bd S y
  clear hS hM hn hl1 hl2 hqb
  go_enter Try.func4, Try.ntmps4
  go_upto_region 4 with (first
    | (go_at_call 7; refine HNW.out.mono ?_; rintro e w1 ⟨p, rfl, hF1, hb1⟩; have HF1 := hid2 hF1; have HB1 := hid2 hb1; clear hF1 hb1 HNW)
    | (go_at_call 8; refine (awake_any _).mono ?_; rintro e w2 ⟨rfl, hb2⟩; have HF2 := hid2 (HF1.out.below hb2); have HB2 := hid2 (HB1.out.trans (hb2.mono HB1.out.size)); clear hb2 HF1 HB1))
  go_wp2_with fail
  go_loopw [12, 13] (fun s12 s13 wr => ∃ (i : Nat) (F : Fs), i ≤ n ∧ s12 = .int .i64 (sumTo (shOf S) i) ∧ s13 = .int .i64 i ∧ Fa w.heap.size wr p F ∧ StI Q i (shOf S) F ∧ Below w.heap.size w wr) (fun _ s _ => n - (intOf s).toNat)
  case atStart => exact ⟨0, Fs.zero Q, Nat.zero_le _, rfl, rfl, HF2.out, zero_St Q _, HB2.out⟩
  case round =>
    obtain ⟨i, F, hi, rfl, rfl, hFa, hI, hBe⟩ := hrel
    have HFa := hid2 hFa
    have HI := hid2 hI
    have HBE := hid2 hBe
    have hsb := sumTo_bd HSH.out i
    have HSUM : Hid (sumTo (shOf S) (i + 1) = sumTo (shOf S) i + shOf S ((i : Int) + 1)) := rfl
    have hi20 : (i : Int) ≤ 20 := by have := HN.out; omega
    have hsb0 : 0 ≤ sumTo (shOf S) i := hsb.1
    have hsb1 : sumTo (shOf S) i ≤ 5100 := by omega
    clear hFa hI hBe HF2 HB2 hsb
    by_cases hlt : i < n
    · have hii : (i : Int) < (n : Int) := by omega
      have hi19 : (i : Int) ≤ 19 := by have := HN.out; omega
      have hiS : i < S.length := by have := HN.out; omega
      have hiSI : (i : Int) < (S.length : Int) := by omega
      obtain ⟨gA, oA, rfl, hcA⟩ := HS.out i hiS
      have cA := cell_kept HBE.out hcA
      have HSA := hid2 (shOf_at hiS)
      generalize S[i] = z at *
      have hwz : IntKind.u64.wrap z = z % 18446744073709551616 := IntKind.wrap_u64 z
      obtain ⟨u, hu⟩ : ∃ u, z % 18446744073709551616 = u := ⟨_, rfl⟩
      have hu0 : 0 ≤ u := by omega
      have hu1 : u ≤ 18446744073709551615 := by omega
      rw [hu] at hwz
      rw [hu] at HSA
      obtain ⟨m, hm⟩ : ∃ m, u % 255 = m := ⟨_, rfl⟩
      have hm0 : 0 ≤ m := by omega
      have hm1 : m ≤ 254 := by omega
      have hmt : u.tmod 255 = m := by rw [Int.tmod_eq_emod_of_nonneg hu0]; exact hm
      rw [hm] at HSA
      rw [HSA.out] at HSUM
      clear hu hcA
      have hne : ∀ x ∈ F.U, x.num ≠ (i : Int) + 1 := fun x hx => by have := (HI.out.al x hx).2.2.1; omega
      have HAdd := hid2 (fa_lay HFa.out (id := (i : Int) + 1) (s := 1 + m) (c := 2) (by omega) (by omega) hne (by decide) (by omega) (by have := HI.out.len; omega))
      have hw1 : IntKind.u64.wrap ((i : Int) + 1) = (i : Int) + 1 := by rw [IntKind.wrap_u64]; omega
      generalize sumTo (shOf S) i = T at *
      clear hne HFa
      by_cases hiW : i < W.length
      · have hiWI : (i : Int) < (W.length : Int) := by omega
        obtain ⟨gB, oB, rfl, hcB⟩ := HM.out i hiW
        have cB := cell_kept HBE.out hcB
        generalize W[i] = z2 at *
        have hwz2 : IntKind.u64.wrap z2 = z2 % 18446744073709551616 := IntKind.wrap_u64 z2
        obtain ⟨u2, hu2⟩ : ∃ u, z2 % 18446744073709551616 = u := ⟨_, rfl⟩
        have hv0 : 0 ≤ u2 := by omega
        have hv1 : u2 ≤ 18446744073709551615 := by omega
        rw [hu2] at hwz2
        obtain ⟨m2, hm2⟩ : ∃ m, u2 % 100000 = m := ⟨_, rfl⟩
        have hn0 : 0 ≤ m2 := by omega
        have hn1 : m2 ≤ 99999 := by omega
        have hmt2 : u2.tmod 100000 = m2 := by rw [Int.tmod_eq_emod_of_nonneg hv0]; exact hm2
        clear hu2 hcB
        go_wp2_with (first
          | (go_at_call 9; refine HAdd.out.mono ?_; rintro e w5 ⟨rfl, g, hm5, hMore⟩; have HM5 := hid2 hm5; have HMore := hid2 (hMore (1 + m2) (by omega) (by omega)); clear hm5 hMore HAdd)
          | (go_at_call 10; refine HMore.out.mono ?_; rintro e w6 ⟨rfl, hF6, hm6⟩; have HM6 := hid2 (HM5.out.trans hm6); have HF6 := hid2 hF6; clear hF6 hm6 HMore HM5))
        go_roundw
        case rel => exact ⟨i + 1, _, hlt, by rw [HSUM.out], by go_num, HF6.out, HI.out.lay HSA.out (by omega), HBE.out.trans HM6.out.below⟩
        case measure => simp [intOf]; omega
      · have hiWI : ¬ (i : Int) < (W.length : Int) := by omega
        go_wp2_with (first
          | (go_at_call 9; refine HAdd.out.mono ?_; rintro e w5 ⟨rfl, g, hm5, hMore⟩; have HM5 := hid2 hm5; have HMore := hid2 (hMore 1073741824 (by decide) (by decide)); clear hm5 hMore HAdd)
          | (go_at_call 10; refine HMore.out.mono ?_; rintro e w6 ⟨rfl, hF6, hm6⟩; have HM6 := hid2 (HM5.out.trans hm6); have HF6 := hid2 hF6; clear hF6 hm6 HMore HM5))
        go_roundw
        case rel => exact ⟨i + 1, _, hlt, by rw [HSUM.out], by go_num, HF6.out, HI.out.lay HSA.out (by decide), HBE.out.trans HM6.out.below⟩
        case measure => simp [intOf]; omega
    · obtain rfl : i = n := by omega
      have hii : ¬ (i : Int) < (i : Int) := by omega
      have hwz : IntKind.u64.wrap ahead = ahead % 18446744073709551616 := IntKind.wrap_u64 ahead
      obtain ⟨u, hu⟩ : ∃ u, ahead % 18446744073709551616 = u := ⟨_, rfl⟩
      have hu0 : 0 ≤ u := by omega
      have hu1 : u ≤ 18446744073709551615 := by omega
      rw [hu] at hwz
      obtain ⟨m, hm⟩ : ∃ m, u % 50 = m := ⟨_, rfl⟩
      have hm0 : 0 ≤ m := by omega
      have hm1 : m ≤ 49 := by omega
      have hmt : u.tmod 50 = m := by rw [Int.tmod_eq_emod_of_nonneg hu0]; exact hm
      clear hu HSUM
      have HT : Hid (sumTo (shOf S) i = sumTo (shOf S) i) := rfl
      obtain ⟨T, hT⟩ : ∃ T, sumTo (shOf S) i = T := ⟨_, rfl⟩
      rw [hT] at hsb0 hsb1 ⊢
      have HTT := hid2 hT
      clear HT hT
      go_wp2_with fail
      obtain ⟨wo, hwo⟩ : ∃ wo, wo = wr := ⟨_, rfl⟩
      go_loopw [16] (fun s16 wq => ∃ (k : Nat) (F : Fs), k ≤ 50 ∧ s16 = .int .i64 k ∧ Fa w.heap.size wq p F ∧ StI Q i (shOf S) F ∧ Below w.heap.size w wq) (fun s _ => 50 - (intOf s).toNat)
      case atStart => exact ⟨0, F, by decide, rfl, HFa.out, HI.out, HBE.out⟩
      case round =>
        obtain ⟨k, F2, hk, rfl, hFa2, hI2, hBe2⟩ := hrel
        have HFa2 := hid2 hFa2
        have HI2 := hid2 hI2
        have HBE2 := hid2 hBe2
        clear hFa2 hI2 hBe2 HFa HI HBE
        have hk50 : (k : Int) ≤ 50 := by omega
        by_cases hkm : (k : Int) < m
        · have hk49 : (k : Int) ≤ 48 := by omega
          obtain ⟨r, hr⟩ : ∃ r, (k : Int) % 7 = r := ⟨_, rfl⟩
          have hr0 : 0 ≤ r := by omega
          have hr1 : r ≤ 6 := by omega
          have hrt : (k : Int).tmod 7 = r := by rw [Int.tmod_eq_emod_of_nonneg (by omega)]; exact hr
          have HNX : Hid (Calls Try.prog 11 #[pt p 0, .int .i64 (1 + r)] wr fun e w' => ∃ v, e = .returned v ∧ ∃ F', Fa w.heap.size w' p F' ∧ StI Q i (shOf S) F' ∧ Mo w.heap.size wr w') := by
            rcases Fs.turn_or HFa2.out.1 with h0 | ⟨x, B, t⟩
            · exact (fa_next_none HFa2.out (.inl h0)).mono (fun _ _ ⟨he, hb⟩ => ⟨_, he, F2, HFa2.out.below hb, HI2.out, Mo.of_below hb HFa2.out.size⟩)
            · exact (fa_next HFa2.out (show 1 ≤ 1 + r by omega) t).mono (fun _ _ ⟨he, hF, hM⟩ => ⟨_, he, _, hF, HI2.out.next HFa2.out.1 t (by omega), hM⟩)
          go_wp2_with (go_at_call 11; refine HNX.out.mono ?_; rintro e w6 ⟨v, rfl, F3, hF6, hI6, hm6⟩; have HF6 := hid2 hF6; have HI6 := hid2 hI6; have HM6 := hid2 hm6; clear hF6 hI6 hm6 HNX)
          go_roundw
          case rel => exact ⟨k + 1, F3, by omega, by go_num, HF6.out, HI6.out, HBE2.out.trans HM6.out.below⟩
          case measure => simp [intOf]; omega
        · have hne : ∀ x ∈ F2.U, x.num ≠ 77 := fun x hx => by have := (HI2.out.al x hx).2.2.1; omega
          have HAdd := hid2 (fa_lay HFa2.out (id := 77) (s := 1) (c := 2) (by decide) (by decide) hne (by decide) (by decide) (by have := HI2.out.len; omega))
          have HSJ := hid2 (fun g => HI2.out.wait HFa2.out.1 (by omega) (fun y => by have := HSH.out y; omega) g)
          clear hne HFa2 HI2
          go_upto_region 23 with (first
            | (go_at_call 9; refine HAdd.out.mono ?_; rintro e w5 ⟨rfl, g, hm5, hMore⟩; have HM5 := hid2 hm5; have HMore := hid2 (hMore 3 (by decide) (by decide)); clear hm5 hMore HAdd)
            | (go_at_call 10; refine HMore.out.mono ?_; rintro e wL ⟨rfl, hF6, hm6⟩; have HM6 := hid2 (HM5.out.trans hm6); have HFL := hid2 hF6; clear hF6 hm6 HMore HM5))
          have HJL := hid2 (HSJ.out g)
          have HEL := hid2 (HBE2.out.trans HM6.out.below)
          rw [HTT.out] at HJL
          generalize F2.lay 77 g 2 1 3 = FL at *
          generalize (F2.R 2).length = mL at *
          have hp := prod_bd (show 0 ≤ Q ∧ Q ≤ 65536 by have := HQ.out; omega) (show 0 ≤ T ∧ T ≤ 5100 by omega)
          obtain ⟨P, hP⟩ : ∃ P, Q * T = P := ⟨_, rfl⟩
          rw [hP] at hp HJL
          have hP0 : 0 ≤ P := hp.1
          have hP1 : P ≤ 334233600 := by omega
          clear hp HSJ HM6 HBE2
          go_wp2_with fail
          obtain ⟨wo2, hwo2⟩ : ∃ wo, wo = wr := ⟨_, rfl⟩
          go_loopw [17] (fun s17 wq => ∃ (m : Nat) (F : Fs) (o : Int), s17 = .int .i64 o ∧ 0 ≤ o ∧ o ≤ P ∧ StJ Q (shOf S) P o m F ∧ Fa w.heap.size wq p F ∧ Below w.heap.size w wq) (fun s _ => (P - intOf s).toNat)
          case atStart => exact ⟨mL, FL, 0, rfl, Int.le_refl _, hP0, HJL.out, HFL.out, HEL.out⟩
          case round =>
            obtain ⟨m, F4, o, rfl, ho0, ho1, hJ, hFa, hBe⟩ := hrel
            have HJ := hid2 hJ
            have HFa := hid2 hFa
            have HBE := hid2 hBe
            clear hJ hFa hBe HJL HFL HEL
            cases m with
            | zero =>
              obtain ⟨x, B, t, hx, hN1, hN2⟩ := HJ.out.own HFa.out.1
              have HNX := hid2 (fa_next HFa.out (most := 1073741824) (by decide) t)
              rw [hx] at HNX
              generalize x.tk F4.q 1073741824 = N at *
              clear t hx
              go_upto_region 25 with (go_at_call 11; refine HNX.out.mono ?_; rintro e w6 ⟨rfl, hF6, hm6⟩; have HM6 := hid2 hm6; clear hF6 hm6 HNX)
              refine wp_world ?_
              intro w7 hw7
              have hb7 : Below w6.heap.size w6 w7 := by rw [hw7.out]; exact below_box w6 _
              have RT : Row w7 w6.heap.size [.int .u64 77, .int .i64 N] 31 := by rw [hw7.out]; exact Row.new w6 _ 31
              have HB7 := hid2 ((HBE.out.trans HM6.out.below).trans (hb7.mono (HBE.out.trans HM6.out.below).size))
              have t0 := RT.cell 0 _ rfl
              have t1 := RT.cell 1 _ rfl
              clear hw7 hb7 RT
              go_wp2_with fail
              go_ret
              exact ⟨by first | rfl | simp, HB7.out⟩
            | succ m =>
              obtain ⟨x, B, t, hx, hN1, hN2, hSt⟩ := HJ.out.step HFa.out.1 (fun y => by have := HSH.out y; omega)
              have HNX := hid2 (fa_next HFa.out (most := 1073741824) (by decide) t)
              have HST := hid2 hSt
              generalize x.tk F4.q 1073741824 = N at *
              generalize F4.next x 1073741824 B = F5 at *
              generalize x.num = y at *
              have hPn : ¬ P < o + N := by omega
              have hN3 : ¬ N < 1 := by omega
              have hN4 : N ≤ 334233600 := by omega
              clear t hSt HJ
              go_upto_region 25 with (go_at_call 11; refine HNX.out.mono ?_; rintro e w6 ⟨rfl, hF6, hm6⟩; have HM6 := hid2 hm6; have HF6 := hid2 hF6; clear hF6 hm6 HNX)
              refine wp_world ?_
              intro w7 hw7
              have hb7 : Below w6.heap.size w6 w7 := by rw [hw7.out]; exact below_box w6 _
              have RT : Row w7 w6.heap.size [.int .u64 y, .int .i64 N] 31 := by rw [hw7.out]; exact Row.new w6 _ 31
              have HB7 := hid2 ((HBE.out.trans HM6.out.below).trans (hb7.mono (HBE.out.trans HM6.out.below).size))
              have HF7 := hid2 (HF6.out.below hb7)
              have t0 := RT.cell 0 _ rfl
              have t1 := RT.cell 1 _ rfl
              clear hw7 hb7 RT
              go_wp2_with fail
              go_roundw
              case rel => exact ⟨m, F5, o + N, rfl, by omega, hN2, HST.out, HF7.out, HB7.out⟩
              case measure => simp [intOf]; omega
end Go.Proofs.Ytjeokomocopjhaa
