import Derived.Test.YtkcoabjeaoigdaaTog0
namespace Go.Proofs.Ytkcoabjeaoigdaa
open Go.RowKit Go.Sort
set_option maxRecDepth 100000

theorem cuts_of (y : Int) : ∃ q : Nat, 1 ≤ q ∧ q ≤ 3 ∧ IntKind.u64.wrap (1 + (IntKind.u64.wrap y).tmod 3) = q := by
  have h0 : 0 ≤ IntKind.u64.wrap y := by rw [IntKind.wrap_u64]; omega
  rw [Int.tmod_eq_emod_of_nonneg h0]
  have h : 0 ≤ IntKind.u64.wrap y % 3 ∧ IntKind.u64.wrap y % 3 < 3 := ⟨Int.emod_nonneg _ (by decide), Int.emod_lt_of_pos _ (by decide)⟩
  generalize IntKind.u64.wrap y % 3 = z at *
  refine ⟨(1 + z).toNat, by omega, by omega, ?_⟩
  rw [IntKind.wrap_u64]
  omega
set_option maxHeartbeats 1000000 in
theorem together_any {w : World} (x y ms : Int) :
    Calls Try.prog 3 #[.int .i64 x, .int .i64 y, .int .u64 ms] w fun e w' => e = .returned (.bool true) ∧ Below w.heap.size w w' := by
  obtain ⟨n, n1, n8, en⟩ := paths_of x
  obtain ⟨q, q1, q3, eq⟩ := cuts_of y
  obtain ⟨m, hm⟩ : ∃ m, m = min (max ms 1) 60000 := ⟨_, rfl⟩
  have HM := hid hm
  have HM1 : Hid (1 ≤ m ∧ m ≤ 60000) := by show _ ∧ _; omega
  have HNW := hid (own_new (Below.refl w.heap.size w) n1 n8)
  have H1 := hid n1
  have H8 := hid n8
  have HQ1 := hid q1
  have HQ3 := hid q3
  clear hm
  go_enter Try.func3, Try.ntmps3
  go_upto_region 2 with (fail)
  rw [en]
  clear en n1 n8 q1 q3
  go_upto_region 3 with (go_at_call 9; refine HNW.out.mono ?_; clear HNW; rintro e w1 ⟨rfl, h1, _⟩; have HO1 := hid h1; clear h1)
  obtain ⟨g, hg⟩ : ∃ g, g = w.heap.size := ⟨_, rfl⟩
  rw [← hg] at HO1
  rw [← hg]
  clear hg
  rw [← togA_zero n q m] at HO1
  go_wp2
  go_loopw [8] (fun i wr => ∃ (p : Nat), p ≤ n ∧ i = .int .i64 p ∧ Own1 w wr g n (togA n q m p)) (fun i _ => n - (intOf i).toNat)
  case atStart => exact ⟨0, Nat.zero_le _, rfl, HO1.out⟩
  case round =>
    obtain ⟨p, hp, rfl, ho⟩ := hrel
    have HO' := hid ho
    clear ho HO1
    by_cases hlt : p < n
    · have l1 : (p : Int) < (n : Int) := by omega
      have HP := hid hlt
      have hp2 : (p : Int) ≤ 8 := by have := H8.out; omega
      have HT := hid (take_any HO'.out.at_ p true)
      clear hp hlt
      go_upto_region 9 with (go_at_call 10; refine HT.out.mono ?_; clear HT; rintro e w3 ⟨rfl, h1, h2⟩; have HO3 := hid (HO'.out.to h1 h2); clear h1 h2)
      have HT := hid (rtt_any HO3.out.at_ p ms)
      go_upto_region 10 with (go_at_call 11; refine HT.out.mono ?_; clear HT; rintro e w4 ⟨rfl, h1, h2⟩; rw [tog_in HP.out HM.out] at h1; have HO4 := hid (HO3.out.to h1 h2); clear h1 h2)
      clear HO' HO3
      go_wp2
      go_loopw [9] (fun i wr => ∃ (k : Nat), k ≤ q ∧ i = .int .u64 k ∧ Own1 w wr g n (togD n q m p k)) (fun i _ => q - (intOf i).toNat)
      case atStart => exact ⟨0, Nat.zero_le _, rfl, HO4.out⟩
      case round =>
        obtain ⟨k, hk, rfl, ho⟩ := hrel
        have HO5 := hid ho
        clear ho HO4
        by_cases hlt : k < q
        · have l2 : (k : Int) < (q : Int) := by omega
          have HK := hid hlt
          have ew : IntKind.u64.wrap ((k : Int) + 1) = (k : Int) + 1 := by have := HQ3.out; rw [IntKind.wrap_u64]; omega
          have HT := hid (cut_any HO5.out.at_ p)
          clear hk hlt
          go_wp2_with (go_at_call 12; refine HT.out.mono ?_; clear HT; rintro e w6 ⟨rfl, h1, h2⟩; rw [tog_cut HP.out] at h1; have HO6 := hid (HO5.out.to h1 h2); clear h1 h2)
          go_roundw
          case rel => exact ⟨k + 1, HK.out, by first | go_num | (rw [Int.natCast_succ]), HO6.out⟩
          case measure =>
            simp [intOf]
            have := HK.out
            omega
        · have e1 : decide ((k : Int) < (q : Int)) = false := decide_eq_false (by omega)
          have e2 : decide (k < q) = false := decide_eq_false hlt
          have HK : Hid (k = q) := by show _ = _; omega
          clear hlt hk
          go_wp2
          go_roundw
          case rel =>
            have ho := HO5.out
            rw [HK.out, tog_done HQ1.out] at ho
            exact ⟨p + 1, HP.out, by first | go_num | (rw [Int.natCast_succ]), ho⟩
          case measure =>
            simp [intOf]
            have := HP.out
            omega
    · have e1 : decide ((p : Int) < (n : Int)) = false := decide_eq_false (by omega)
      have e2 : decide (p < n) = false := decide_eq_false hlt
      obtain rfl : p = n := by omega
      clear hlt hp
      obtain ⟨c, hc⟩ : ∃ c, c = cs q := ⟨_, rfl⟩
      have HW : Hid (∀ j : Nat, j < p → winD (togA p q m p) p j = (c, c)) := by
        intro j hj
        rw [winD_in hj]
        unfold togA
        rw [if_pos hj, hc]
      have HCC := hid hc
      clear hc
      have HWI := hid (window_any HO'.out.at_ 0)
      rw [show (0 : Int) = ((0 : Nat) : Int) from rfl, HW.out 0 (by have := H1.out; omega)] at HWI
      simp only at HWI
      have hfd := fld0 c c
      rw [show ((0 : Nat) : Int) = 0 from rfl] at HWI
      go_upto_region 15 with (go_at_call 13; refine HWI.out.mono ?_; clear HWI; rintro e w5 ⟨rfl, hb⟩; have HO5 := hid (HO'.out.kept hb); clear hb)
      clear HO' e1 e2
      go_wp2
      go_loopw [11] (fun i wr => ∃ (k : Nat), k ≤ p ∧ i = .int .i64 k ∧ Own1 w wr g p (togA p q m p)) (fun i _ => p - (intOf i).toNat)
      case atStart => exact ⟨0, Nat.zero_le _, rfl, HO5.out⟩
      case round =>
        obtain ⟨k, hk, rfl, ho⟩ := hrel
        have HO6 := hid ho
        clear ho HO5
        by_cases hlt : k < p
        · have l2 : (k : Int) < (p : Int) := by omega
          have HK := hid hlt
          have hk2 : (k : Int) ≤ 8 := by have := H8.out; omega
          have HWI := hid (window_any HO6.out.at_ k)
          rw [HW.out k hlt] at HWI
          simp only at HWI
          clear hk hlt
          go_wp2_with (go_at_call 13; refine HWI.out.mono ?_; clear HWI; rintro e w7 ⟨rfl, hb⟩; have HO7 := hid (HO6.out.kept hb); clear hb)
          go_roundw
          case rel => exact ⟨k + 1, HK.out, by first | go_num | (rw [Int.natCast_succ]), HO7.out⟩
          case measure =>
            simp [intOf]
            have := HK.out
            omega
        · have e1 : decide ((k : Int) < (p : Int)) = false := decide_eq_false (by omega)
          have e2 : decide (k < p) = false := decide_eq_false hlt
          clear hlt hk
          obtain ⟨st, hst, s1, s2, s3⟩ := tog_step H1.out H8.out HQ1.out HQ3.out HM1.out.1 HM1.out.2
          rw [← HCC.out] at s3
          have cc := cs_of HQ1.out HQ3.out
          rw [← HCC.out] at cc
          have hp1 := H1.out
          have hp8 := H8.out
          have eat : togA p q m p (p - 1) = ⟨c, c, true, m⟩ := by unfold togA; rw [if_pos (by omega), HCC.out]
          have HW2 : Hid (winD (ackD p (p - 1) 1 (togA p q m p)) p ((p - 1 : Nat) : Int) = (c + st, c)) := by
            show _ = _
            rw [winD_in (by omega), ackD_step (by rw [eat]; simp only; omega)]
            show ((growD (togA p q m p) p (p - 1) (p - 1)).c, (growD (togA p q m p) p (p - 1) (p - 1)).t) = _
            rw [growD_at]
            unfold upc
            rw [hst, eat]
            simp only [Int.lt_irrefl, if_false]
            congr 1
            omega
          have epp : wrap64 ((p : Int) - 1) = ((p - 1 : Nat) : Int) := by unfold wrap64; omega
          have HA := hid (acked_in (k := p - 1) HO6.out.at_ (by omega) (F := 1) (by decide))
          have e5 : wrap64 (c + st - c) = st := by unfold wrap64; omega
          have e6 : wrap64 ((p : Int) * p) = (p : Int) * p := by
            have := mul_b (a := (p : Int)) (b := p) (x := 8) (y := 8) (by omega) (by omega) (by omega) (by omega)
            unfold wrap64; omega
          have e7 : wrap64 ((p : Int) * p * c) = (p : Int) * p * c ∧ 1 ≤ (p : Int) * p * c := by
            have h1 := mul_b (a := (p : Int)) (b := p) (x := 8) (y := 8) (by omega) (by omega) (by omega) (by omega)
            have h2 := mul_b (a := (p : Int) * p) (b := c) (x := 64) (y := 5120) h1.1 (by omega) (by omega) (by omega)
            have h3 : 1 * 1 ≤ (p : Int) * p := Int.mul_le_mul (by omega) (by omega) (by omega) (by omega)
            have h4 : 1 * 1 ≤ (p : Int) * p * c := Int.mul_le_mul (by omega) (by omega) (by omega) (by omega)
            exact ⟨by unfold wrap64; omega, by omega⟩
          obtain ⟨e7, e7'⟩ := e7
          have nz : ¬ (p : Int) * p * c = 0 := by omega
          have ed : (1048576 : Int).tdiv ((p : Int) * p * c) = 1048576 / ((p : Int) * p * c) := Int.tdiv_eq_ediv_of_nonneg (by decide)
          have db := div_b (a := 1048576) (b := (p : Int) * p * c) (y := 1048576) (by omega) e7' (by omega)
          have ew : wrap64 (1048576 / ((p : Int) * p * c)) = 1048576 / ((p : Int) * p * c) := by unfold wrap64; omega
          have d1 : decide (1 ≤ st) = true := decide_eq_true s1
          have d2 : decide (st ≤ max 1 (1048576 / ((p : Int) * p * c))) = true := decide_eq_true s3
          clear s1 s2 s3 cc hp1 hp8 hst eat e7' db
          generalize 1048576 / ((p : Int) * p * c) = own at *
          have hfd2 := fld0 (c + st) c
          go_upto_region 21 with (rw [epp]; go_at_call 14; refine HA.out.mono ?_; clear HA; rintro e w8 ⟨rfl, h1, h2⟩; have HO8 := hid (HO6.out.to h1 h2); clear h1 h2)
          have HO9 : Hid (Own1 w w8 g p (ackD p (p - 1) 1 (togA p q m p))) := HO8.out
          have HWI := hid (window_any HO9.out.at_ ((p - 1 : Nat) : Int))
          rw [HW2.out] at HWI
          simp only at HWI
          clear HO8 HO6 HW2
          go_upto_region 22 with (rw [epp]; go_at_call 13; refine HWI.out.mono ?_; clear HWI; rintro e w10 ⟨rfl, hb⟩; have HO10 := hid (HO9.out.kept hb); clear hb)
          have HAL := hid (alive_any w10)
          go_wp2_with (go_at_call 15; refine HAL.out.mono ?_; clear HAL; rintro e w11 ⟨rfl, hb⟩; have HO11 := hid (HO10.out.kept hb); clear hb)
          go_ret
          exact ⟨rfl, HO11.out.bel⟩
end Go.Proofs.Ytkcoabjeaoigdaa
