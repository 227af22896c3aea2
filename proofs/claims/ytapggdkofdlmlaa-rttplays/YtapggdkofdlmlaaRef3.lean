import Derived.Test.YtapggdkofdlmlaaRef2
namespace Go.Proofs.Ytapggdkofdlmlaa
open Go.RowKit Go.Sort
set_option maxRecDepth 100000

/-- A time that was doubled so often, with its bound at each step. -/
def dbl (R : Int) (j : Nat) : Int := min (R * 2 ^ j) 60000
theorem dbl_zero {R : Int} (h : R ≤ 60000) : dbl R 0 = R := by unfold dbl; rw [show (2 : Int) ^ 0 = 1 from rfl]; omega
theorem dbl_pow (j : Nat) : (1 : Int) ≤ 2 ^ j := by
  have h3 : 1 ≤ 2 ^ j := Nat.one_le_two_pow
  have e : ((2 ^ j : Nat) : Int) = (2 : Int) ^ j := by norm_cast
  omega
theorem dbl_bd {R : Int} (h : 200 ≤ R) (j : Nat) : 0 ≤ dbl R j ∧ dbl R j ≤ 60000 := by
  have h1 : 0 ≤ R * 2 ^ j := Int.mul_nonneg (by omega) (by have := dbl_pow j; omega)
  unfold dbl
  omega
theorem dbl_up {R : Int} (j : Nat) : dbl R (j + 1) = min (2 * dbl R j) 60000 := by
  unfold dbl
  rw [Int.pow_succ, ← Int.mul_assoc]
  omega
theorem dbl_rto {E : Es} (h : E.Ok) {R : Int} (hR : R = min E.wait 60000) : dbl R E.b.toNat = E.rto := by
  subst hR
  have he := dbl_pow E.b.toNat
  have hw := h.wait
  unfold dbl Es.rto
  generalize (2 : Int) ^ E.b.toNat = P at *
  by_cases h1 : E.wait ≤ 60000
  · rw [show min E.wait 60000 = E.wait by omega]
  · rw [show min E.wait 60000 = 60000 by omega]
    have h2 := Int.mul_le_mul_of_nonneg_left he (show (0 : Int) ≤ 60000 by decide)
    have h3 := Int.mul_le_mul_of_nonneg_left he (show 0 ≤ E.wait by omega)
    omega
set_option maxHeartbeats 4000000 in
theorem rrto_any {w : World} {g n : Nat} {E : Es} (h : RefAt w g E n) (ok : E.Ok) :
    Calls Try.prog 26 #[.pointer (some ⟨g, 0, none⟩)] w fun e w' => e = .returned (.int .u64 E.rto) ∧ Below w.heap.size w w' := by
  have HR := hid h.row
  have HRTO := hid (fun R (hR : R = min E.wait 60000) => dbl_rto ok hR)
  have b0 := ok.b0
  have b1 := ok.b1
  have HW : Hid (E.wait = if E.s then max (E.t / 8 + max E.v 1) 200 else 1000) := rfl
  obtain ⟨t, v, b, s⟩ := E
  have hs := h.s
  obtain ⟨t0, t1, v0, v1, _, _, _⟩ := ok
  simp only at t0 t1 v0 v1 b0 b1 hs HW HR
  generalize (Es.rto ⟨t, v, b, s⟩) = rr at *
  generalize (Es.wait ⟨t, v, b, s⟩) = ww at *
  simp only at HRTO
  have ed : t.tdiv 8 = t / 8 := Int.tdiv_eq_ediv_of_nonneg t0
  obtain ⟨q, hq⟩ : ∃ q : Int, t / 8 = q := ⟨_, rfl⟩
  rw [hq] at ed HW
  have q0 : 0 ≤ q := by omega
  have q1 : q ≤ 60000 := by omega
  have e1 : wrap64 q = q := by unfold wrap64; omega
  have e2 : wrap64 (q + v) = q + v := by unfold wrap64; omega
  have e3 : wrap64 (q + 1) = q + 1 := by unfold wrap64; omega
  have c0 := HR.out.cell 0 _ rfl
  have c1 := HR.out.cell 1 _ rfl
  have c2 := HR.out.cell 2 _ rfl
  have c3 := HR.out.cell 3 _ rfl
  clear h hq t0 t1 HR
  rcases Nat.eq_zero_or_pos n with rfl | hn
  · simp at hs
    subst hs
    have HRT : Hid (dbl (1000) b.toNat = rr) := HRTO.out _ (by rw [HW.out]; first | rfl | decide)
    clear HRTO HW
    have hR0 : (200 : Int) ≤ 1000 := by omega
    have hR1 : (1000 : Int) ≤ 60000 := by omega
    have HR0 := hid hR0
    have HZ := hid (dbl_zero hR1)
    clear hR0 hR1
    go_enter Try.func26, Try.ntmps26
    go_upto_region 11 with (fail)
    go_loop [3, 4] (fun r i => ∃ j : Nat, (j : Int) ≤ b ∧ i = .int .i64 j ∧ r = .int .i64 (dbl (1000) j)) (fun _ i => b.toNat - (intOf i).toNat)
    case atStart => exact ⟨0, by omega, rfl, by rw [HZ.out]⟩
    case round =>
      obtain ⟨j, hj, rfl, rfl⟩ := hrel
      clear HZ
      by_cases hlt : (j : Int) < b
      · have HL := hid hlt
        obtain ⟨d0, d1⟩ := dbl_bd HR0.out j
        have HU := hid (dbl_up (R := 1000) j)
        generalize dbl (1000) j = y at *
        have ey : wrap64 (2 * y) = 2 * y := by unfold wrap64; omega
        by_cases hy : 60000 < 2 * y
        · have HY : Hid (dbl (1000) (j + 1) = 60000) := by show _ = _; rw [HU.out]; omega
          go_wp2
          go_round
          case rel => exact ⟨j + 1, by have := HL.out; omega, by first | go_num | (rw [Int.natCast_succ]), by rw [HY.out]⟩
          case measure =>
            simp [intOf]
            have := HL.out
            omega
        · have HY : Hid (dbl (1000) (j + 1) = 2 * y) := by show _ = _; rw [HU.out]; omega
          have hy' : decide (60000 < 2 * y) = false := decide_eq_false hy
          go_wp2
          go_round
          case rel => exact ⟨j + 1, by have := HL.out; omega, by first | go_num | (rw [Int.natCast_succ]), by rw [HY.out]⟩
          case measure =>
            simp [intOf]
            have := HL.out
            omega
      · have hl' : decide ((j : Int) < b) = false := decide_eq_false hlt
        have HJ : Hid (b.toNat = j) := by show _ = _; omega
        obtain ⟨d0, d1⟩ := dbl_bd HR0.out j
        have ey : IntKind.u64.wrap (dbl (1000) j) = dbl (1000) j := by rw [IntKind.wrap_u64]; omega
        clear hlt hj
        go_wp2
        go_ret
        rw [HJ.out] at HRT
        exact ⟨by rw [HRT.out]; rfl, Below.refl _ _⟩
  · have hn0 : (0 : Int) < (n : Int) := by omega
    have hs1 : s = true := by rw [hs]; exact decide_eq_true hn
    subst hs1
    have HN := hid hn
    clear hs hn
    by_cases hv : v < 1
    · by_cases h200 : q + 1 < 200
      · have HRT : Hid (dbl (200) b.toNat = rr) := HRTO.out _ (by rw [HW.out]; rw [if_pos rfl]; omega)
        clear HRTO HW
        have hR0 : (200 : Int) ≤ 200 := by omega
        have hR1 : (200 : Int) ≤ 60000 := by omega
        have HR0 := hid hR0
        have HZ := hid (dbl_zero hR1)
        clear hR0 hR1
        go_enter Try.func26, Try.ntmps26
        go_upto_region 3 with (fail)
        go_region
        go_upto_region 11 with (fail)
        go_loop [3, 4] (fun r i => ∃ j : Nat, (j : Int) ≤ b ∧ i = .int .i64 j ∧ r = .int .i64 (dbl (200) j)) (fun _ i => b.toNat - (intOf i).toNat)
        case atStart => exact ⟨0, by omega, rfl, by rw [HZ.out]⟩
        case round =>
          obtain ⟨j, hj, rfl, rfl⟩ := hrel
          clear HZ
          by_cases hlt : (j : Int) < b
          · have HL := hid hlt
            obtain ⟨d0, d1⟩ := dbl_bd HR0.out j
            have HU := hid (dbl_up (R := 200) j)
            generalize dbl (200) j = y at *
            have ey : wrap64 (2 * y) = 2 * y := by unfold wrap64; omega
            by_cases hy : 60000 < 2 * y
            · have HY : Hid (dbl (200) (j + 1) = 60000) := by show _ = _; rw [HU.out]; omega
              go_wp2
              go_round
              case rel => exact ⟨j + 1, by have := HL.out; omega, by first | go_num | (rw [Int.natCast_succ]), by rw [HY.out]⟩
              case measure =>
                simp [intOf]
                have := HL.out
                omega
            · have HY : Hid (dbl (200) (j + 1) = 2 * y) := by show _ = _; rw [HU.out]; omega
              have hy' : decide (60000 < 2 * y) = false := decide_eq_false hy
              go_wp2
              go_round
              case rel => exact ⟨j + 1, by have := HL.out; omega, by first | go_num | (rw [Int.natCast_succ]), by rw [HY.out]⟩
              case measure =>
                simp [intOf]
                have := HL.out
                omega
          · have hl' : decide ((j : Int) < b) = false := decide_eq_false hlt
            have HJ : Hid (b.toNat = j) := by show _ = _; omega
            obtain ⟨d0, d1⟩ := dbl_bd HR0.out j
            have ey : IntKind.u64.wrap (dbl (200) j) = dbl (200) j := by rw [IntKind.wrap_u64]; omega
            clear hlt hj
            go_wp2
            go_ret
            rw [HJ.out] at HRT
            exact ⟨by rw [HRT.out]; rfl, below_drawn (Below.refl _ _) _⟩
      · have n2 : decide (q + 1 < 200) = false := decide_eq_false h200
        by_cases h6 : 60000 < q + 1
        · have HRT : Hid (dbl (60000) b.toNat = rr) := HRTO.out _ (by rw [HW.out]; rw [if_pos rfl]; omega)
          clear HRTO HW
          have hR0 : (200 : Int) ≤ 60000 := by omega
          have hR1 : (60000 : Int) ≤ 60000 := by omega
          have HR0 := hid hR0
          have HZ := hid (dbl_zero hR1)
          clear hR0 hR1
          go_enter Try.func26, Try.ntmps26
          go_upto_region 3 with (fail)
          go_region
          go_upto_region 11 with (fail)
          go_loop [3, 4] (fun r i => ∃ j : Nat, (j : Int) ≤ b ∧ i = .int .i64 j ∧ r = .int .i64 (dbl (60000) j)) (fun _ i => b.toNat - (intOf i).toNat)
          case atStart => exact ⟨0, by omega, rfl, by rw [HZ.out]⟩
          case round =>
            obtain ⟨j, hj, rfl, rfl⟩ := hrel
            clear HZ
            by_cases hlt : (j : Int) < b
            · have HL := hid hlt
              obtain ⟨d0, d1⟩ := dbl_bd HR0.out j
              have HU := hid (dbl_up (R := 60000) j)
              generalize dbl (60000) j = y at *
              have ey : wrap64 (2 * y) = 2 * y := by unfold wrap64; omega
              by_cases hy : 60000 < 2 * y
              · have HY : Hid (dbl (60000) (j + 1) = 60000) := by show _ = _; rw [HU.out]; omega
                go_wp2
                go_round
                case rel => exact ⟨j + 1, by have := HL.out; omega, by first | go_num | (rw [Int.natCast_succ]), by rw [HY.out]⟩
                case measure =>
                  simp [intOf]
                  have := HL.out
                  omega
              · have HY : Hid (dbl (60000) (j + 1) = 2 * y) := by show _ = _; rw [HU.out]; omega
                have hy' : decide (60000 < 2 * y) = false := decide_eq_false hy
                go_wp2
                go_round
                case rel => exact ⟨j + 1, by have := HL.out; omega, by first | go_num | (rw [Int.natCast_succ]), by rw [HY.out]⟩
                case measure =>
                  simp [intOf]
                  have := HL.out
                  omega
            · have hl' : decide ((j : Int) < b) = false := decide_eq_false hlt
              have HJ : Hid (b.toNat = j) := by show _ = _; omega
              obtain ⟨d0, d1⟩ := dbl_bd HR0.out j
              have ey : IntKind.u64.wrap (dbl (60000) j) = dbl (60000) j := by rw [IntKind.wrap_u64]; omega
              clear hlt hj
              go_wp2
              go_ret
              rw [HJ.out] at HRT
              exact ⟨by rw [HRT.out]; rfl, below_drawn (Below.refl _ _) _⟩
        · have n6 : decide (60000 < q + 1) = false := decide_eq_false h6
          have HRT : Hid (dbl (q + 1) b.toNat = rr) := HRTO.out _ (by rw [HW.out]; rw [if_pos rfl]; omega)
          clear HRTO HW
          have hR0 : (200 : Int) ≤ q + 1 := by omega
          have hR1 : (q + 1 : Int) ≤ 60000 := by omega
          have HR0 := hid hR0
          have HZ := hid (dbl_zero hR1)
          clear hR0 hR1
          go_enter Try.func26, Try.ntmps26
          go_upto_region 3 with (fail)
          go_region
          go_upto_region 11 with (fail)
          go_loop [3, 4] (fun r i => ∃ j : Nat, (j : Int) ≤ b ∧ i = .int .i64 j ∧ r = .int .i64 (dbl (q + 1) j)) (fun _ i => b.toNat - (intOf i).toNat)
          case atStart => exact ⟨0, by omega, rfl, by rw [HZ.out]⟩
          case round =>
            obtain ⟨j, hj, rfl, rfl⟩ := hrel
            clear HZ
            by_cases hlt : (j : Int) < b
            · have HL := hid hlt
              obtain ⟨d0, d1⟩ := dbl_bd HR0.out j
              have HU := hid (dbl_up (R := q + 1) j)
              generalize dbl (q + 1) j = y at *
              have ey : wrap64 (2 * y) = 2 * y := by unfold wrap64; omega
              by_cases hy : 60000 < 2 * y
              · have HY : Hid (dbl (q + 1) (j + 1) = 60000) := by show _ = _; rw [HU.out]; omega
                go_wp2
                go_round
                case rel => exact ⟨j + 1, by have := HL.out; omega, by first | go_num | (rw [Int.natCast_succ]), by rw [HY.out]⟩
                case measure =>
                  simp [intOf]
                  have := HL.out
                  omega
              · have HY : Hid (dbl (q + 1) (j + 1) = 2 * y) := by show _ = _; rw [HU.out]; omega
                have hy' : decide (60000 < 2 * y) = false := decide_eq_false hy
                go_wp2
                go_round
                case rel => exact ⟨j + 1, by have := HL.out; omega, by first | go_num | (rw [Int.natCast_succ]), by rw [HY.out]⟩
                case measure =>
                  simp [intOf]
                  have := HL.out
                  omega
            · have hl' : decide ((j : Int) < b) = false := decide_eq_false hlt
              have HJ : Hid (b.toNat = j) := by show _ = _; omega
              obtain ⟨d0, d1⟩ := dbl_bd HR0.out j
              have ey : IntKind.u64.wrap (dbl (q + 1) j) = dbl (q + 1) j := by rw [IntKind.wrap_u64]; omega
              clear hlt hj
              go_wp2
              go_ret
              rw [HJ.out] at HRT
              exact ⟨by rw [HRT.out]; rfl, below_drawn (Below.refl _ _) _⟩
    · have nv : decide (v < 1) = false := decide_eq_false hv
      by_cases h200 : q + v < 200
      · have HRT : Hid (dbl (200) b.toNat = rr) := HRTO.out _ (by rw [HW.out]; rw [if_pos rfl]; omega)
        clear HRTO HW
        have hR0 : (200 : Int) ≤ 200 := by omega
        have hR1 : (200 : Int) ≤ 60000 := by omega
        have HR0 := hid hR0
        have HZ := hid (dbl_zero hR1)
        clear hR0 hR1
        go_enter Try.func26, Try.ntmps26
        go_upto_region 3 with (fail)
        go_region
        go_upto_region 11 with (fail)
        go_loop [3, 4] (fun r i => ∃ j : Nat, (j : Int) ≤ b ∧ i = .int .i64 j ∧ r = .int .i64 (dbl (200) j)) (fun _ i => b.toNat - (intOf i).toNat)
        case atStart => exact ⟨0, by omega, rfl, by rw [HZ.out]⟩
        case round =>
          obtain ⟨j, hj, rfl, rfl⟩ := hrel
          clear HZ
          by_cases hlt : (j : Int) < b
          · have HL := hid hlt
            obtain ⟨d0, d1⟩ := dbl_bd HR0.out j
            have HU := hid (dbl_up (R := 200) j)
            generalize dbl (200) j = y at *
            have ey : wrap64 (2 * y) = 2 * y := by unfold wrap64; omega
            by_cases hy : 60000 < 2 * y
            · have HY : Hid (dbl (200) (j + 1) = 60000) := by show _ = _; rw [HU.out]; omega
              go_wp2
              go_round
              case rel => exact ⟨j + 1, by have := HL.out; omega, by first | go_num | (rw [Int.natCast_succ]), by rw [HY.out]⟩
              case measure =>
                simp [intOf]
                have := HL.out
                omega
            · have HY : Hid (dbl (200) (j + 1) = 2 * y) := by show _ = _; rw [HU.out]; omega
              have hy' : decide (60000 < 2 * y) = false := decide_eq_false hy
              go_wp2
              go_round
              case rel => exact ⟨j + 1, by have := HL.out; omega, by first | go_num | (rw [Int.natCast_succ]), by rw [HY.out]⟩
              case measure =>
                simp [intOf]
                have := HL.out
                omega
          · have hl' : decide ((j : Int) < b) = false := decide_eq_false hlt
            have HJ : Hid (b.toNat = j) := by show _ = _; omega
            obtain ⟨d0, d1⟩ := dbl_bd HR0.out j
            have ey : IntKind.u64.wrap (dbl (200) j) = dbl (200) j := by rw [IntKind.wrap_u64]; omega
            clear hlt hj
            go_wp2
            go_ret
            rw [HJ.out] at HRT
            exact ⟨by rw [HRT.out]; rfl, below_drawn (Below.refl _ _) _⟩
      · have n2 : decide (q + v < 200) = false := decide_eq_false h200
        by_cases h6 : 60000 < q + v
        · have HRT : Hid (dbl (60000) b.toNat = rr) := HRTO.out _ (by rw [HW.out]; rw [if_pos rfl]; omega)
          clear HRTO HW
          have hR0 : (200 : Int) ≤ 60000 := by omega
          have hR1 : (60000 : Int) ≤ 60000 := by omega
          have HR0 := hid hR0
          have HZ := hid (dbl_zero hR1)
          clear hR0 hR1
          go_enter Try.func26, Try.ntmps26
          go_upto_region 3 with (fail)
          go_region
          go_upto_region 11 with (fail)
          go_loop [3, 4] (fun r i => ∃ j : Nat, (j : Int) ≤ b ∧ i = .int .i64 j ∧ r = .int .i64 (dbl (60000) j)) (fun _ i => b.toNat - (intOf i).toNat)
          case atStart => exact ⟨0, by omega, rfl, by rw [HZ.out]⟩
          case round =>
            obtain ⟨j, hj, rfl, rfl⟩ := hrel
            clear HZ
            by_cases hlt : (j : Int) < b
            · have HL := hid hlt
              obtain ⟨d0, d1⟩ := dbl_bd HR0.out j
              have HU := hid (dbl_up (R := 60000) j)
              generalize dbl (60000) j = y at *
              have ey : wrap64 (2 * y) = 2 * y := by unfold wrap64; omega
              by_cases hy : 60000 < 2 * y
              · have HY : Hid (dbl (60000) (j + 1) = 60000) := by show _ = _; rw [HU.out]; omega
                go_wp2
                go_round
                case rel => exact ⟨j + 1, by have := HL.out; omega, by first | go_num | (rw [Int.natCast_succ]), by rw [HY.out]⟩
                case measure =>
                  simp [intOf]
                  have := HL.out
                  omega
              · have HY : Hid (dbl (60000) (j + 1) = 2 * y) := by show _ = _; rw [HU.out]; omega
                have hy' : decide (60000 < 2 * y) = false := decide_eq_false hy
                go_wp2
                go_round
                case rel => exact ⟨j + 1, by have := HL.out; omega, by first | go_num | (rw [Int.natCast_succ]), by rw [HY.out]⟩
                case measure =>
                  simp [intOf]
                  have := HL.out
                  omega
            · have hl' : decide ((j : Int) < b) = false := decide_eq_false hlt
              have HJ : Hid (b.toNat = j) := by show _ = _; omega
              obtain ⟨d0, d1⟩ := dbl_bd HR0.out j
              have ey : IntKind.u64.wrap (dbl (60000) j) = dbl (60000) j := by rw [IntKind.wrap_u64]; omega
              clear hlt hj
              go_wp2
              go_ret
              rw [HJ.out] at HRT
              exact ⟨by rw [HRT.out]; rfl, below_drawn (Below.refl _ _) _⟩
        · have n6 : decide (60000 < q + v) = false := decide_eq_false h6
          have HRT : Hid (dbl (q + v) b.toNat = rr) := HRTO.out _ (by rw [HW.out]; rw [if_pos rfl]; omega)
          clear HRTO HW
          have hR0 : (200 : Int) ≤ q + v := by omega
          have hR1 : (q + v : Int) ≤ 60000 := by omega
          have HR0 := hid hR0
          have HZ := hid (dbl_zero hR1)
          clear hR0 hR1
          go_enter Try.func26, Try.ntmps26
          go_upto_region 3 with (fail)
          go_region
          go_upto_region 11 with (fail)
          go_loop [3, 4] (fun r i => ∃ j : Nat, (j : Int) ≤ b ∧ i = .int .i64 j ∧ r = .int .i64 (dbl (q + v) j)) (fun _ i => b.toNat - (intOf i).toNat)
          case atStart => exact ⟨0, by omega, rfl, by rw [HZ.out]⟩
          case round =>
            obtain ⟨j, hj, rfl, rfl⟩ := hrel
            clear HZ
            by_cases hlt : (j : Int) < b
            · have HL := hid hlt
              obtain ⟨d0, d1⟩ := dbl_bd HR0.out j
              have HU := hid (dbl_up (R := q + v) j)
              generalize dbl (q + v) j = y at *
              have ey : wrap64 (2 * y) = 2 * y := by unfold wrap64; omega
              by_cases hy : 60000 < 2 * y
              · have HY : Hid (dbl (q + v) (j + 1) = 60000) := by show _ = _; rw [HU.out]; omega
                go_wp2
                go_round
                case rel => exact ⟨j + 1, by have := HL.out; omega, by first | go_num | (rw [Int.natCast_succ]), by rw [HY.out]⟩
                case measure =>
                  simp [intOf]
                  have := HL.out
                  omega
              · have HY : Hid (dbl (q + v) (j + 1) = 2 * y) := by show _ = _; rw [HU.out]; omega
                have hy' : decide (60000 < 2 * y) = false := decide_eq_false hy
                go_wp2
                go_round
                case rel => exact ⟨j + 1, by have := HL.out; omega, by first | go_num | (rw [Int.natCast_succ]), by rw [HY.out]⟩
                case measure =>
                  simp [intOf]
                  have := HL.out
                  omega
            · have hl' : decide ((j : Int) < b) = false := decide_eq_false hlt
              have HJ : Hid (b.toNat = j) := by show _ = _; omega
              obtain ⟨d0, d1⟩ := dbl_bd HR0.out j
              have ey : IntKind.u64.wrap (dbl (q + v) j) = dbl (q + v) j := by rw [IntKind.wrap_u64]; omega
              clear hlt hj
              go_wp2
              go_ret
              rw [HJ.out] at HRT
              exact ⟨by rw [HRT.out]; rfl, below_drawn (Below.refl _ _) _⟩
end Go.Proofs.Ytapggdkofdlmlaa
