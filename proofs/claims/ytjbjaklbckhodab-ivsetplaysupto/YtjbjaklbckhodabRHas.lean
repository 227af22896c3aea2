import Derived.Test.YtjbjaklbckhodabPl0
namespace Go.Proofs.Ytjbjaklbckhodab
open Go.RowKit
set_option maxRecDepth 100000

set_option maxHeartbeats 1000000 in
/-- The reference's Has. -/
theorem rhas_any {w : World} {a : Option Addr} {cap : Nat} {L : List Rg} (C : Cells w a L) (hf : L.length * 16 ≤ 140737488355328) (x : Int) :
    Calls Try.prog 36 #[.slice a L.length cap, .int .u64 x] w fun e w' => e = .returned (.bool (hasB L x)) ∧ Below w.heap.size w w' := by
  have HC := hid C
  clear C
  go_enter Try.func36, Try.ntmps36
  go_wp2_with fail
  go_loopw [9] (fun s wr => ∃ k : Nat, k ≤ L.length ∧ s = .int .i64 k ∧ hasB (L.take k) x = false ∧ Below w.heap.size w wr) (fun s _ => L.length - (intOf s).toNat)
  case atStart => exact ⟨0, Nat.zero_le _, rfl, rfl, Below.refl _ _⟩
  case round =>
    obtain ⟨k, hk, rfl, hno, hb⟩ := hrel
    have HNO := hid hno
    have HB := hid hb
    clear hno hb
    by_cases hlt : k < L.length
    · have hki : (k : Int) < (L.length : Int) := by omega
      obtain ⟨ad, rfl, p1, p2⟩ := rcells_pair HC.out k hlt
      have e1 := cell_kept HB.out p1
      have e2 := cell_kept HB.out p2
      have HSN := hid (hasB_snoc L k hlt x)
      have HAT := hid (fun h1 h2 => hasB_at L k hlt x h1 h2)
      clear p1 p2
      generalize L[k] = r at *
      obtain ⟨rl, rh⟩ := r
      simp only at e1 e2 HSN HAT
      rw [add_next] at e2
      have HBX := hid (HB.out.trans ((below_box wr (.cells #[.int .u64 rl, .int .u64 rh] 25)).mono HB.out.size))
      by_cases h1 : rl ≤ x
      · have hd1 : decide (rl ≤ x) = true := decide_eq_true h1
        by_cases h2 : x < rh
        · have hd2 : decide (x < rh) = true := decide_eq_true h2
          have HT := hid (HAT.out h1 h2)
          go_wp2_with fail
          go_ret
          exact ⟨by first | exact HT.out | exact HT.out.symm | simp [HT.out], HBX.out⟩
        · have hd2 : decide (x < rh) = false := decide_eq_false h2
          have HF : Hid (hasB (L.take (k + 1)) x = false) := by show _ = _; rw [HSN.out, HNO.out, hd1, hd2]; rfl
          go_wp2_with fail
          go_roundw
          case rel => exact ⟨k + 1, hlt, by go_num, HF.out, HBX.out⟩
          case measure => simp [intOf]; omega
      · have hd1 : decide (rl ≤ x) = false := decide_eq_false h1
        have HF : Hid (hasB (L.take (k + 1)) x = false) := by show _ = _; rw [HSN.out, HNO.out, hd1]; rfl
        go_wp2_with fail
        go_roundw
        case rel => exact ⟨k + 1, hlt, by go_num, HF.out, HBX.out⟩
        case measure => simp [intOf]; omega
    · have e : k = L.length := by omega
      subst e
      have hki : ¬ (L.length : Int) < (L.length : Int) := by omega
      rw [List.take_length] at HNO
      go_wp2_with fail
      go_ret
      exact ⟨by first | exact HNO.out | exact HNO.out.symm | simp [HNO.out], HB.out⟩

set_option maxHeartbeats 1000000 in
/-- The reference's Gap. -/
theorem rgap_any {w : World} {a : Option Addr} {cap : Nat} {L : List Rg} (C : Cells w a L) (hf : L.length * 16 ≤ 140737488355328) (x : Int) :
    Calls Try.prog 39 #[.slice a L.length cap, .int .u64 x] w fun e w' => e = .returned (.int .u64 (gapR L x)) ∧ Below w.heap.size w w' := by
  have HC := hid C
  clear C
  go_enter Try.func39, Try.ntmps39
  go_wp2_with fail
  go_loopw [9] (fun s wr => ∃ k : Nat, k ≤ L.length ∧ s = .int .i64 k ∧ hasB (L.take k) x = false ∧ Below w.heap.size w wr) (fun s _ => L.length - (intOf s).toNat)
  case atStart => exact ⟨0, Nat.zero_le _, rfl, rfl, Below.refl _ _⟩
  case round =>
    obtain ⟨k, hk, rfl, hno, hb⟩ := hrel
    have HNO := hid hno
    have HB := hid hb
    clear hno hb
    by_cases hlt : k < L.length
    · have hki : (k : Int) < (L.length : Int) := by omega
      obtain ⟨ad, rfl, p1, p2⟩ := rcells_pair HC.out k hlt
      have e1 := cell_kept HB.out p1
      have e2 := cell_kept HB.out p2
      have HSN := hid (hasB_snoc L k hlt x)
      have HAT := hid (fun h1 h2 => gapR_hit k hlt HNO.out h1 h2)
      clear p1 p2
      generalize L[k] = r at *
      obtain ⟨rl, rh⟩ := r
      simp only at e1 e2 HSN HAT
      rw [add_next] at e2
      have HBX := hid (HB.out.trans ((below_box wr (.cells #[.int .u64 rl, .int .u64 rh] 25)).mono HB.out.size))
      by_cases h1 : rl ≤ x
      · have hd1 : decide (rl ≤ x) = true := decide_eq_true h1
        by_cases h2 : x < rh
        · have hd2 : decide (x < rh) = true := decide_eq_true h2
          have HT := hid (HAT.out h1 h2)
          go_wp2_with fail
          go_ret
          exact ⟨by first | exact HT.out.symm | exact HT.out | simp [HT.out], HBX.out⟩
        · have hd2 : decide (x < rh) = false := decide_eq_false h2
          have HF : Hid (hasB (L.take (k + 1)) x = false) := by show _ = _; rw [HSN.out, HNO.out, hd1, hd2]; rfl
          go_wp2_with fail
          go_roundw
          case rel => exact ⟨k + 1, hlt, by go_num, HF.out, HBX.out⟩
          case measure => simp [intOf]; omega
      · have hd1 : decide (rl ≤ x) = false := decide_eq_false h1
        have HF : Hid (hasB (L.take (k + 1)) x = false) := by show _ = _; rw [HSN.out, HNO.out, hd1]; rfl
        go_wp2_with fail
        go_roundw
        case rel => exact ⟨k + 1, hlt, by go_num, HF.out, HBX.out⟩
        case measure => simp [intOf]; omega
    · have e : k = L.length := by omega
      subst e
      have hki : ¬ (L.length : Int) < (L.length : Int) := by omega
      rw [List.take_length] at HNO
      go_wp2_with fail
      go_ret
      exact ⟨by first | exact (gapR_none HNO.out).symm | exact gapR_none HNO.out | simp [gapR_none HNO.out], HB.out⟩


end Go.Proofs.Ytjbjaklbckhodab
