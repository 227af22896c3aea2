import Derived.Test.YtjbjaklbckhodabStops
namespace Go.Proofs.Ytjbjaklbckhodab
open Go.RowKit
set_option maxRecDepth 100000

set_option maxHeartbeats 1000000 in
/-- The reference's Count. -/
theorem rcount_any {w : World} {a : Option Addr} {cap : Nat} {L : List Rg} (C : Cells w a L) (F : Fit L) (hf : L.length * 16 ≤ 140737488355328) :
    Calls Try.prog 25 #[.slice a L.length cap] w fun e w' => e = .returned (.int .u64 (total L)) ∧ Below w.heap.size w w' := by
  have HC := hid C
  have HF := hid F
  clear C F
  go_enter Try.func25, Try.ntmps25
  go_wp2
  go_loopw [3, 8] (fun n i wr => ∃ k : Nat, k ≤ L.length ∧ i = .int .i64 k ∧ n = .int .u64 (total (L.take k)) ∧ Below w.heap.size w wr) (fun _ i _ => L.length - (intOf i).toNat)
  case atStart => exact ⟨0, Nat.zero_le _, rfl, rfl, Below.refl _ _⟩
  case round =>
    obtain ⟨k, hk, rfl, rfl, hb⟩ := hrel
    by_cases hlt : k < L.length
    · obtain ⟨ad, rfl, c1, c2⟩ := rcells_pair HC.out k hlt
      have hki : (k : Int) < (L.length : Int) := by omega
      have d1 := cell_kept hb c1
      have d2 := cell_kept hb c2
      rw [add_next] at d2
      have hs := total_snoc L k hlt
      have hbd := total_bd L HF.out k hk
      have hbd2 := total_bd L HF.out (k + 1) hlt
      have hf := HF.out.at k hlt
      clear c1 c2
      generalize L[k] = r at *
      obtain ⟨rl, rh⟩ := r
      simp only at d1 d2 hs hf
      generalize total (L.take k) = t at *
      have hbd3 : 0 ≤ t + (rh - rl) ∧ t + (rh - rl) ≤ 18446744073709551615 := by rw [← hs]; exact hbd2
      have HS := hid hs
      have HB := hid hb
      clear hs hbd2 hb
      go_wp2
      go_roundw
      case rel => exact ⟨k + 1, hlt, by go_num, by rw [HS.out], HB.out.alloc HB.out.size _⟩
      case measure => simp [intOf]; omega
    · have e : k = L.length := by omega
      subst e
      have hki : ¬ (L.length : Int) < (L.length : Int) := by omega
      have HB := hid hb
      clear hb
      rw [List.take_length]
      go_wp2
      go_ret
      exact ⟨rfl, HB.out⟩
theorem rowC {w : World} {g : Nat} {L : List Rg} (h : w.heap[g]? = some (.cells (flat L).toArray 25 (0, 0))) : Cells w (some ⟨g, 0, none⟩) L :=
  ⟨fun _ => ⟨_, rfl, fun j v hj => by rw [Addr.add_lit, Nat.zero_add, cell_of_row w g _ _ _ _ h]; simpa using hj⟩⟩

set_option maxHeartbeats 2000000 in
/-- A set has just these stretches. -/
theorem is_any {w : World} {p : Nat} {a b : Option Addr} {cap cb : Nat} {L : List Rg} (V : View w p a cap L) (F : Fit L) (C : Cells w b L) (hf : L.length * 16 ≤ 140737488355328) :
    Calls Try.prog 8 #[.pointer (some ⟨p, 0, none⟩), .slice b L.length cb] w fun e w' => e = .returned (.bool true) ∧ Below w.heap.size w w' := by
  have hA := lall_any V hf 0
  have HV := hid V
  have HC := hid C
  have HF := hid F
  have hq : ((L.length : Int) == (L.length : Int)) = true := by simp
  have hq2 : (total L == total L) = true := by simp
  clear V C F
  go_enter Try.func8, Try.ntmps8
  go_wp2_with fail
  refine hA.mono ?_
  rintro e w1 ⟨v1, rfl, ho1, hb1⟩
  rw [allL_zero] at ho1
  obtain ⟨a1, k1, rfl, hC1⟩ := own_cells ho1
  have HV1 := hid (HV.out.kept hb1)
  have HC1 := hid (HC.out.kept hb1)
  have HG1 := hid hC1
  have HB1 := hid hb1
  clear ho1 hC1 hb1 HV HC hA
  go_wp2_with fail
  refine (ranges_any HV1.out hf).mono ?_
  rintro e w2 ⟨g, rfl, _, hg, hb2⟩
  have HV2 := hid (HV1.out.kept hb2)
  have HC2 := hid (HC1.out.kept hb2)
  have HG2 := hid (HG1.out.kept hb2)
  have HR2 := hid (rowC hg)
  have HB2 := hid (HB1.out.trans (hb2.mono HB1.out.size))
  clear hg hb2 HV1 HC1 HG1 HB1
  go_wp2_with fail
  refine (same_below HR2.out HC2.out hf).mono ?_
  rintro e w3 ⟨rfl, hb3⟩
  have HV3 := hid (HV2.out.kept hb3)
  have HC3 := hid (HC2.out.kept hb3)
  have HG3 := hid (HG2.out.kept hb3)
  have HB3 := hid (HB2.out.trans (hb3.mono HB2.out.size))
  clear hb3 HV2 HC2 HG2 HB2 HR2
  go_wp2_with fail
  refine (same_below HG3.out HC3.out hf).mono ?_
  rintro e w4 ⟨rfl, hb4⟩
  have HV4 := hid (HV3.out.kept hb4)
  have HC4 := hid (HC3.out.kept hb4)
  have HB4 := hid (HB3.out.trans (hb4.mono HB3.out.size))
  clear hb4 HV3 HC3 HG3 HB3
  go_wp2_with fail
  refine (len_any HV4.out).mono ?_
  rintro e w5 ⟨rfl, hw5⟩
  subst hw5
  go_wp2_with fail
  refine (count_any HV4.out HF.out).mono ?_
  rintro e w6 ⟨rfl, hb6⟩
  have HC6 := hid (HC4.out.kept hb6)
  have HB6 := hid (HB4.out.trans (hb6.mono HB4.out.size))
  clear hb6 HC4 HB4
  go_wp2_with fail
  refine (rcount_any HC6.out HF.out hf).mono ?_
  rintro e w7 ⟨rfl, hb7⟩
  have HB7 := hid (HB6.out.trans (hb7.mono HB6.out.size))
  clear hb7
  go_wp2_with fail
  go_ret
  exact ⟨by first | rfl | simp, HB7.out⟩
end Go.Proofs.Ytjbjaklbckhodab
