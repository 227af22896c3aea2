import Derived.Test.YtapggdkofdlmlaaDuo
namespace Go.Proofs.Ytapggdkofdlmlaa
open Go.RowKit Go.Sort
set_option maxRecDepth 100000

theorem sample_mono (E : Es) (h : E.Ok) {x y : Int} (h0 : 0 ≤ x) (hxy : x ≤ y) : (E.sample x).s = true ∧ (E.sample y).s = true ∧ (E.sample x).t / 8 ≤ (E.sample y).t / 8 ∧ (E.sample y).t / 8 - (E.sample x).t / 8 ≤ 60000 ∧ 0 ≤ (E.sample x).t := by
  obtain ⟨t0, t1, _, _, _, _, _⟩ := h
  unfold Es.sample
  split
  · exact ⟨rfl, rfl, by simp only; omega, by simp only; omega, by simp only; omega⟩
  · exact ⟨rfl, rfl, by simp only; omega, by simp only; omega, by simp only; omega⟩
set_option maxHeartbeats 1000000 in
theorem monotone_any {w : World} {a : Option Addr} {n cap : Nat} {xs : List Int} {x y : Int} (hC : CellsAt w a (xs.map (Value.int .u64))) (hn : xs.length = n) (hx : ∀ x ∈ xs, 0 ≤ x) (hm : n ≤ 140737488355328) (hx0 : 0 ≤ x) (hy0 : 0 ≤ y) :
    Calls Try.prog 4 #[.slice a n cap, .int .u64 x, .int .u64 y] w fun e w' => e = .returned (.bool true) ∧ Below w.heap.size w w' := by
  have HC := hid hC
  have HN := hid hn
  have HX := hid hx
  have HX0 := hid hx0
  have HY0 := hid hy0
  clear hC hn hx hx0 hy0
  have HF := hid (one_new (Below.refl w.heap.size w))
  go_enter Try.func4, Try.ntmps4
  go_upto_region 2 with (first
    | (go_at_call 8; refine Calls.mono HF.out ?_; clear HF; rintro e w1 ⟨rfl, h1, _⟩; have HO := hid h1; have HF2 := hid (duo_new h1); clear h1)
    | (go_at_call 8; refine Calls.mono HF2.out ?_; clear HF2; rintro e w2 ⟨rfl, h1⟩; have HD := hid h1; clear h1))
  obtain ⟨g, hg⟩ : ∃ g, g = w.heap.size := ⟨_, rfl⟩
  obtain ⟨h, hh⟩ : ∃ h, h = w1.heap.size := ⟨_, rfl⟩
  rw [← hg, ← hh]
  rw [← hg, ← hh] at HD
  clear hg hh HO
  go_wp2
  go_loopw [25] (fun i wr => ∃ (k : Nat) (E : Es), k ≤ n ∧ i = .int .i64 k ∧ Duo w wr g h E E) (fun i _ => n - (intOf i).toNat)
  case atStart => exact ⟨0, _, Nat.zero_le _, rfl, HD.out⟩
  case round =>
    obtain ⟨k, E, hk, rfl, hd⟩ := hrel
    have HD' := hid hd
    clear hd HD
    by_cases hlt : k < n
    · have hkc : k < xs.length := by rw [HN.out]; exact hlt
      obtain ⟨ga, oa, rfl, ca⟩ := HC.out k (by simpa using hkc)
      rw [List.getElem_map] at ca
      have hz0 := HX.out xs[k] (List.getElem_mem hkc)
      have l1 : (k : Int) < (n : Int) := by omega
      generalize xs[k] = z at *
      have ca2 := cell_kept HD'.out.l.bel ca
      have HK := hid hlt
      have HZ0 := hid hz0
      have hk2 : (k : Int) ≤ 140737488355328 := by omega
      clear ca hk hlt hkc hz0
      go_upto_region 9 with (first
        | (go_at_call_of 9 (Value.pointer (some ⟨g, 0, none⟩)); refine Calls.mono (HD'.out.sample HZ0.out) ?_; rintro e w3 ⟨rfl, h2⟩; have HD2 := hid h2; clear h2)
        | (go_at_call_of 9 (Value.pointer (some ⟨h, 0, none⟩)); refine Calls.mono (HD2.out.turn.sample HZ0.out) ?_; rintro e w4 ⟨rfl, h2⟩; have HD3 := hid h2; clear h2))
      go_wp2
      go_roundw
      case rel => exact ⟨k + 1, _, HK.out, by first | go_num | (rw [Int.natCast_succ]), HD3.out.turn⟩
      case measure =>
        simp [intOf]
        have := HK.out
        omega
    · have e1 : decide ((k : Int) < (n : Int)) = false := decide_eq_false (by omega)
      have e2 : decide (k < n) = false := decide_eq_false hlt
      clear hlt hk
      have hmn : 0 ≤ min x y := by have := HX0.out; have := HY0.out; omega
      have HM0 := hid hmn
      have HM1 : Hid (0 ≤ max x y) := by show _ ≤ _; have := HX0.out; omega
      obtain ⟨hs1, hs2, hle, hdf, ht0⟩ := sample_mono E HD'.out.l.ok hmn (show min x y ≤ max x y by omega)
      have q1 : decide ((E.sample (min x y)).t / 8 ≤ (E.sample (max x y)).t / 8) = true := decide_eq_true hle
      have q2 : IntKind.u64.wrap ((E.sample (max x y)).t / 8 - (E.sample (min x y)).t / 8) = (E.sample (max x y)).t / 8 - (E.sample (min x y)).t / 8 := by rw [IntKind.wrap_u64]; omega
      have q3 : decide ((E.sample (max x y)).t / 8 - (E.sample (min x y)).t / 8 ≤ 60000) = true := decide_eq_true hdf
      clear hmn ht0
      go_wp2_with (first
        | (go_at_call_of 9 (Value.pointer (some ⟨g, 0, none⟩)); refine Calls.mono (HD'.out.sample HM0.out) ?_; rintro e w3 ⟨rfl, h2⟩; have HD2 := hid h2; clear h2)
        | (go_at_call_of 9 (Value.pointer (some ⟨h, 0, none⟩)); refine Calls.mono (HD2.out.turn.sample HM1.out) ?_; rintro e w4 ⟨rfl, h2⟩; have HD3 := hid h2; clear h2)
        | (go_at_call_of 10 (Value.pointer (some ⟨g, 0, none⟩)); refine Calls.mono (HD3.out.turn.srtt) ?_; rintro e w5 ⟨rfl, h2⟩; rw [hs1]; have HD4 := hid h2; clear h2)
        | (go_at_call_of 10 (Value.pointer (some ⟨h, 0, none⟩)); refine Calls.mono (HD4.out.turn.srtt) ?_; rintro e w6 ⟨rfl, h2⟩; rw [hs2]; have HD5 := hid h2; clear h2))
      go_ret
      exact ⟨rfl, HD5.out.l.bel⟩
end Go.Proofs.Ytapggdkofdlmlaa
