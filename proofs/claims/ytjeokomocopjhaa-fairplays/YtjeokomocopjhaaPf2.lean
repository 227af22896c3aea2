import Derived.Test.YtjeokomocopjhaaPf1
import Derived.BigQuiet
import Derived.Laws.StructEq
namespace Go.Proofs.Ytjeokomocopjhaa
open Go.RowKit Go.Maps
set_option maxRecDepth 100000

theorem eq44 (a b c d e : Int) (w : World) : (Op.equalIn 10000 44 (.agg #[.int .u64 a, .int .i64 b, .int .i64 c, .int .i64 d, .int .i64 e]) (.agg #[.int .u64 a, .int .i64 b, .int .i64 c, .int .i64 d, .int .i64 e])).run Try.prog w = .ok true w := by
  rw [run_equalIn_struct w 9999 44 _ _ Try.underlying44 (by kernel_rfl)]
  go_simp
theorem eq31 (a b : Int) (w : World) : (Op.equalIn 10000 31 (.agg #[.int .u64 a, .int .i64 b]) (.agg #[.int .u64 a, .int .i64 b])).run Try.prog w = .ok true w := by
  rw [run_equalIn_struct w 9999 31 _ _ Try.underlying31 (by kernel_rfl)]
  go_simp
theorem own_cells44 {w : World} {base : Nat} {v : Value} {U : List Ln} (h : w.ownsRow base 44 5 v U.length (flatI U)) : ∃ a cap, v = .slice a U.length cap ∧ ∀ i, i < U.length → ∃ g, a = some ⟨g, 0, none⟩ ∧ ∀ j u, (flatI U)[j]? = some u → w.cell? ⟨g, j, none⟩ = some u := by
  obtain ⟨hl, ⟨rfl, hn⟩ | ⟨g, cap, cur, rfl, hb, hg, hnc, hcm, hcs, htk⟩⟩ := h
  · exact ⟨none, 0, by rw [hn], fun i hi => absurd hi (by omega)⟩
  · refine ⟨_, cap, rfl, fun i hi => ⟨g, rfl, fun j u hu => ?_⟩⟩
    have hj : j < U.length * 5 := by have := (List.getElem?_eq_some_iff.1 hu).1; rwa [flatI_len] at this
    rw [cell_of_row w g _ _ _ _ hg, ← Array.getElem?_toList, ← List.getElem?_take_of_lt hj, htk]
    exact hu
set_option maxHeartbeats 2000000 in
theorem same_view {w : World} {g base : Nat} {v : Value} {U : List Ln} (hr : Row w g (flatI U) 44) (hv : w.ownsRow base 44 5 v U.length (flatI U)) (hl : U.length ≤ 1024) :
    Calls Try.prog 17 #[.slice (some ⟨g, 0, none⟩) U.length U.length, v] w fun e w' => e = .returned (.bool true) ∧ ∃ q, w' = w.drewN q := by
  obtain ⟨a, cap, rfl, hc⟩ := own_cells44 hv
  have HC := hid2 hc
  have HR := hid2 hr
  have hli : (U.length : Int) ≤ 1024 := by omega
  clear hc hr hv
  go_enter Try.func17, Try.ntmps17
  go_wp2_with fail
  go_loopw [13] (fun s wr => ∃ k q : Nat, k ≤ U.length ∧ s = .int .i64 k ∧ wr = w.drewN q) (fun s _ => U.length + 1 - (intOf s).toNat)
  case atStart => exact ⟨0, 0, Nat.zero_le _, rfl, rfl⟩
  case round =>
    obtain ⟨k, q, hk, rfl, rfl⟩ := hrel
    by_cases hlt : k < U.length
    · have hki : (k : Int) < (U.length : Int) := by omega
      have hk0 : (0 : Int) ≤ (k : Int) := by omega
      obtain ⟨g', rfl, hcc⟩ := HC.out k hlt
      obtain ⟨e0, e1, e2, e3, e4⟩ := flatI_get U k hlt
      have a0 : w.cell? ⟨g, k * 5, none⟩ = _ := HR.out.cell _ _ e0
      have a1 : w.cell? ⟨g, k * 5 + 1, none⟩ = _ := HR.out.cell _ _ e1
      have a2 : w.cell? ⟨g, k * 5 + 2, none⟩ = _ := HR.out.cell _ _ e2
      have a3 : w.cell? ⟨g, k * 5 + 3, none⟩ = _ := HR.out.cell _ _ e3
      have a4 : w.cell? ⟨g, k * 5 + 4, none⟩ = _ := HR.out.cell _ _ e4
      have b0 : w.cell? ⟨g', k * 5, none⟩ = _ := hcc _ _ e0
      have b1 : w.cell? ⟨g', k * 5 + 1, none⟩ = _ := hcc _ _ e1
      have b2 : w.cell? ⟨g', k * 5 + 2, none⟩ = _ := hcc _ _ e2
      have b3 : w.cell? ⟨g', k * 5 + 3, none⟩ = _ := hcc _ _ e3
      have b4 : w.cell? ⟨g', k * 5 + 4, none⟩ = _ := hcc _ _ e4
      have heq := eq44 U[k].num U[k].s.cls U[k].s.shr U[k].s.wt U[k].s.cr
      generalize U[k].num = x0 at *
      generalize (U[k].s.cls : Int) = x1 at *
      generalize U[k].s.shr = x2 at *
      generalize U[k].s.wt = x3 at *
      generalize U[k].s.cr = x4 at *
      clear hcc e0 e1 e2 e3 e4
      go_upto_region 6 with fail
      go_quiet (fail)
      go_wp2_with fail
      go_roundw
      case rel => exact ⟨k + 1, _, hlt, by go_num, rfl⟩
      case measure => simp [intOf]; omega
    · obtain rfl : k = U.length := by omega
      go_wp2_with fail
      go_ret
      exact ⟨rfl, q, rfl⟩
end Go.Proofs.Ytjeokomocopjhaa
