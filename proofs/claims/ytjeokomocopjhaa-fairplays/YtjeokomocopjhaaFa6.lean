import Derived.Test.YtjeokomocopjhaaFa2
namespace Go.Proofs.Ytjeokomocopjhaa
open Go.RowKit Go.Maps
set_option maxRecDepth 100000

theorem idx55 (V : Nat → Value) {k : Nat} (h : k < 8) (w : World) : (Instr.index 55 (.agg #[V 0, V 1, V 2, V 3, V 4, V 5, V 6, V 7]) (.int .i64 k)).run Try.prog w = .ok (V k) w := by
  rcases lt8 h with rfl | rfl | rfl | rfl | rfl | rfl | rfl | rfl <;> kernel_rfl
set_option maxHeartbeats 2000000 in
/-- No bytes wait. -/
theorem first_none {w : World} {p b : Nat} {V : Nat → Value} {F : Fs} (h : FaAt w p b V F) (hE : ∀ k, k < 8 → F.R k = []) :
    Calls Try.prog 21 #[pt p 0] w fun e w' => e = .returned (.pointer none) ∧ w' = w := by
  have v0 := h.row.cell 2 (V 0) rfl
  have v1 := h.row.cell 3 (V 1) rfl
  have v2 := h.row.cell 4 (V 2) rfl
  have v3 := h.row.cell 5 (V 3) rfl
  have v4 := h.row.cell 6 (V 4) rfl
  have v5 := h.row.cell 7 (V 5) rfl
  have v6 := h.row.cell 8 (V 6) rfl
  have v7 := h.row.cell 9 (V 7) rfl
  have HV : Hid (∀ k, k < 8 → ∃ a cap, V k = .slice a 0 cap) := fun k hk => by
    obtain ⟨a, cap, hv, -⟩ := own_slice (h.own k hk)
    rw [hE k hk] at hv
    exact ⟨a, cap, hv⟩
  have HIX : Hid (∀ k : Nat, k < 8 → ∀ w, (Instr.index 55 (.agg #[V 0, V 1, V 2, V 3, V 4, V 5, V 6, V 7]) (.int .i64 k)).run Try.prog w = .ok (V k) w) := fun k hk w => idx55 V hk w
  clear h hE
  go_enter Try.func21, Try.ntmps21
  go_wp2_with fail
  clear v0 v1 v2 v3 v4 v5 v6 v7
  go_loopw [9] (fun s wr => ∃ k : Nat, k ≤ 8 ∧ s = .int .i64 k ∧ w = wr) (fun s _ => 9 - (intOf s).toNat)
  case atStart => exact ⟨0, Nat.zero_le _, rfl, rfl⟩
  case round =>
    obtain ⟨k, hk, rfl, rfl⟩ := hrel
    by_cases hlt : k < 8
    · have hki : (k : Int) < 8 := by omega
      have hx := HIX.out k hlt
      obtain ⟨a, cap, hv⟩ := HV.out k hlt
      rw [hv] at hx
      go_wp2_with fail
      go_roundw
      case rel => exact ⟨k + 1, by omega, by go_num, by first | rfl | trivial⟩
      case measure => simp [intOf]; omega
    · have hki : ¬ (k : Int) < 8 := by omega
      go_wp2_with fail
      go_ret
      exact ⟨by first | rfl | simp, rfl⟩
set_option maxHeartbeats 2000000 in
/-- The first stream of the lowest row that is not empty. -/
theorem first_some {w : World} {p b : Nat} {V : Nat → Value} {F : Fs} (h : FaAt w p b V F) {c : Nat} (hc : c < 8) (hE : ∀ k, k < c → F.R k = []) {y : Int} {B : List Int} (hR : F.R c = y :: B) (hy0 : 0 ≤ y) (hy1 : y ≤ 18446744073709551615) {x : Ln} (hx : fnd F.U y = some x) :
    Calls Try.prog 21 #[pt p 0] w fun e w' => e = .returned (pt x.g 0) ∧ ∃ q, w' = w.drewN q := by
  have v0 := h.row.cell 2 (V 0) rfl
  have v1 := h.row.cell 3 (V 1) rfl
  have v2 := h.row.cell 4 (V 2) rfl
  have v3 := h.row.cell 5 (V 3) rfl
  have v4 := h.row.cell 6 (V 4) rfl
  have v5 := h.row.cell 7 (V 5) rfl
  have v6 := h.row.cell 8 (V 6) rfl
  have v7 := h.row.cell 9 (V 7) rfl
  have c1 := h.row.cell 1 _ rfl
  have HV : Hid (∀ k, k < c → ∃ a cap, V k = .slice a 0 cap) := fun k hk => by
    obtain ⟨a, cap, hv, -⟩ := own_slice (h.own k (by omega))
    rw [hE k hk] at hv
    exact ⟨a, cap, hv⟩
  have HIX : Hid (∀ k : Nat, k < 8 → ∀ w, (Instr.index 55 (.agg #[V 0, V 1, V 2, V 3, V 4, V 5, V 6, V 7]) (.int .i64 k)).run Try.prog w = .ok (V k) w) := fun k hk w => idx55 V hk w
  obtain ⟨g, n, cap, hvc, hcell⟩ : ∃ g n cap, V c = .slice (some ⟨g, 0, none⟩) (n + 1) cap ∧ w.cell? ⟨g, 0, none⟩ = some (.int .u64 y) := by
    obtain ⟨a, cap, hv, _, _, _, hcc⟩ := own_slice (h.own c hc)
    rw [hR] at hv
    obtain ⟨g, ha, hcc⟩ := hcc 0 (by rw [hR]; simp)
    refine ⟨g, B.length, cap, by rw [hv, ha]; rfl, ?_⟩
    rw [hcc]
    simp [hR]
  have hL := look_any (w := w.drew) (OwnU.block h.map rfl) hy0 hy1
  rw [hx] at hL
  simp only [Option.map_some, ptrV] at hL
  have HVC := hid2 hvc
  clear h hE hR hvc hx
  go_enter Try.func21, Try.ntmps21
  go_wp2_with fail
  clear v0 v1 v2 v3 v4 v5 v6 v7
  go_loopw [9] (fun s wr => ∃ k : Nat, k ≤ c ∧ s = .int .i64 k ∧ w = wr) (fun s _ => 9 - (intOf s).toNat)
  case atStart => exact ⟨0, Nat.zero_le _, rfl, rfl⟩
  case round =>
    obtain ⟨k, hk, rfl, rfl⟩ := hrel
    have hki : (k : Int) < 8 := by omega
    have hx := HIX.out k (by omega)
    by_cases hlt : k < c
    · obtain ⟨a, cap, hv⟩ := HV.out k hlt
      rw [hv] at hx
      go_wp2_with fail
      go_roundw
      case rel => exact ⟨k + 1, by omega, by go_num, by first | rfl | trivial⟩
      case measure => simp [intOf]; omega
    · obtain rfl : k = c := by omega
      rw [HVC.out] at hx
      have hn0 : (0 : Int) < (n : Int) + 1 := by omega
      go_upto_region 5 with fail
      go_region
      go_wp2_with fail
      go_ret
      exact ⟨by first | rfl | simp, _, rfl⟩
end Go.Proofs.Ytjeokomocopjhaa
