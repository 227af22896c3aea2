import Derived.Test.YtgkfnbbgohdalaaDoorFr2
import Derived.Test.YtgkfnbbgohdalaaDoorFr4
namespace Go.Proofs.YtgkfnbbgohdalaaDoor
open Go.RowKit
set_option maxRecDepth 100000
set_option maxHeartbeats 800000 in
theorem sound_yes {w : World} {a : Option Addr} {n cap : Nat} {l : List (Nat × Nat)} (hA : RangesAt w a l) (hn : l.length = n) (g1 : 1 ≤ n) (g2 : n ≤ 8) (hap : apart l) :
    Calls Tryd.prog 40 #[.slice a n cap] w fun e w' => e = .returned (.bool true) ∧ Below w.heap.size w w' := by
  have HA : Hid _ := hA
  clear hA
  have HN : Hid _ := hn
  have HAPP : Hid (apart l) := hap
  clear hn hap
  have i1 : (1 : Int) ≤ (n : Int) := by omega
  have i2 : (n : Int) ≤ 8 := by omega
  go_enter Tryd.func40, Tryd.ntmps40
  go_wp2
  go_loopw [15] (fun i wr => ∃ k : Nat, k ≤ n ∧ i = .int .i64 k ∧ Below w.heap.size w wr) (fun i _ => n - (intOf i).toNat)
  case atStart => exact ⟨0, Nat.zero_le _, rfl, Below.refl _ _⟩
  case round =>
    obtain ⟨k, hk, rfl, hb⟩ := hrel
    have HB : Hid _ := hb
    clear hb
    by_cases hlt : k < n
    · have hlt2 : k < l.length := by rw [HN.out]; exact hlt
      obtain ⟨g, o, rfl, c0, c1⟩ := HA.out k hlt2
      have d0 := cell_kept HB.out c0
      have d1 := cell_kept HB.out c1
      have HP : Hid (∀ h0 : 0 < k, wr.cell? ⟨g, o + (k - 1) * 2 + 1, none⟩ = some (.int .u64 ((l[k - 1]).2 : Int))) := fun h0 => by
        obtain ⟨g2, o2, e, _, p1⟩ := HA.out (k - 1) (by omega)
        cases e
        exact cell_kept HB.out p1
      have HAP := HAPP.out k hlt2
      obtain ⟨h1, h2, h3⟩ := HAP
      have H3 : Hid _ := h3
      clear c0 c1 h3
      generalize l[k] = r at *
      obtain ⟨lo, hi⟩ := r
      simp only at d0 d1 h1 h2
      have hki : (k : Int) < (n : Int) := by omega
      have i1 : (lo : Int) < (hi : Int) := by omega
      have i2 : (hi : Int) ≤ 4611686018427387905 := by omega
      have j1' : decide ((hi : Int) ≤ (lo : Int)) = false := decide_eq_false (by omega)
      have j2' : decide ((4611686018427387905 : Int) < (hi : Int)) = false := decide_eq_false (by omega)
      have j1n : decide (hi ≤ lo) = false := decide_eq_false (by omega)
      have j2n : decide (4611686018427387905 < hi) = false := decide_eq_false (by omega)
      by_cases h0 : 0 < k
      · have p1 := HP.out h0
        have h3 := H3.out h0
        simp only at h3
        clear HP H3
        generalize (l[k - 1]).2 = pv at *
        obtain ⟨j, rfl⟩ : ∃ j, k = j + 1 := ⟨k - 1, by omega⟩
        rw [Nat.add_sub_cancel] at p1
        have j0 : (0 : Int) < ((j + 1 : Nat) : Int) := by omega
        have j1 : ((j + 1 : Nat) : Int) - 1 = (j : Int) := by omega
        have j2 : (j : Int) < (n : Int) := by omega
        have j3 : IntKind.i64.wrap (j : Int) = (j : Int) := by unfold IntKind.wrap; simp [IntKind.bits, IntKind.signed]; omega
        have p2 : (wr.alloc (Obj.cells #[Value.int IntKind.u64 ↑lo, Value.int IntKind.u64 ↑hi] 56)).cell? ⟨g, o + j * 2 + 1, none⟩ = some (.int .u64 (pv : Int)) := cell_kept ((Below.refl _ _).alloc (Nat.le_refl _) _) p1
        clear p1
        have i3 : (pv : Int) < (lo : Int) := by omega
        have d3 : decide ((lo : Int) ≤ (pv : Int)) = false := decide_eq_false (by omega)
        go_wp2
        go_quiet (fail)
        go_wp2
        go_roundw
        case rel => exact ⟨j + 1 + 1, hlt, by go_num, below_drawn (((HB.out.alloc HB.out.size _))) _⟩
        case measure => simp [intOf]; omega
      · obtain rfl : k = 0 := by omega
        clear H3 HP
        simp only [Nat.zero_mul, Nat.add_zero] at d0 d1
        rw [show ((0 : Nat) : Int) = 0 from rfl]
        go_wp2_with fail
        refine wp_world fun W2 HW => ?_
        have t0 : W2.cell? ⟨wr.heap.size, 0, none⟩ = some (.int .u64 (lo : Int)) := by rw [HW.out]; exact (Row.new wr [.int .u64 (lo : Int), .int .u64 (hi : Int)] 56).cell 0 _ rfl
        have t1 : W2.cell? ⟨wr.heap.size, 1, none⟩ = some (.int .u64 (hi : Int)) := by rw [HW.out]; exact (Row.new wr [.int .u64 (lo : Int), .int .u64 (hi : Int)] 56).cell 1 _ rfl
        have HB2 : Hid (Below w.heap.size w W2) := by show Below _ _ _; rw [HW.out]; exact HB.out.alloc HB.out.size _
        clear HW d0 d1 HB
        go_quiet (fail)
        go_wp2
        go_roundw
        case rel => exact ⟨1, hlt, by go_num, below_drawn HB2.out _⟩
        case measure => simp [intOf]; omega
    · have e : k = n := by omega
      subst e
      go_wp2
      go_ret
      exact ⟨rfl, HB.out⟩
end Go.Proofs.YtgkfnbbgohdalaaDoor
