import Derived.Test.YtgkfnbbgohdalaaDoorRef1
namespace Go.Proofs.YtgkfnbbgohdalaaDoor
open Go.RowKit
set_option maxRecDepth 100000
open Classical in
set_option maxHeartbeats 1600000 in
theorem sound_in {w : World} {a : Option Addr} {n cap : Nat} {l : List (Nat × Nat)} (hA : RangesAt w a l) (hn : l.length = n) (g1 : 1 ≤ n) (g2 : n ≤ 8) :
    Calls Tryd.prog 40 #[.slice a n cap] w fun e w' => e = .returned (.bool (decide (apart l))) ∧ Below w.heap.size w w' := by
  have HA : Hid _ := hA
  clear hA
  have HN : Hid _ := hn
  clear hn
  have i1 : (1 : Int) ≤ (n : Int) := by omega
  have i2 : (n : Int) ≤ 8 := by omega
  go_enter Tryd.func40, Tryd.ntmps40
  go_wp2
  go_loopw [15] (fun i wr => ∃ k : Nat, k ≤ n ∧ i = .int .i64 k ∧ apartTo l k ∧ Below w.heap.size w wr) (fun i _ => n - (intOf i).toNat)
  case atStart => exact ⟨0, Nat.zero_le _, rfl, fun i h hi => absurd hi (Nat.not_lt_zero _), Below.refl _ _⟩
  case round =>
    obtain ⟨k, hk, rfl, hto, hb⟩ := hrel
    have HTO : Hid (apartTo l k) := hto
    have HB : Hid _ := hb
    clear hto hb
    by_cases hlt : k < n
    · have hlt2 : k < l.length := by rw [HN.out]; exact hlt
      obtain ⟨g, o, rfl, c0, c1⟩ := HA.out k hlt2
      have d0 := cell_kept HB.out c0
      have d1 := cell_kept HB.out c1
      have HP : Hid (∀ h0 : 0 < k, wr.cell? ⟨g, o + (k - 1) * 2 + 1, none⟩ = some (.int .u64 ((l[k - 1]).2 : Int))) := fun h0 => by
        obtain ⟨g2, o2, e, _, p1⟩ := HA.out (k - 1) (by omega)
        cases e
        exact cell_kept HB.out p1
      have HAP : Hid (apartAt l k hlt2 ↔ (l[k]).1 < (l[k]).2 ∧ (l[k]).2 ≤ 4611686018427387905 ∧ (∀ h0 : 0 < k, (l[k - 1]).2 < (l[k]).1)) := Iff.rfl
      have HF : Hid (¬apartAt l k hlt2 → decide (apart l) = false) := fun h => decide_eq_false fun ha => h (ha k hlt2)
      have HNX : Hid (apartAt l k hlt2 → apartTo l (k + 1)) := HTO.out.next hlt2
      clear c0 c1 HTO
      generalize apartAt l k hlt2 = AP at *
      generalize l[k] = r at *
      obtain ⟨lo, hi⟩ := r
      simp only at d0 d1 HAP
      have hki : (k : Int) < (n : Int) := by omega
      by_cases h1 : lo < hi
      · have j1n : decide (hi ≤ lo) = false := decide_eq_false (by omega)
        have j1' : decide ((hi : Int) ≤ (lo : Int)) = false := decide_eq_false (by omega)
        by_cases h2 : hi ≤ 4611686018427387905
        · have i1 : (lo : Int) < (hi : Int) := by omega
          have i2 : (hi : Int) ≤ 4611686018427387905 := by omega
          have j2' : decide ((4611686018427387905 : Int) < (hi : Int)) = false := decide_eq_false (by omega)
          have j2n : decide (4611686018427387905 < hi) = false := decide_eq_false (by omega)
          by_cases h0 : 0 < k
          · have p1 := HP.out h0
            have HAP2 : Hid (AP ↔ lo < hi ∧ hi ≤ 4611686018427387905 ∧ (l[k - 1]).2 < lo) := by
              show _ ↔ _
              rw [HAP.out]
              exact ⟨fun h => ⟨h.1, h.2.1, h.2.2 h0⟩, fun h => ⟨h.1, h.2.1, fun _ => h.2.2⟩⟩
            clear HP HAP
            generalize (l[k - 1]).2 = pv at *
            obtain ⟨j, rfl⟩ : ∃ j, k = j + 1 := ⟨k - 1, by omega⟩
            rw [Nat.add_sub_cancel] at p1
            have j0 : (0 : Int) < ((j + 1 : Nat) : Int) := by omega
            have j1 : ((j + 1 : Nat) : Int) - 1 = (j : Int) := by omega
            have j2 : (j : Int) < (n : Int) := by omega
            have j3 : IntKind.i64.wrap (j : Int) = (j : Int) := by unfold IntKind.wrap; simp [IntKind.bits, IntKind.signed]; omega
            have p2 : (wr.alloc (Obj.cells #[Value.int IntKind.u64 ↑lo, Value.int IntKind.u64 ↑hi] 56)).cell? ⟨g, o + j * 2 + 1, none⟩ = some (.int .u64 (pv : Int)) := cell_kept ((Below.refl _ _).alloc (Nat.le_refl _) _) p1
            clear p1
            by_cases h3 : pv < lo
            · have i3 : (pv : Int) < (lo : Int) := by omega
              have d3 : decide ((lo : Int) ≤ (pv : Int)) = false := decide_eq_false (by omega)
              have d3n : decide (lo ≤ pv) = false := decide_eq_false (by omega)
              go_wp2
              go_quiet (fail)
              go_wp2
              go_roundw
              case rel => exact ⟨j + 1 + 1, hlt, by go_num, HNX.out (HAP2.out.2 ⟨h1, h2, h3⟩), below_drawn (((HB.out.alloc HB.out.size _))) _⟩
              case measure => simp [intOf]; omega
            · have i3 : (lo : Int) ≤ (pv : Int) := by omega
              have d3n : decide (lo ≤ pv) = true := decide_eq_true (by omega)
              go_wp2
              go_quiet (fail)
              go_wp2
              go_ret
              refine ⟨?_, ?_⟩
              · rw [HF.out (fun h => h3 (HAP2.out.1 h).2.2)]; rfl
              · exact below_drawn (((HB.out.alloc HB.out.size _))) _
          · obtain rfl : k = 0 := by omega
            have HNX2 : Hid _ := HNX.out (HAP.out.2 ⟨h1, h2, fun h => absurd h h0⟩)
            clear HP HAP HNX HF
            simp only [Nat.zero_mul, Nat.add_zero] at d0 d1
            rw [show ((0 : Nat) : Int) = 0 from rfl]
            go_wp2
            go_quiet (fail)
            go_wp2
            go_roundw
            case rel => exact ⟨1, hlt, by go_num, HNX2.out, below_drawn (((HB.out.alloc HB.out.size _))) _⟩
            case measure => simp [intOf]; omega
        · have i2 : (4611686018427387905 : Int) < (hi : Int) := by omega
          have j2n : decide (4611686018427387905 < hi) = true := decide_eq_true (by omega)
          go_wp2
          go_quiet (fail)
          go_wp2
          go_ret
          refine ⟨?_, ?_⟩
          · rw [HF.out (fun h => h2 (HAP.out.1 h).2.1)]; rfl
          · exact below_drawn (HB.out.alloc HB.out.size _) _
      · have i1 : (hi : Int) ≤ (lo : Int) := by omega
        have j1n : decide (hi ≤ lo) = true := decide_eq_true (by omega)
        go_wp2
        go_quiet (fail)
        go_wp2
        go_ret
        refine ⟨?_, ?_⟩
        · rw [HF.out (fun h => h1 (HAP.out.1 h).1)]; rfl
        · exact below_drawn (HB.out.alloc HB.out.size _) _
    · have e : k = n := by omega
      subst e
      go_wp2
      go_ret
      refine ⟨?_, HB.out⟩
      have : apart l := fun i h => HTO.out i h (by rw [← HN.out]; exact h)
      simp [this]
open Classical in
set_option maxHeartbeats 400000 in
theorem sound_any {w : World} {a : Option Addr} {n cap : Nat} {l : List (Nat × Nat)} (hA : RangesAt w a l) (hn : l.length = n) (hl : n ≤ 281474976710656) :
    Calls Tryd.prog 40 #[.slice a n cap] w fun e w' => e = .returned (.bool (decide (1 ≤ n ∧ n ≤ 8 ∧ apart l))) ∧ Below w.heap.size w w' := by
  by_cases g1 : 1 ≤ n
  · by_cases g2 : n ≤ 8
    · have hq : decide (1 ≤ n ∧ n ≤ 8 ∧ apart l) = decide (apart l) := decide_eq_decide.2 ⟨fun h => h.2.2, fun h => ⟨g1, g2, h⟩⟩
      rw [hq]
      exact sound_in hA hn g1 g2
    · have hq : decide (1 ≤ n ∧ n ≤ 8 ∧ apart l) = false := decide_eq_false fun h => g2 h.2.1
      rw [hq]
      have i1 : (1 : Int) ≤ (n : Int) := by omega
      have i3 : (8 : Int) < (n : Int) := by omega
      have i4 : (n : Int) ≤ 281474976710656 := by omega
      go_enter Tryd.func40, Tryd.ntmps40
      go_wp2
      go_ret
      exact ⟨rfl, Below.refl _ _⟩
  · have hq : decide (1 ≤ n ∧ n ≤ 8 ∧ apart l) = false := decide_eq_false fun h => g1 h.1
    rw [hq]
    have i1 : (n : Int) < 1 := by omega
    go_enter Tryd.func40, Tryd.ntmps40
    go_wp2
    go_ret
    exact ⟨rfl, Below.refl _ _⟩
end Go.Proofs.YtgkfnbbgohdalaaDoor
