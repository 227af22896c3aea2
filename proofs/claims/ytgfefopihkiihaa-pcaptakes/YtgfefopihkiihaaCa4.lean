import Derived.Test.YtgfefopihkiihaaMk
namespace Go.Proofs.Ytgfefopihkiihaa
open Go.RowKit Go.Maps
set_option maxRecDepth 100000

theorem be_range : ∀ (k : Nat) (x : Int), be x k = (List.range k).map (fun i => BitVec.ofInt 8 (x / 256 ^ (k - 1 - i)))
  | 0, _ => rfl
  | k + 1, x => by
    rw [List.range_succ, List.map_append, be, be_range k]
    congr 1
    · refine List.map_congr_left fun i hi => ?_
      have hi' : i < k := by simpa using hi
      rw [Int.ediv_ediv_of_nonneg (by decide), show k + 1 - 1 - i = (k - 1 - i) + 1 by omega, Int.pow_succ, Int.mul_comm]
    · simp
/-- Which of the number's bytes stands there. -/
def posB (little : Bool) (k i : Nat) : Nat := if little then i else k - 1 - i
/-- The row so far. -/
def rowB (x : Int) (k : Nat) (little : Bool) (j : Nat) : List (BitVec 8) := (List.range k).map (fun i => if posB little k i < j then BitVec.ofInt 8 (x / 256 ^ posB little k i) else 0#8)
theorem rowB_len (x : Int) (k : Nat) (little : Bool) (j : Nat) : (rowB x k little j).length = k := by simp [rowB]
theorem rowB_zero (x : Int) (k : Nat) (little : Bool) : rowB x k little 0 = z k := by
  unfold rowB z
  apply List.ext_getElem?
  intro i
  by_cases h : i < k
  · simp [h]
  · simp [h]
theorem posB_inv {little : Bool} {k j i : Nat} (hj : j < k) (hi : i < k) : posB little k i = j ↔ i = posB little k j := by
  unfold posB
  cases little <;> simp <;> omega
theorem posB_lt {little : Bool} {k j : Nat} (hj : j < k) : posB little k j < k := by
  unfold posB
  cases little <;> simp <;> omega
theorem rowB_step {x : Int} {k : Nat} {little : Bool} {j : Nat} (hj : j < k) : (rowB x k little j).set (posB little k j) (BitVec.ofInt 8 (x / 256 ^ j)) = rowB x k little (j + 1) := by
  apply List.ext_getElem?
  intro i
  by_cases hi : i < k
  · rw [List.getElem?_set]
    have hi2 := posB_lt (little := little) hj
    by_cases he : posB little k j = i
    · have h2 : posB little k i = j := (posB_inv hj hi).2 he.symm
      rw [if_pos he, if_pos (by rw [rowB_len]; exact hi2)]
      unfold rowB
      rw [List.getElem?_map, List.getElem?_range hi]
      simp only [Option.map_some, h2]
      rw [if_pos (by omega)]
    · have h2 : posB little k i ≠ j := fun e => he ((posB_inv hj hi).1 e).symm
      rw [if_neg he]
      unfold rowB
      rw [List.getElem?_map, List.getElem?_map, List.getElem?_range hi]
      simp only [Option.map_some]
      by_cases h3 : posB little k i < j
      · rw [if_pos h3, if_pos (by omega)]
      · rw [if_neg h3, if_neg (by omega)]
  · rw [List.getElem?_eq_none (by rw [List.length_set, rowB_len]; omega), List.getElem?_eq_none (by rw [rowB_len]; omega)]
/-- A number's bytes, in an order. -/
def ord (x : Int) (k : Nat) (little : Bool) : List (BitVec 8) := if little then (be x k).reverse else be x k
theorem rowB_all (x : Int) (k : Nat) (little : Bool) : rowB x k little k = ord x k little := by
  have h1 : rowB x k little k = (List.range k).map (fun i => BitVec.ofInt 8 (x / 256 ^ posB little k i)) := by
    unfold rowB
    refine List.map_congr_left fun i hi => ?_
    have hi' : i < k := by simpa using hi
    rw [if_pos (posB_lt hi')]
  rw [h1]
  unfold ord
  cases little
  · simp only [posB, Bool.false_eq_true, if_false]
    rw [be_range]
  · simp only [posB, if_true]
    rw [be_range, ← List.map_reverse]
    apply List.ext_getElem?
    intro i
    by_cases hi : i < k
    · rw [List.getElem?_map, List.getElem?_range hi, List.getElem?_map, List.getElem?_reverse (by simpa using hi)]
      simp only [List.length_range]
      rw [List.getElem?_range (by omega)]
      simp only [Option.map_some]
      rw [show k - 1 - (k - 1 - i) = i by omega]
    · simp [hi]
set_option maxHeartbeats 4000000 in
/-- A number as bytes: the document's own way. -/
theorem long_any (w : World) {x : Int} {k : Nat} (little : Bool) (h0 : 0 ≤ x) (h1 : x < 18446744073709551616) (hk : k ≤ 8) :
    Calls Try.prog 39 #[.int .u64 x, .int .i64 k, .bool little] w fun e w' => ∃ v, e = .returned v ∧ OwnBy w' w.heap.size v (ord x k little) ∧ Below w.heap.size w w' := by
  have hk0 : (0 : Int) ≤ (k : Int) := by omega
  have hk1 : (k : Int) ≤ 8 := by omega
  have hm : ∀ w, (Instr.makeSlice 31 (.int .i64 (k : Int)) (.int .i64 (k : Int))).run Try.prog w = .ok (.slice (some ⟨w.heap.size, 0, none⟩) k k) (w.alloc (.cells (bcells (z k)).toArray 5)) := fun w => make_run w k (by omega)
  have HR0 := hid (Row.new w (bcells (z k)) 5)
  have HB0 := hid (below_new w (.cells (bcells (z k)).toArray 5))
  go_enter Try.func39, Try.ntmps39
  go_upto_region 3 with fail
  refine wp_world fun w1 HW1 => ?_
  obtain ⟨g, hg⟩ : ∃ g, w.heap.size = g := ⟨_, rfl⟩
  have HR1 : Hid (Row w1 g (bcells (rowB x k little 0)) 5) := by rw [HW1.out, ← hg, rowB_zero]; exact HR0.out
  have HB1 : Hid (Below g w w1) := by rw [HW1.out, ← hg]; exact HB0.out
  rw [hg]
  clear HR0 HB0 HW1 hm
  have hG := hid hg
  clear hg
  go_loopw [0, 14] (fun s t wx => ∃ j : Nat, s = .int .u64 (x / 256 ^ j) ∧ t = .int .i64 j ∧ j ≤ k ∧ Row wx g (bcells (rowB x k little j)) 5 ∧ Below g w wx) (fun _ t _ => k - (intOf t).toNat)
  case atStart => exact ⟨0, by simp, by go_num, Nat.zero_le _, HR1.out, HB1.out⟩
  case round =>
    obtain ⟨j, rfl, rfl, hj, hR, hB⟩ := hrel
    have HR := hid hR
    have HB := hid hB
    clear hB HR1 HB1
    have hj0 : (0 : Int) ≤ (j : Int) := by omega
    by_cases hjk : j < k
    · have hji : (j : Int) < (k : Int) := by omega
      have hp := posB_lt (little := little) hjk
      obtain ⟨v0, c0⟩ : ∃ v0, wr.cell? ⟨g, posB little k j, none⟩ = some v0 := ⟨_, hR.cell (posB little k j) _ (bcells_get (by rw [rowB_len]; exact hp))⟩
      have f0 := hR.frozen (posB little k j)
      have HRS := hid (hR.set (posB little k j) (.int .u8 (ub (BitVec.ofInt 8 (x / 256 ^ j)))))
      have hy0 : 0 ≤ x / 256 ^ j := Int.ediv_nonneg h0 (Int.pow_nonneg (by decide))
      have hy1 : x / 256 ^ j < 18446744073709551616 := Int.lt_of_le_of_lt (Int.ediv_le_self _ h0) h1
      have HQ : Hid (x / 256 ^ (j + 1) = x / 256 ^ j / 256) := by show _ = _; rw [Int.pow_succ, Int.ediv_ediv_of_nonneg (Int.pow_nonneg (by decide))]
      have HU := hid (u8_of (x / 256 ^ j))
      have HPI : Hid (((posB little k j : Nat) : Int) = if little then (j : Int) else (k : Int) - 1 - j) := by
        show _ = _
        unfold posB
        cases little <;> simp <;> omega
      obtain ⟨y, hy⟩ : ∃ y, x / 256 ^ j = y := ⟨_, rfl⟩
      rw [hy] at hy0 hy1 HU HQ ⊢
      have HY := hid hy
      rw [hy] at HRS
      clear hR HPI hy
      cases little with
      | false =>
        obtain ⟨m, hm⟩ : ∃ m, posB false k j = m := ⟨_, rfl⟩
        have hmi : (k : Int) - 1 - (j : Int) = (m : Int) := by
          rw [← hm]; simp [posB]; omega
        have hmk : (m : Int) < (k : Int) := by omega
        have hm0 : (0 : Int) ≤ (m : Int) := by omega
        rw [hm] at c0 f0
        have HM := hid hm
        clear hm
        go_wp2_with fail
        go_roundw
        case rel =>
          refine ⟨j + 1, by rw [HQ.out], by go_num, by omega, ?_, HB.out.setCell (show g ≤ g from Nat.le_refl _) _⟩
          have h := HRS.out
          rw [bcells_set, ← HY.out, rowB_step hjk, HY.out, HM.out, ← HU.out] at h
          exact h
        case measure => simp [intOf]; omega
      | true =>
        obtain ⟨m, hm⟩ : ∃ m, posB true k j = m := ⟨_, rfl⟩
        have hmi : (j : Int) = (m : Int) := by
          rw [← hm]; simp [posB]
        have hmk : (m : Int) < (k : Int) := by omega
        have hm0 : (0 : Int) ≤ (m : Int) := by omega
        rw [hm] at c0 f0
        have HM := hid hm
        clear hm
        go_wp2_with fail
        go_roundw
        case rel =>
          refine ⟨j + 1, by rw [HQ.out], by go_num, by omega, ?_, HB.out.setCell (show g ≤ g from Nat.le_refl _) _⟩
          have h := HRS.out
          rw [bcells_set, ← HY.out, rowB_step hjk, HY.out, HM.out, ← HU.out] at h
          exact h
        case measure => simp [intOf]; omega
    · obtain rfl : j = k := by omega
      have hji : ¬ (j : Int) < (j : Int) := by omega
      have HOW : Hid (OwnBy wr g (.slice (some ⟨g, 0, none⟩) j j) (ord x j little)) := by
        have e1 : (ord x j little).length = j := by rw [← rowB_all, rowB_len]
        refine ⟨by rw [bcells_len, Nat.mul_one], .inr ⟨g, j, _, by rw [e1], Nat.le_refl _, (by have := HR.out.at_; rw [rowB_all] at this; exact this), by rw [e1]; exact Nat.le_refl _, by unfold maxLen; omega, by simp [bcells_len, e1], ?_⟩⟩
        rw [List.take_of_length_le (by simp [bcells_len])]
      clear HR hR
      go_wp2_with fail
      go_ret
      rw [hG.out]
      exact ⟨_, rfl, HOW.out, HB.out⟩
end Go.Proofs.Ytgfefopihkiihaa
