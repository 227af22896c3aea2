import Derived.Test.YtfhjiggaacgncaaDoorJd1
namespace Go.Proofs.YtfhjiggaacgncaaDoor
open Go.RowKit Go.Maps Go.Sort
set_option maxRecDepth 100000

theorem makes_no (w : World) (n : Int) (h : ¬ (1 ≤ n ∧ n ≤ 16777216)) : Calls Tryd.prog 3 #[.int .i64 n] w fun e w' => e = .returned (.bool true) ∧ Below w.heap.size w w' := by
  have HN := hid (newDisk_no w n h)
  have HO := hid (open_nil w)
  by_cases h1 : n < 1
  · clear h
    go_enter Tryd.func3, Tryd.ntmps3
    go_wp2_with (first | (go_at_call 8; refine HN.out.mono ?_; rintro e w1 ⟨rfl, rfl⟩) | (go_at_call 9; refine HO.out.mono ?_; rintro e w1 ⟨rfl, rfl⟩))
    go_ret
    exact ⟨rfl, Below.refl _ _⟩
  · have h2 : 16777216 < n := by omega
    clear h
    go_enter Tryd.func3, Tryd.ntmps3
    go_wp2_with (first | (go_at_call 8; refine HN.out.mono ?_; rintro e w1 ⟨rfl, rfl⟩) | (go_at_call 9; refine HO.out.mono ?_; rintro e w1 ⟨rfl, rfl⟩))
    go_ret
    exact ⟨rfl, Below.refl _ _⟩
set_option maxHeartbeats 2000000 in
theorem makes_at (w : World) (m : Int) (n : Nat) (h1 : 1 ≤ n) (h2 : n ≤ 1048576) (hm : m = n ∨ (1048576 < m ∧ m ≤ 16777216 ∧ n = 1048576)) : Calls Tryd.prog 3 #[.int .i64 m] w fun e w' => e = .returned (.bool true) ∧ Below w.heap.size w w' := by
  have HN := hid (newDisk_ok w n h1 (by omega))
  have HO : Hid (∀ w1, Calls Tryd.prog 9 #[.pointer none] w1 fun e w' => e = .returned (.tuple #[.pointer none, .int .i64 210]) ∧ w' = w1) := open_nil
  have hn1 : (1 : Int) ≤ n := by omega
  have hn2 : (n : Int) ≤ 1048576 := by omega
  have hz : ∀ j (h : j < (z n).length), (z n)[j] = 0#8 := fun j h => by simp [z]
  have HZ := hid hz
  clear hz h1 h2
  rcases hm with rfl | ⟨hm1, hm2, hne⟩
  · go_enter Tryd.func3, Tryd.ntmps3
    go_upto_region 9 with (first | (go_at_call 8; refine HN.out.mono ?_; rintro e w1 ⟨p, D, rfl, hD, hb, hmem, hS, hN, hW, -⟩; have HD := hid hD; have HB := hid hb; have HS := hid hS; have HNN := hid hN; have HW := hid hW; clear hD hb hmem hS hN hW) | (go_at_call 9; refine (HO.out _).mono ?_; rintro e w2 ⟨rfl, rfl⟩))
    have HZS : Hid (∀ w1, DkAt w1 p D → Calls Tryd.prog 10 #[pt p 0] w1 fun e w' => e = .returned (.int .i64 n) ∧ w' = w1) := fun w1 h => by have := size_any h; rw [HNN.out, z_len] at this; exact this
    have HZP : Hid (∀ w1, DkAt w1 p D → Calls Tryd.prog 11 #[pt p 0] w1 fun e w' => e = .returned (.int .i64 0) ∧ w' = w1) := fun w1 h => by have := pending_any h; rw [HW.out] at this; exact this
    have HZI : Hid (∀ w1, DkAt w1 p D → Calls Tryd.prog 12 #[pt p 0] w1 fun e w' => ∃ a cap, e = .returned (.slice a n cap) ∧ BytesAt w' a (z n) ∧ n ≤ cap ∧ cap ≤ maxLen ∧ Below w1.heap.size w1 w') := fun w1 h => by
      refine (image_any h (by rw [HS.out, z_len]; omega)).mono ?_
      rintro e w' ⟨v, rfl, hO, hb⟩
      rw [HS.out] at hO
      obtain ⟨a, cap, rfl, hB, h1, h2, _⟩ := ownBy_shape hO
      rw [z_len] at h1
      exact ⟨a, cap, by rw [z_len], hB, h1, h2, hb⟩
    go_wp2_with (first | (go_at_call 10; refine (HZS.out _ HD.out).mono ?_; rintro e w3 ⟨rfl, rfl⟩) | (go_at_call 11; refine (HZP.out _ HD.out).mono ?_; rintro e w3 ⟨rfl, rfl⟩) | (go_at_call 12; refine (HZI.out _ HD.out).mono ?_; rintro e w3 ⟨a, cap, rfl, hB, hc1, hc2, hb3⟩; have HBY := hid hB; have HB3 := hid hb3; clear hB hb3))
    go_loopw [62] (fun i wr => ∃ k : Nat, k ≤ n ∧ i = .int .i64 k ∧ wr = w3) (fun i _ => n - (intOf i).toNat)
    case atStart => exact ⟨0, Nat.zero_le _, rfl, rfl⟩
    case round =>
      obtain ⟨k, hk, rfl, rfl⟩ := hrel
      by_cases hlt : k < n
      · obtain ⟨g, o, rfl, c1⟩ := HBY.out k (by rw [z_len]; exact hlt)
        rw [HZ.out] at c1
        have e0 : ub 0#8 = 0 := by decide
        rw [e0] at c1
        go_wp2
        go_roundw
        case rel => exact ⟨k + 1, hlt, by go_num, trivial⟩
        case measure => simp [intOf]; omega
      · have e : k = n := by omega
        subst e
        have HD4 := hid (HD.out.kept HB3.out)
        go_wp2_with (go_at_call 12; refine (HZI.out _ HD4.out).mono ?_; rintro e w4 ⟨a4, cap4, rfl, -, hc3, hc4, hb4⟩; have HB4 := hid hb4; clear hb4)
        go_ret
        exact ⟨rfl, below_two (below_two HB.out HB3.out (Nat.le_refl _)) HB4.out (Nat.le_refl _)⟩
  · have hni : (n : Int) = 1048576 := by omega
    rw [hni] at HN
    clear hne
    go_enter Tryd.func3, Tryd.ntmps3
    go_upto_region 9 with (first | (go_at_call 8; refine HN.out.mono ?_; rintro e w1 ⟨p, D, rfl, hD, hb, hmem, hS, hN, hW, -⟩; have HD := hid hD; have HB := hid hb; have HS := hid hS; have HNN := hid hN; have HW := hid hW; clear hD hb hmem hS hN hW) | (go_at_call 9; refine (HO.out _).mono ?_; rintro e w2 ⟨rfl, rfl⟩))
    have HZS : Hid (∀ w1, DkAt w1 p D → Calls Tryd.prog 10 #[pt p 0] w1 fun e w' => e = .returned (.int .i64 1048576) ∧ w' = w1) := fun w1 h => by have := size_any h; rw [HNN.out, z_len, hni] at this; exact this
    have HZP : Hid (∀ w1, DkAt w1 p D → Calls Tryd.prog 11 #[pt p 0] w1 fun e w' => e = .returned (.int .i64 0) ∧ w' = w1) := fun w1 h => by have := pending_any h; rw [HW.out] at this; exact this
    have HZI : Hid (∀ w1, DkAt w1 p D → Calls Tryd.prog 12 #[pt p 0] w1 fun e w' => ∃ a cap, e = .returned (.slice a n cap) ∧ BytesAt w' a (z n) ∧ n ≤ cap ∧ cap ≤ maxLen ∧ Below w1.heap.size w1 w') := fun w1 h => by
      refine (image_any h (by rw [HS.out, z_len]; omega)).mono ?_
      rintro e w' ⟨v, rfl, hO, hb⟩
      rw [HS.out] at hO
      obtain ⟨a, cap, rfl, hB, h1, h2, _⟩ := ownBy_shape hO
      rw [z_len] at h1
      exact ⟨a, cap, by rw [z_len], hB, h1, h2, hb⟩
    go_wp2_with (first | (go_at_call 10; refine (HZS.out _ HD.out).mono ?_; rintro e w3 ⟨rfl, rfl⟩) | (go_at_call 11; refine (HZP.out _ HD.out).mono ?_; rintro e w3 ⟨rfl, rfl⟩) | (go_at_call 12; refine (HZI.out _ HD.out).mono ?_; rintro e w3 ⟨a, cap, rfl, hB, hc1, hc2, hb3⟩; have HBY := hid hB; have HB3 := hid hb3; clear hB hb3))
    go_loopw [62] (fun i wr => ∃ k : Nat, k ≤ n ∧ i = .int .i64 k ∧ wr = w3) (fun i _ => n - (intOf i).toNat)
    case atStart => exact ⟨0, Nat.zero_le _, rfl, rfl⟩
    case round =>
      obtain ⟨k, hk, rfl, rfl⟩ := hrel
      by_cases hlt : k < n
      · obtain ⟨g, o, rfl, c1⟩ := HBY.out k (by rw [z_len]; exact hlt)
        have hki : (k : Int) < 1048576 := by omega
        rw [HZ.out] at c1
        have e0 : ub 0#8 = 0 := by decide
        rw [e0] at c1
        go_wp2
        go_roundw
        case rel => exact ⟨k + 1, hlt, by go_num, trivial⟩
        case measure => simp [intOf]; omega
      · have e : k = n := by omega
        subst e
        have HD4 := hid (HD.out.kept HB3.out)
        go_wp2_with (go_at_call 12; refine (HZI.out _ HD4.out).mono ?_; rintro e w4 ⟨a4, cap4, rfl, -, hc3, hc4, hb4⟩; have HB4 := hid hb4; clear hb4)
        go_ret
        exact ⟨rfl, below_two (below_two HB.out HB3.out (Nat.le_refl _)) HB4.out (Nat.le_refl _)⟩
theorem makes_law (w : World) (m : Int) : Calls Tryd.prog 3 #[.int .i64 m] w fun e w' => e = .returned (.bool true) ∧ Below w.heap.size w w' := by
  by_cases h : 1 ≤ m ∧ m ≤ 16777216
  · by_cases h2 : m ≤ 1048576
    · exact makes_at w m m.toNat (by omega) (by omega) (.inl (by omega))
    · exact makes_at w m 1048576 (by omega) (by omega) (.inr ⟨by omega, h.2, rfl⟩)
  · exact makes_no w m h
end Go.Proofs.YtfhjiggaacgncaaDoor
