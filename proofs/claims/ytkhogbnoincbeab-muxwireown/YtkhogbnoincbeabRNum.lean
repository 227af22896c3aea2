import Derived.Test.YtkhogbnoincbeabPu3
namespace Go.Proofs.Ytkhogbnoincbeab
open Go.RowKit Go.Maps Go.Sort
set_option maxRecDepth 100000

def RnAns (w : World) (L : Nat) (r : Int × Nat × List (BitVec 8)) (e : Ending) (w' : World) : Prop :=
  w' = w ∧ ∃ x : Int, e = .returned (.tuple #[.int .u64 (r.2.1 : Int), .int .i64 x, .int .i64 r.1]) ∧ (r.1 = 0 → x = (L : Int) - (r.2.2.length : Int))
set_option maxHeartbeats 2000000 in
theorem rnumber_any {w : World} {a : Option Addr} {l : List (BitVec 8)} {L cap A0 : Nat} (hB : BytesAt w a l) (hL : l.length = L) (hA : A0 ≤ L) (hm : L ≤ 140737488351232) :
    Calls Try.prog 56 #[.slice a L cap, .int .i64 (A0 : Int)] w (RnAns w L (numD 9 0 0 (l.drop A0))) := by
  have HB := hid hB
  have HL := hid hL
  have HM := hid hm
  clear hB hL hm
  go_enter Try.func56, Try.ntmps56
  go_wp2
  go_loop [1, 7, 8, 9] (fun s1 s7 s8 s9 => ∃ (i acc A : Nat), i ≤ 9 ∧ A ≤ L ∧ acc < 128 ^ i ∧ s1 = .int .i64 (A : Int) ∧ s7 = .int .u64 (acc : Int) ∧ s8 = .int .u64 ((128 ^ i : Nat) : Int) ∧ s9 = .int .i64 (i : Int) ∧ Hid (numD (9 - i) i acc (l.drop A) = numD 9 0 0 (l.drop A0))) (fun _ _ _ s => 9 - (intOf s).toNat)
  case atStart => exact ⟨0, 0, A0, by omega, hA, by simp, rfl, rfl, rfl, rfl, rfl⟩
  case round =>
    obtain ⟨i, acc, A, hi, hA2, hacc, rfl, rfl, rfl, rfl, HE⟩ := hrel
    by_cases hlt : i < 9
    · have hi2 : (i : Int) < 9 := by omega
      by_cases hAL : A < L
      · have hAL2 : (A : Int) < (L : Int) := by omega
        have hA0 : (0 : Int) ≤ (A : Int) := by omega
        have hAl : A < l.length := by rw [HL.out]; exact hAL
        obtain ⟨g, o, rfl, hc⟩ := HB.out A hAl
        have HE2 : Hid (numD 9 0 0 (l.drop A0) = numD ((8 - i) + 1) i acc (l[A] :: l.drop (A + 1))) := by
          show _ = _
          rw [← HE.out, List.drop_eq_getElem_cons hAl, show 9 - i = (8 - i) + 1 by omega]
        clear HE
        generalize l[A] = c at *
        have hcb := ub_bd c
        have hp : 128 ^ i ≤ 72057594037927936 := by
          have h1 : 128 ^ i ≤ 128 ^ 8 := Nat.pow_le_pow_right (by decide) (by omega)
          have h2 : 128 ^ 8 = 72057594037927936 := by decide
          omega
        have hym : c.toNat % 128 * 128 ^ i ≤ 127 * 128 ^ i := Nat.mul_le_mul (by omega) (Nat.le_refl _)
        have e0 : ub c % 128 = ((c.toNat % 128 : Nat) : Int) := by unfold ub; omega
        have h1 : IntKind.u64.wrap (ub c % 128 * ((128 ^ i : Nat) : Int)) = ((c.toNat % 128 * 128 ^ i : Nat) : Int) := by
          rw [e0, ← Int.natCast_mul, IntKind.wrap_u64]; omega
        have h2 : IntKind.u64.wrap ((acc : Int) + ((c.toNat % 128 * 128 ^ i : Nat) : Int)) = ((acc + c.toNat % 128 * 128 ^ i : Nat) : Int) := by
          rw [IntKind.wrap_u64]; omega
        have h3 : IntKind.u64.wrap (((128 ^ i : Nat) : Int) * 128) = ((128 ^ (i + 1) : Nat) : Int) := by
          rw [Nat.pow_succ, IntKind.wrap_u64]; omega
        have hac2 : acc + c.toNat % 128 * 128 ^ i < 128 ^ (i + 1) := by rw [Nat.pow_succ]; omega
        have hAb : (A : Int) ≤ 140737488351231 := by have := HM.out; omega
        have HN : Hid (numD 9 0 0 (l.drop A0) = if 128 ≤ c.toNat then numD (8 - i) (i + 1) (acc + c.toNat % 128 * 128 ^ i) (l.drop (A + 1)) else if (c = 0#8 ∧ 0 < i) ∨ 4611686018427387904 < acc + c.toNat % 128 * 128 ^ i then (171, 0, l.drop (A + 1)) else (0, acc + c.toNat % 128 * 128 ^ i, l.drop (A + 1))) := HE2.out
        have hxu : (ub c == 0) = decide (c = 0#8) := by
          rw [Bool.eq_iff_iff]
          simp [ub]
          constructor
          · intro e; exact BitVec.eq_of_toNat_eq (by simpa using e)
          · rintro rfl; rfl
        have hlow : acc + c.toNat % 128 * 128 ^ i < 128 ∨ 0 < i := by
          by_cases h0 : 0 < i
          · exact .inr h0
          · obtain rfl : i = 0 := by omega
            simp at hac2
            exact .inl (by simpa using hac2)
        clear HE2 e0 hp hym
        generalize acc + c.toNat % 128 * 128 ^ i = acc2 at *
        generalize ((c.toNat % 128 * 128 ^ i : Nat) : Int) = Y at *
        have HS2 := hid h3
        obtain ⟨SC, hSC⟩ : ∃ SC : Int, ((128 ^ i : Nat) : Int) = SC := ⟨_, rfl⟩
        obtain ⟨SC2, hSC2⟩ : ∃ SC : Int, ((128 ^ (i + 1) : Nat) : Int) = SC := ⟨_, rfl⟩
        rw [hSC] at h1 h3 ⊢
        rw [hSC2] at h3
        have HC2 := hid hSC2
        have HA2 := hid hac2
        clear hSC hSC2 hac2 HS2
        by_cases hbig : 128 ≤ c.toNat
        · have HN2 : Hid (numD 9 0 0 (l.drop A0) = numD (8 - i) (i + 1) acc2 (l.drop (A + 1))) := by show _ = _; rw [HN.out, if_pos hbig]
          have hb1 : ¬ ub c < 128 := by unfold ub; omega
          clear HN hxu hlow
          go_wp2_with fail
          go_round
          case rel => exact ⟨i + 1, acc2, A + 1, hlt, hAL, HA2.out, by go_num, rfl, by rw [HC2.out], by go_num, by show _ = _; rw [HN2.out, show 9 - (i + 1) = 8 - i by omega]⟩
          case measure => simp [intOf]; omega
        · have hb1 : ub c < 128 := by unfold ub; omega
          have hdl : (((l.drop (A + 1)).length : Nat) : Int) = (L : Int) - ((A : Int) + 1) := by rw [List.length_drop, HL.out]; omega
          have HDL := hid hdl
          clear hdl
          by_cases hz0 : c = 0#8
          · have hz1 : (ub c == 0) = true := by rw [hxu]; simp [hz0]
            by_cases hi0 : 0 < i
            · have HN2 : Hid (numD 9 0 0 (l.drop A0) = (171, 0, l.drop (A + 1))) := by show _ = _; rw [HN.out, if_neg hbig, if_pos (.inl ⟨hz0, hi0⟩)]
              have hz2 : (0 : Int) < (i : Int) := by omega
              clear HN hxu hlow hz0 hbig
              go_wp2_with fail
              go_ret3
              rw [HN2.out]
              exact ⟨rfl, _, rfl, fun h => absurd h (by simp)⟩
            · have HN2 : Hid (numD 9 0 0 (l.drop A0) = (0, acc2, l.drop (A + 1))) := by show _ = _; rw [HN.out, if_neg hbig, if_neg (fun hh => by rcases hh with hh | hh; exact hi0 hh.2; omega)]
              have hz2 : ¬ (0 : Int) < (i : Int) := by omega
              have hz3 : ¬ (4611686018427387904 : Int) < (acc2 : Int) := by omega
              clear HN hxu hlow hz0 hbig
              go_wp2_with fail
              go_ret3
              rw [HN2.out]
              exact ⟨rfl, _, rfl, fun _ => by rw [HDL.out]; omega⟩
          · have hz1 : (ub c == 0) = false := by rw [hxu]; simp [hz0]
            by_cases hg : 4611686018427387904 < acc2
            · have HN2 : Hid (numD 9 0 0 (l.drop A0) = (171, 0, l.drop (A + 1))) := by show _ = _; rw [HN.out, if_neg hbig, if_pos (.inr hg)]
              have hz3 : (4611686018427387904 : Int) < (acc2 : Int) := by omega
              clear HN hxu hlow hz0 hbig hg
              go_wp2_with fail
              all_goals
                go_ret3
                rw [HN2.out]
                exact ⟨rfl, _, rfl, fun h => absurd h (by simp)⟩
            · have HN2 : Hid (numD 9 0 0 (l.drop A0) = (0, acc2, l.drop (A + 1))) := by show _ = _; rw [HN.out, if_neg hbig, if_neg (fun hh => by rcases hh with hh | hh; exact hz0 hh.1; exact hg hh)]
              have hz3 : ¬ (4611686018427387904 : Int) < (acc2 : Int) := by omega
              clear HN hxu hlow hz0 hbig hg
              go_wp2_with fail
              all_goals
                go_ret3
                rw [HN2.out]
                exact ⟨rfl, _, rfl, fun _ => by rw [HDL.out]; omega⟩
      · have hAL2 : ¬ (A : Int) < (L : Int) := by omega
        have hAL3 : (L : Int) ≤ (A : Int) := by omega
        have HN2 : Hid (numD 9 0 0 (l.drop A0) = (174, 0, [])) := by
          show _ = _
          rw [← HE.out, List.drop_eq_nil_of_le (by rw [HL.out]; omega), show 9 - i = (8 - i) + 1 by omega]
          rfl
        clear HE
        go_wp2_with fail
        go_ret3
        rw [HN2.out]
        exact ⟨rfl, _, rfl, fun h => absurd h (by simp)⟩
    · obtain rfl : i = 9 := by omega
      have HN2 : Hid (numD 9 0 0 (l.drop A0) = (171, 0, l.drop A)) := by show _ = _; rw [← HE.out]; rfl
      clear HE
      go_wp2_with fail
      go_ret3
      rw [HN2.out]
      exact ⟨rfl, _, rfl, fun h => absurd h (by simp)⟩
end Go.Proofs.Ytkhogbnoincbeab
