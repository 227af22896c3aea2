import Derived.Test.YtkhogbnoincbeabSc0
namespace Go.Proofs.Ytkhogbnoincbeab
open Go.RowKit Go.Maps Go.Sort
set_option maxRecDepth 100000

/-- Reading a number: the error, the number, what is left. -/
def numD : Nat → Nat → Nat → List (BitVec 8) → Int × Nat × List (BitVec 8)
  | 0, _, _, l => (171, 0, l)
  | _ + 1, _, _, [] => (174, 0, [])
  | f + 1, i, acc, x :: l =>
    if 128 ≤ x.toNat then numD f (i + 1) (acc + x.toNat % 128 * 128 ^ i) l
    else if (x = 0#8 ∧ 0 < i) ∨ 4611686018427387904 < acc + x.toNat % 128 * 128 ^ i then (171, 0, l)
    else (0, acc + x.toNat % 128 * 128 ^ i, l)
theorem and_low (x : BitVec 8) : bits .and .u8 (ub x) 127 = ((x.toNat % 128 : Nat) : Int) := by
  show IntKind.u8.wrap ((BitVec.ofInt 8 (ub x) &&& BitVec.ofInt 8 127).toNat : Int) = _
  rw [ub_ofInt]
  have h : ∀ x : BitVec 8, (x &&& BitVec.ofInt 8 127).toNat = x.toNat % 128 := by decide
  rw [h, IntKind.wrap_u8']
  omega
theorem and_high (x : BitVec 8) : bits .and .u8 (ub x) 128 = if 128 ≤ x.toNat then 128 else 0 := by
  show IntKind.u8.wrap ((BitVec.ofInt 8 (ub x) &&& BitVec.ofInt 8 128).toNat : Int) = _
  rw [ub_ofInt]
  have h : ∀ x : BitVec 8, (x &&& BitVec.ofInt 8 128).toNat = if 128 ≤ x.toNat then 128 else 0 := by decide
  rw [h, IntKind.wrap_u8']
  split <;> rfl
theorem pow7 (i : Nat) : 2 ^ (7 * i) = 128 ^ i := by rw [Nat.pow_mul]
theorem or_num (acc i y : Nat) (hi : i < 9) (hacc : acc < 128 ^ i) (hy : y < 128) : bits .or .u64 (acc : Int) (IntKind.u64.wrap (IntKind.u64.wrap (y : Int) * 2 ^ (7 * i))) = ((acc + y * 128 ^ i : Nat) : Int) := by
  have hp : 128 ^ i ≤ 72057594037927936 := by
    have h1 : 128 ^ i ≤ 128 ^ 8 := Nat.pow_le_pow_right (by decide) (by omega)
    have h2 : 128 ^ 8 = 72057594037927936 := by decide
    omega
  have hm : y * 128 ^ i ≤ 127 * 72057594037927936 := Nat.mul_le_mul (by omega) hp
  have e1 : IntKind.u64.wrap (y : Int) = y := by rw [IntKind.wrap_u64]; omega
  have e2 : ((y : Int) * 2 ^ (7 * i)) = ((y * 128 ^ i : Nat) : Int) := by
    rw [← pow7]; push_cast; rfl
  have e3 : IntKind.u64.wrap ((y * 128 ^ i : Nat) : Int) = ((y * 128 ^ i : Nat) : Int) := by rw [IntKind.wrap_u64]; omega
  rw [e1, e2, e3]
  show IntKind.u64.wrap ((BitVec.ofInt 64 (acc : Int) ||| BitVec.ofInt 64 ((y * 128 ^ i : Nat) : Int)).toNat : Int) = _
  rw [BitVec.ofInt_natCast, BitVec.ofInt_natCast, BitVec.toNat_or, BitVec.toNat_ofNat, BitVec.toNat_ofNat, Nat.mod_eq_of_lt (by omega), Nat.mod_eq_of_lt (by omega)]
  have e4 : acc ||| y * 128 ^ i = acc + y * 128 ^ i := by
    rw [Nat.or_comm, ← pow7, Nat.mul_comm y, ← Nat.two_pow_add_eq_or_of_lt (by rw [pow7]; exact hacc), Nat.add_comm]
  rw [e4, IntKind.wrap_u64]
  omega
def NumAns (w : World) (p : Nat) (k s n c h : Int) (d : Value) (r : Int × Nat × List (BitVec 8)) (e : Ending) (w' : World) : Prop :=
  e = .returned (.tuple #[.int .u64 (r.2.1 : Int), .int .i64 r.1]) ∧ ∃ v', Sc w' p v' k s n c h d ∧ Lf w' p v' r.2.2 ∧ Fr (fun x => x = p) w w'
set_option maxHeartbeats 2000000 in
theorem number_any {w : World} {p : Nat} {v : Value} {k s n c h : Int} {d : Value} {l : List (BitVec 8)} (H : Sc w p v k s n c h d) (hl : Lf w p v l) :
    Calls Try.prog 53 #[.pointer (some ⟨p, 0, none⟩)] w (NumAns w p k s n c h d (numD 9 0 0 l)) := by
  have HS := hid H
  have HL := hid hl
  clear H hl
  go_enter Try.func53, Try.ntmps53
  go_wp2
  go_loopw [4, 8] (fun s4 s8 wr => ∃ (i acc : Nat) (m : List (BitVec 8)) (v' : Value), i ≤ 9 ∧ acc < 128 ^ i ∧ s4 = .int .u64 (acc : Int) ∧ s8 = .int .i64 (i : Int) ∧ Hid (Sc wr p v' k s n c h d) ∧ Hid (Lf wr p v' m) ∧ Hid (Fr (fun x => x = p) w wr) ∧ Hid (numD (9 - i) i acc m = numD 9 0 0 l)) (fun _ s _ => 9 - (intOf s).toNat)
  case atStart => exact ⟨0, 0, l, v, by omega, by simp, rfl, rfl, HS, HL, Fr.refl _ _, rfl⟩
  case round =>
    obtain ⟨i, acc, m, v', hi, hacc, rfl, rfl, HS1, HL1, HF1, HE1⟩ := hrel
    by_cases hlt : i < 9
    · have hi2 : (i : Int) < 9 := by omega
      cases m with
      | nil =>
        have HO := hid (one_no HS1.out HL1.out)
        have HE2 : Hid (numD 9 0 0 l = (174, 0, [])) := by
          show _ = _
          rw [← HE1.out, show 9 - i = (8 - i) + 1 by omega]
          rfl
        clear HE1
        go_wp2_with (go_at_call 54; refine HO.out.mono ?_; rintro e w' ⟨rfl, rfl⟩)
        go_ret2
        rw [HE2.out]
        exact ⟨rfl, v', HS1.out, HL1.out, HF1.out⟩
      | cons x m =>
        have HO := hid (one_yes HS1.out HL1.out)
        have hx := ub_bd x
        have hA := or_num acc i (x.toNat % 128) hlt hacc (by omega)
        rw [← and_low x] at hA
        have hac2 : acc + x.toNat % 128 * 128 ^ i < 128 ^ (i + 1) := by
          have h1 : x.toNat % 128 * 128 ^ i ≤ 127 * 128 ^ i := Nat.mul_le_mul (by omega) (Nat.le_refl _)
          rw [Nat.pow_succ]
          omega
        have HN : Hid (numD 9 0 0 l = if 128 ≤ x.toNat then numD (8 - i) (i + 1) (acc + x.toNat % 128 * 128 ^ i) m else if (x = 0#8 ∧ 0 < i) ∨ 4611686018427387904 < acc + x.toNat % 128 * 128 ^ i then (171, 0, m) else (0, acc + x.toNat % 128 * 128 ^ i, m)) := by
          show _ = _
          rw [← HE1.out, show 9 - i = (8 - i) + 1 by omega]
          rfl
        clear HE1
        have hH := and_high x
        by_cases hbig : 128 ≤ x.toNat
        · rw [if_pos hbig] at hH
          have HN2 : Hid (numD 9 0 0 l = numD (8 - i) (i + 1) (acc + x.toNat % 128 * 128 ^ i) m) := by show _ = _; rw [HN.out, if_pos hbig]
          generalize acc + x.toNat % 128 * 128 ^ i = acc2 at *
          have HA2 := hid hac2
          clear hac2 HN hbig
          go_wp2_with (go_at_call 54; refine HO.out.mono ?_; rintro e w5 ⟨rfl, v5, hs5, hl5, hf5⟩; have HS5 := hid hs5; have HL5 := hid hl5; have HF5 := hid hf5; clear hs5 hl5 hf5)
          go_roundw
          case rel => exact ⟨i + 1, acc2, m, v5, hlt, HA2.out, rfl, by go_num, HS5, HL5, HF1.out.trans HF5.out (fun x hx => .inl hx), by show _ = _; rw [HN2.out, show 9 - (i + 1) = 8 - i by omega]⟩
          case measure => simp [intOf]; omega
        · rw [if_neg hbig] at hH
          have hxu : (ub x == 0) = decide (x = 0#8) := by
            rw [Bool.eq_iff_iff]
            simp [ub]
            constructor
            · intro e; exact BitVec.eq_of_toNat_eq (by simpa using e)
            · rintro rfl; rfl
          by_cases hz0 : x = 0#8
          · have hz1 : (ub x == 0) = true := by rw [hxu]; simp [hz0]
            by_cases hi0 : 0 < i
            · have HN2 : Hid (numD 9 0 0 l = (171, 0, m)) := by show _ = _; rw [HN.out, if_neg hbig, if_pos (.inl ⟨hz0, hi0⟩)]
              clear HN
              generalize acc + x.toNat % 128 * 128 ^ i = acc2 at *
              have hz2 : (0 : Int) < (i : Int) := by omega
              clear hz0 hxu hbig hac2
              go_wp2_with (go_at_call 54; refine HO.out.mono ?_; rintro e w5 ⟨rfl, v5, hs5, hl5, hf5⟩; have HS5 := hid hs5; have HL5 := hid hl5; have HF5 := hid hf5; clear hs5 hl5 hf5)
              go_ret2
              rw [HN2.out]
              exact ⟨rfl, v5, HS5.out, HL5.out, HF1.out.trans HF5.out (fun x hx => .inl hx)⟩
            · have hlow : acc + x.toNat % 128 * 128 ^ i < 128 := by
                obtain rfl : i = 0 := by omega
                simpa using hac2
              have HN2 : Hid (numD 9 0 0 l = (0, acc + x.toNat % 128 * 128 ^ i, m)) := by show _ = _; rw [HN.out, if_neg hbig, if_neg (fun hh => by rcases hh with hh | hh; exact hi0 hh.2; omega)]
              clear HN
              generalize acc + x.toNat % 128 * 128 ^ i = acc2 at *
              have hz2 : ¬ (0 : Int) < (i : Int) := by omega
              have hz3 : ¬ (4611686018427387904 : Int) < (acc2 : Int) := by omega
              clear hz0 hxu hbig hac2 hlow
              go_wp2_with (go_at_call 54; refine HO.out.mono ?_; rintro e w5 ⟨rfl, v5, hs5, hl5, hf5⟩; have HS5 := hid hs5; have HL5 := hid hl5; have HF5 := hid hf5; clear hs5 hl5 hf5)
              go_ret2
              rw [HN2.out]
              exact ⟨rfl, v5, HS5.out, HL5.out, HF1.out.trans HF5.out (fun x hx => .inl hx)⟩
          · have hz1 : (ub x == 0) = false := by rw [hxu]; simp [hz0]
            by_cases hg : 4611686018427387904 < acc + x.toNat % 128 * 128 ^ i
            · have HN2 : Hid (numD 9 0 0 l = (171, 0, m)) := by show _ = _; rw [HN.out, if_neg hbig, if_pos (.inr hg)]
              clear HN
              generalize acc + x.toNat % 128 * 128 ^ i = acc2 at *
              have hz3 : (4611686018427387904 : Int) < (acc2 : Int) := by omega
              clear hz0 hxu hbig hac2 hg
              go_wp2_with (go_at_call 54; refine HO.out.mono ?_; rintro e w5 ⟨rfl, v5, hs5, hl5, hf5⟩; have HS5 := hid hs5; have HL5 := hid hl5; have HF5 := hid hf5; clear hs5 hl5 hf5)
              go_ret2
              rw [HN2.out]
              exact ⟨rfl, v5, HS5.out, HL5.out, HF1.out.trans HF5.out (fun x hx => .inl hx)⟩
            · have HN2 : Hid (numD 9 0 0 l = (0, acc + x.toNat % 128 * 128 ^ i, m)) := by show _ = _; rw [HN.out, if_neg hbig, if_neg (fun hh => by rcases hh with hh | hh; exact hz0 hh.1; exact hg hh)]
              clear HN
              generalize acc + x.toNat % 128 * 128 ^ i = acc2 at *
              have hz3 : ¬ (4611686018427387904 : Int) < (acc2 : Int) := by omega
              clear hz0 hxu hbig hac2 hg
              go_wp2_with (go_at_call 54; refine HO.out.mono ?_; rintro e w5 ⟨rfl, v5, hs5, hl5, hf5⟩; have HS5 := hid hs5; have HL5 := hid hl5; have HF5 := hid hf5; clear hs5 hl5 hf5)
              go_ret2
              rw [HN2.out]
              exact ⟨rfl, v5, HS5.out, HL5.out, HF1.out.trans HF5.out (fun x hx => .inl hx)⟩
    · obtain rfl : i = 9 := by omega
      have HN2 : Hid (numD 9 0 0 l = (171, 0, m)) := by show _ = _; rw [← HE1.out]; rfl
      go_wp2
      go_ret2
      rw [HN2.out]
      exact ⟨rfl, v', HS1.out, HL1.out, HF1.out⟩
end Go.Proofs.Ytkhogbnoincbeab
