import Derived.Test.YtjhkoanjocdboaaDoorKnown
namespace Go.Proofs.YtjhkoanjocdboaaDoor
open Go.RowKit

theorem tab_xor : ∀ i j : Fin 16, crcT.getD (i.val ^^^ j.val) 0 = crcT.getD i.val 0 ^^^ crcT.getD j.val 0 := by decide +kernel
theorem low4_xor (x y : BitVec 32) : low4 (x ^^^ y) = low4 x ^^^ low4 y := by
  unfold low4
  rw [BitVec.toNat_and, BitVec.toNat_and, BitVec.toNat_and, BitVec.toNat_xor, Nat.and_xor_distrib_right]
theorem step4_getD (r : BitVec 32) : step4 r = r >>> 4 ^^^ crcT.getD (low4 r) 0 := by
  have h : low4 r < crcT.length := low4_lt r
  have e : crcT.getD (low4 r) 0 = crcT[low4 r]'h := by
    rw [List.getD_eq_getElem?_getD, List.getElem?_eq_getElem h, Option.getD_some]
  rw [e]; rfl
theorem step4_xor (x y : BitVec 32) : step4 (x ^^^ y) = step4 x ^^^ step4 y := by
  have t : crcT.getD (low4 x ^^^ low4 y) 0 = crcT.getD (low4 x) 0 ^^^ crcT.getD (low4 y) 0 := tab_xor ⟨low4 x, low4_lt x⟩ ⟨low4 y, low4_lt y⟩
  rw [step4_getD, step4_getD, step4_getD, low4_xor, t, BitVec.ushiftRight_xor_distrib]
  generalize x >>> 4 = p
  generalize y >>> 4 = q
  generalize crcT.getD (low4 x) 0 = s
  generalize crcT.getD (low4 y) 0 = t
  ac_rfl
theorem stepB_xor (r s : BitVec 32) (a b : BitVec 8) : stepB (r ^^^ s) (a ^^^ b) = stepB r a ^^^ stepB s b := by
  unfold stepB
  rw [BitVec.setWidth_xor, show r ^^^ s ^^^ (a.setWidth 32 ^^^ b.setWidth 32) = (r ^^^ a.setWidth 32) ^^^ (s ^^^ b.setWidth 32) by ac_rfl, step4_xor, step4_xor]

/-- One step of the register, no bit coming in. -/
def S1 (r : BitVec 32) : BitVec 32 := r >>> 1 ^^^ (if r.getLsbD 0 then 3988292384#32 else 0#32)
def Sn : Nat → BitVec 32 → BitVec 32
  | 0, r => r
  | n + 1, r => Sn n (S1 r)
theorem S1_xor (x y : BitVec 32) : S1 (x ^^^ y) = S1 x ^^^ S1 y := by
  unfold S1
  rw [BitVec.ushiftRight_xor_distrib, BitVec.getLsbD_xor]
  generalize x >>> 1 = p
  generalize y >>> 1 = q
  cases x.getLsbD 0 <;> cases y.getLsbD 0
  · simp
  · simp only [Bool.false_xor, Bool.false_eq_true, if_true, if_false]; rw [BitVec.xor_zero]; ac_rfl
  · simp only [Bool.true_xor, Bool.not_false, Bool.false_eq_true, if_true, if_false]; rw [BitVec.xor_zero]; ac_rfl
  · simp only [Bool.true_xor, Bool.not_true, Bool.false_eq_true, if_true, if_false]
    have z : (3988292384#32 : BitVec 32) ^^^ 3988292384#32 = 0#32 := by decide
    rw [show p ^^^ 3988292384#32 ^^^ (q ^^^ 3988292384#32) = (p ^^^ q) ^^^ (3988292384#32 ^^^ 3988292384#32) by ac_rfl, z]
theorem Sn_xor : ∀ (n : Nat) (x y : BitVec 32), Sn n (x ^^^ y) = Sn n x ^^^ Sn n y
  | 0, _, _ => rfl
  | n + 1, x, y => by show Sn n (S1 (x ^^^ y)) = _; rw [S1_xor]; exact Sn_xor n _ _
theorem Sn_add : ∀ (m n : Nat) (x : BitVec 32), Sn (m + n) x = Sn n (Sn m x)
  | 0, n, x => by rw [Nat.zero_add]; rfl
  | m + 1, n, x => by rw [show m + 1 + n = (m + n) + 1 by omega]; exact Sn_add m n (S1 x)
theorem S1_zero : S1 0#32 = 0#32 := by decide
theorem S1_inj (r : BitVec 32) (h : S1 r = 0#32) : r = 0#32 := by
  unfold S1 at h
  cases hb : r.getLsbD 0 with
  | false =>
    rw [hb] at h
    simp only [Bool.false_eq_true, if_false, BitVec.xor_zero] at h
    have h1 : r.toNat / 2 = 0 := by
      have := congrArg BitVec.toNat h
      rw [BitVec.toNat_ushiftRight, Nat.shiftRight_eq_div_pow] at this
      simpa using this
    have h2 : r.toNat % 2 = 0 := by
      rw [BitVec.getLsbD, Nat.testBit_zero] at hb
      simpa using hb
    exact BitVec.eq_of_toNat_eq (by simp; omega)
  | true =>
    rw [hb, if_pos rfl] at h
    have h0 : r >>> 1 = 3988292384#32 := by
      have := congrArg (· ^^^ 3988292384#32) h
      simp only [BitVec.xor_assoc, BitVec.xor_self, BitVec.xor_zero, BitVec.zero_xor] at this
      exact this
    have h1 := congrArg BitVec.toNat h0
    rw [BitVec.toNat_ushiftRight, Nat.shiftRight_eq_div_pow] at h1
    have := r.isLt
    simp at h1
    omega
theorem Sn_inj : ∀ (n : Nat) (r : BitVec 32), Sn n r = 0#32 → r = 0#32
  | 0, _, h => h
  | n + 1, r, h => S1_inj r (Sn_inj n (S1 r) h)
theorem Sn_zero : ∀ n, Sn n 0#32 = 0#32
  | 0 => rfl
  | n + 1 => by show Sn n (S1 0#32) = _; rw [S1_zero]; exact Sn_zero n
/-- A bit falls to the lowest place, step by step. -/
theorem Sn_pow : ∀ j : Fin 32, Sn j.val (1#32 <<< j.val) = 1#32 := by decide +kernel
theorem lin_upto {f g : BitVec 32 → BitVec 32} (hf : ∀ x y, f (x ^^^ y) = f x ^^^ f y) (hg : ∀ x y, g (x ^^^ y) = g x ^^^ g y) (h0 : f 0#32 = g 0#32) (hb : ∀ j : Fin 32, f (1#32 <<< j.val) = g (1#32 <<< j.val)) :
    ∀ k, k ≤ 32 → ∀ r : BitVec 32, r.toNat < 2 ^ k → f r = g r
  | 0, _, r, h => by
    have : r = 0#32 := BitVec.eq_of_toNat_eq (by simp at h ⊢; omega)
    rw [this]; exact h0
  | k + 1, hk, r, h => by
    cases hbit : r.toNat.testBit k with
    | false =>
      refine lin_upto hf hg h0 hb k (by omega) r ?_
      refine Nat.lt_pow_two_of_testBit _ fun i hi => ?_
      by_cases e : i = k
      · subst e; exact hbit
      · exact Nat.testBit_lt_two_pow (Nat.lt_of_lt_of_le h (Nat.pow_le_pow_right (by decide) (by omega)))
    | true =>
      have hp : (1#32 <<< k).toNat = 2 ^ k := by
        rw [BitVec.toNat_shiftLeft, Nat.shiftLeft_eq]
        have : 2 ^ k < 2 ^ 32 := Nat.pow_lt_pow_right (by decide) (by omega)
        simp only [BitVec.toNat_ofNat, Nat.reducePow, Nat.reduceMod, Nat.one_mul] at this ⊢
        exact Nat.mod_eq_of_lt this
      have hlt : (r ^^^ 1#32 <<< k).toNat < 2 ^ k := by
        rw [BitVec.toNat_xor, hp]
        refine Nat.lt_pow_two_of_testBit _ fun i hi => ?_
        rw [Nat.testBit_xor, Nat.testBit_two_pow]
        by_cases e : k = i
        · subst e; simp [hbit]
        · rw [Nat.testBit_lt_two_pow (Nat.lt_of_lt_of_le h (Nat.pow_le_pow_right (by decide) (by omega)))]
          simp [e]
      have ih := lin_upto hf hg h0 hb k (by omega) _ hlt
      have e : r = (r ^^^ 1#32 <<< k) ^^^ 1#32 <<< k := by rw [BitVec.xor_assoc, BitVec.xor_self, BitVec.xor_zero]
      rw [e, hf, hg, ih, hb ⟨k, by omega⟩]
theorem S4_bits : ∀ j : Fin 32, Sn 4 (1#32 <<< j.val) = step4 (1#32 <<< j.val) := by decide +kernel
theorem S4 (r : BitVec 32) : step4 r = Sn 4 r :=
  (lin_upto (f := Sn 4) (g := step4) (Sn_xor 4) step4_xor (by decide +kernel) S4_bits 32 (Nat.le_refl _) r r.isLt).symm
theorem stepB_eq (r : BitVec 32) (b : BitVec 8) : stepB r b = Sn 8 (r ^^^ b.setWidth 32) := by
  unfold stepB; rw [S4, S4]; rfl
theorem reg_lin : ∀ (Q : List (BitVec 8)) (x y : BitVec 32), reg (x ^^^ y) Q = reg x Q ^^^ Sn (8 * Q.length) y
  | [], _, _ => rfl
  | b :: Q, x, y => by
    show reg (stepB (x ^^^ y) b) Q = reg (stepB x b) Q ^^^ _
    have e : stepB (x ^^^ y) b = stepB x b ^^^ Sn 8 y := by
      rw [stepB_eq, stepB_eq, show x ^^^ y ^^^ b.setWidth 32 = (x ^^^ b.setWidth 32) ^^^ y by ac_rfl, Sn_xor]
    rw [e, reg_lin Q, List.length_cons, show 8 * (Q.length + 1) = 8 + 8 * Q.length by omega, Sn_add]
/-- A byte of a text turned: what becomes of its short sum. -/
theorem crc_flip (O : List (BitVec 8)) (q : Nat) (hq : q < O.length) (x : BitVec 8) : crc (O.set q (O[q] ^^^ x)) = crc O ^^^ Sn (8 * (O.length - q)) (x.setWidth 32) := by
  have e1 : O = O.take q ++ O[q] :: O.drop (q + 1) := by rw [← List.drop_eq_getElem_cons hq, List.take_append_drop]
  have e2 : O.set q (O[q] ^^^ x) = O.take q ++ (O[q] ^^^ x) :: O.drop (q + 1) := List.set_eq_take_append_cons_drop ▸ by rw [if_pos hq]
  have hl : (O.drop (q + 1)).length = O.length - q - 1 := by simp; omega
  have e3 : reg (~~~0#32) O = reg (reg (~~~0#32) (O.take q)) (O[q] :: O.drop (q + 1)) := by rw [← reg_append, ← e1]
  unfold crc more
  rw [e2, e3, reg_append]
  generalize reg (~~~0#32) (O.take q) = r
  show ~~~(reg (stepB r (O[q] ^^^ x)) (O.drop (q + 1))) = ~~~(reg (stepB r O[q]) (O.drop (q + 1))) ^^^ _
  have e : stepB r (O[q] ^^^ x) = stepB r O[q] ^^^ Sn 8 (x.setWidth 32) := by
    rw [stepB_eq, stepB_eq, BitVec.setWidth_xor, show r ^^^ (O[q].setWidth 32 ^^^ x.setWidth 32) = (r ^^^ O[q].setWidth 32) ^^^ x.setWidth 32 by ac_rfl, Sn_xor]
  rw [e, reg_lin, hl, ← Sn_add, show 8 + 8 * (O.length - q - 1) = 8 * (O.length - q) by omega]
  generalize reg (stepB r O[q]) (O.drop (q + 1)) = u
  generalize Sn (8 * (O.length - q)) (x.setWidth 32) = v
  rw [← BitVec.allOnes_xor, ← BitVec.allOnes_xor]
  ac_rfl
/-- The bit t of the byte q, by where it stands in the window that begins at A. -/
theorem Sn_place (n A q t j : Nat) (h : A + j = 8 * q + t) (ht : t < 8) (hj : j < 32) (hq : q < n) : Sn (8 * (n - q)) ((1#8 <<< t).setWidth 32) = Sn (8 * n - A) (1#32 <<< j) := by
  have w : (1#8 <<< t).setWidth 32 = 1#32 <<< t := by
    have : ∀ t : Fin 8, (1#8 <<< t.val).setWidth 32 = 1#32 <<< t.val := by decide
    exact this ⟨t, ht⟩
  rw [w, show 8 * (n - q) = t + (8 * (n - q) - t) by omega, Sn_add, Sn_pow ⟨t, by omega⟩, show 8 * n - A = j + (8 * n - A - j) by omega, Sn_add, Sn_pow ⟨j, hj⟩, show 8 * (n - q) - t = 8 * n - A - j by omega]
end Go.Proofs.YtjhkoanjocdboaaDoor
