import Derived.Test.YtgkfnbbgohdalaaDoorCuts0
namespace Go.Proofs.YtgkfnbbgohdalaaDoor
open Go.RowKit

theorem tab_xor : ∀ i j : Fin 16, crcT.getD (i.val ^^^ j.val) 0 = crcT.getD i.val 0 ^^^ crcT.getD j.val 0 := by decide +kernel
theorem low4_xor (x y : BitVec 32) : low4 (x ^^^ y) = low4 x ^^^ low4 y := by
  unfold low4
  rw [BitVec.toNat_and, BitVec.toNat_and, BitVec.toNat_and, BitVec.toNat_xor, Nat.and_xor_distrib_right]
theorem step4_getD (r : BitVec 32) : step4 r = r >>> 4 ^^^ crcT.getD (low4 r) 0 := by
  have h : low4 r < crcT.length := low4_lt r
  have e : crcT.getD (low4 r) 0 = crcT[low4 r]'h := by
    rw [List.getD_eq_getElem?_getD, List.getElem?_eq_getElem h, Option.getD_some]
  rw [e]; rfl
theorem step4_xor (x y : BitVec 32) : step4 (x ^^^ y) = step4 x ^^^ step4 y := by
  have t : crcT.getD (low4 x ^^^ low4 y) 0 = crcT.getD (low4 x) 0 ^^^ crcT.getD (low4 y) 0 := tab_xor ⟨low4 x, low4_lt x⟩ ⟨low4 y, low4_lt y⟩
  rw [step4_getD, step4_getD, step4_getD, low4_xor, t, BitVec.ushiftRight_xor_distrib]
  generalize x >>> 4 = p
  generalize y >>> 4 = q
  generalize crcT.getD (low4 x) 0 = s
  generalize crcT.getD (low4 y) 0 = t
  ac_rfl
theorem stepB_xor (r s : BitVec 32) (a b : BitVec 8) : stepB (r ^^^ s) (a ^^^ b) = stepB r a ^^^ stepB s b := by
  unfold stepB
  rw [BitVec.setWidth_xor, show r ^^^ s ^^^ (a.setWidth 32 ^^^ b.setWidth 32) = (r ^^^ a.setWidth 32) ^^^ (s ^^^ b.setWidth 32) by ac_rfl, step4_xor, step4_xor]

/-- One step of the register, no bit coming in. -/
def S1 (r : BitVec 32) : BitVec 32 := r >>> 1 ^^^ (if r.getLsbD 0 then 3988292384#32 else 0#32)
def Sn : Nat → BitVec 32 → BitVec 32
  | 0, r => r
  | n + 1, r => Sn n (S1 r)
theorem S1_xor (x y : BitVec 32) : S1 (x ^^^ y) = S1 x ^^^ S1 y := by
  unfold S1
  rw [BitVec.ushiftRight_xor_distrib, BitVec.getLsbD_xor]
  generalize x >>> 1 = p
  generalize y >>> 1 = q
  cases x.getLsbD 0 <;> cases y.getLsbD 0
  · simp
  · simp only [Bool.false_xor, Bool.false_eq_true, if_true, if_false]; rw [BitVec.xor_zero]; ac_rfl
  · simp only [Bool.true_xor, Bool.not_false, Bool.false_eq_true, if_true, if_false]; rw [BitVec.xor_zero]; ac_rfl
  · simp only [Bool.true_xor, Bool.not_true, Bool.false_eq_true, if_true, if_false]
    have z : (3988292384#32 : BitVec 32) ^^^ 3988292384#32 = 0#32 := by decide
    rw [show p ^^^ 3988292384#32 ^^^ (q ^^^ 3988292384#32) = (p ^^^ q) ^^^ (3988292384#32 ^^^ 3988292384#32) by ac_rfl, z]
theorem Sn_xor : ∀ (n : Nat) (x y : BitVec 32), Sn n (x ^^^ y) = Sn n x ^^^ Sn n y
  | 0, _, _ => rfl
  | n + 1, x, y => by show Sn n (S1 (x ^^^ y)) = _; rw [S1_xor]; exact Sn_xor n _ _
theorem Sn_add : ∀ (m n : Nat) (x : BitVec 32), Sn (m + n) x = Sn n (Sn m x)
  | 0, n, x => by rw [Nat.zero_add]; rfl
  | m + 1, n, x => by rw [show m + 1 + n = (m + n) + 1 by omega]; exact Sn_add m n (S1 x)
theorem S1_zero : S1 0#32 = 0#32 := by decide
theorem S1_inj (r : BitVec 32) (h : S1 r = 0#32) : r = 0#32 := by
  unfold S1 at h
  cases hb : r.getLsbD 0 with
  | false =>
    rw [hb] at h
    simp only [Bool.false_eq_true, if_false, BitVec.xor_zero] at h
    have h1 : r.toNat / 2 = 0 := by
      have := congrArg BitVec.toNat h
      rw [BitVec.toNat_ushiftRight, Nat.shiftRight_eq_div_pow] at this
      simpa using this
    have h2 : r.toNat % 2 = 0 := by
      rw [BitVec.getLsbD, Nat.testBit_zero] at hb
      simpa using hb
    exact BitVec.eq_of_toNat_eq (by simp; omega)
  | true =>
    rw [hb, if_pos rfl] at h
    have h0 : r >>> 1 = 3988292384#32 := by
      have := congrArg (· ^^^ 3988292384#32) h
      simp only [BitVec.xor_assoc, BitVec.xor_self, BitVec.xor_zero, BitVec.zero_xor] at this
      exact this
    have h1 := congrArg BitVec.toNat h0
    rw [BitVec.toNat_ushiftRight, Nat.shiftRight_eq_div_pow] at h1
    have := r.isLt
    simp at h1
    omega
theorem Sn_inj : ∀ (n : Nat) (r : BitVec 32), Sn n r = 0#32 → r = 0#32
  | 0, _, h => h
  | n + 1, r, h => S1_inj r (Sn_inj n (S1 r) h)
theorem Sn_zero : ∀ n, Sn n 0#32 = 0#32
  | 0 => rfl
  | n + 1 => by show Sn n (S1 0#32) = _; rw [S1_zero]; exact Sn_zero n
/-- A bit falls to the lowest place, step by step. -/
theorem Sn_pow : ∀ j : Fin 32, Sn j.val (1#32 <<< j.val) = 1#32 := by decide +kernel
theorem lin_upto {f g : BitVec 32 → BitVec 32} (hf : ∀ x y, f (x ^^^ y) = f x ^^^ f y) (hg : ∀ x y, g (x ^^^ y) = g x ^^^ g y) (h0 : f 0#32 = g 0#32) (hb : ∀ j : Fin 32, f (1#32 <<< j.val) = g (1#32 <<< j.val)) :
    ∀ k, k ≤ 32 → ∀ r : BitVec 32, r.toNat < 2 ^ k → f r = g r
  | 0, _, r, h => by
    have : r = 0#32 := BitVec.eq_of_toNat_eq (by simp at h ⊢; omega)
    rw [this]; exact h0
  | k + 1, hk, r, h => by
    cases hbit : r.toNat.testBit k with
    | false =>
      refine lin_upto hf hg h0 hb k (by omega) r ?_
      refine Nat.lt_pow_two_of_testBit _ fun i hi => ?_
      by_cases e : i = k
      · subst e; exact hbit
      · exact Nat.testBit_lt_two_pow (Nat.lt_of_lt_of_le h (Nat.pow_le_pow_right (by decide) (by omega)))
    | true =>
      have hp : (1#32 <<< k).toNat = 2 ^ k := by
        rw [BitVec.toNat_shiftLeft, Nat.shiftLeft_eq]
        have : 2 ^ k < 2 ^ 32 := Nat.pow_lt_pow_right (by decide) (by omega)
        simp only [BitVec.toNat_ofNat, Nat.reducePow, Nat.reduceMod, Nat.one_mul] at this ⊢
        exact Nat.mod_eq_of_lt this
      have hlt : (r ^^^ 1#32 <<< k).toNat < 2 ^ k := by
        rw [BitVec.toNat_xor, hp]
        refine Nat.lt_pow_two_of_testBit _ fun i hi => ?_
        rw [Nat.testBit_xor, Nat.testBit_two_pow]
        by_cases e : k = i
        · subst e; simp [hbit]
        · rw [Nat.testBit_lt_two_pow (Nat.lt_of_lt_of_le h (Nat.pow_le_pow_right (by decide) (by omega)))]
          simp [e]
      have ih := lin_upto hf hg h0 hb k (by omega) _ hlt
      have e : r = (r ^^^ 1#32 <<< k) ^^^ 1#32 <<< k := by rw [BitVec.xor_assoc, BitVec.xor_self, BitVec.xor_zero]
      rw [e, hf, hg, ih, hb ⟨k, by omega⟩]
theorem S4_bits : ∀ j : Fin 32, Sn 4 (1#32 <<< j.val) = step4 (1#32 <<< j.val) := by decide +kernel
theorem S4 (r : BitVec 32) : step4 r = Sn 4 r :=
  (lin_upto (f := Sn 4) (g := step4) (Sn_xor 4) step4_xor (by decide +kernel) S4_bits 32 (Nat.le_refl _) r r.isLt).symm
theorem stepB_eq (r : BitVec 32) (b : BitVec 8) : stepB r b = Sn 8 (r ^^^ b.setWidth 32) := by
  unfold stepB; rw [S4, S4]; rfl
theorem reg_lin : ∀ (Q : List (BitVec 8)) (x y : BitVec 32), reg (x ^^^ y) Q = reg x Q ^^^ Sn (8 * Q.length) y
  | [], _, _ => rfl
  | b :: Q, x, y => by
    show reg (stepB (x ^^^ y) b) Q = reg (stepB x b) Q ^^^ _
    have e : stepB (x ^^^ y) b = stepB x b ^^^ Sn 8 y := by
      rw [stepB_eq, stepB_eq, show x ^^^ y ^^^ b.setWidth 32 = (x ^^^ b.setWidth 32) ^^^ y by ac_rfl, Sn_xor]
    rw [e, reg_lin Q, List.length_cons, show 8 * (Q.length + 1) = 8 + 8 * Q.length by omega, Sn_add]
/-- A byte of a text turned: what becomes of its short sum. -/
theorem crc_flip (O : List (BitVec 8)) (q : Nat) (hq : q < O.length) (x : BitVec 8) : crc (O.set q (O[q] ^^^ x)) = crc O ^^^ Sn (8 * (O.length - q)) (x.setWidth 32) := by
  have e1 : O = O.take q ++ O[q] :: O.drop (q + 1) := by rw [← List.drop_eq_getElem_cons hq, List.take_append_drop]
  have e2 : O.set q (O[q] ^^^ x) = O.take q ++ (O[q] ^^^ x) :: O.drop (q + 1) := List.set_eq_take_append_cons_drop ▸ by rw [if_pos hq]
  have hl : (O.drop (q + 1)).length = O.length - q - 1 := by simp; omega
  have e3 : reg (~~~0#32) O = reg (reg (~~~0#32) (O.take q)) (O[q] :: O.drop (q + 1)) := by rw [← reg_append, ← e1]
  unfold crc more
  rw [e2, e3, reg_append]
  generalize reg (~~~0#32) (O.take q) = r
  show ~~~(reg (stepB r (O[q] ^^^ x)) (O.drop (q + 1))) = ~~~(reg (stepB r O[q]) (O.drop (q + 1))) ^^^ _
  have e : stepB r (O[q] ^^^ x) = stepB r O[q] ^^^ Sn 8 (x.setWidth 32) := by
    rw [stepB_eq, stepB_eq, BitVec.setWidth_xor, show r ^^^ (O[q].setWidth 32 ^^^ x.setWidth 32) = (r ^^^ O[q].setWidth 32) ^^^ x.setWidth 32 by ac_rfl, Sn_xor]
  rw [e, reg_lin, hl, ← Sn_add, show 8 + 8 * (O.length - q - 1) = 8 * (O.length - q) by omega]
  generalize reg (stepB r O[q]) (O.drop (q + 1)) = u
  generalize Sn (8 * (O.length - q)) (x.setWidth 32) = v
  rw [← BitVec.allOnes_xor, ← BitVec.allOnes_xor]
  ac_rfl
/-- The bit t of the byte q, by where it stands in the window that begins at A. -/
theorem Sn_place (n A q t j : Nat) (h : A + j = 8 * q + t) (ht : t < 8) (hj : j < 32) (hq : q < n) : Sn (8 * (n - q)) ((1#8 <<< t).setWidth 32) = Sn (8 * n - A) (1#32 <<< j) := by
  have w : (1#8 <<< t).setWidth 32 = 1#32 <<< t := by
    have : ∀ t : Fin 8, (1#8 <<< t.val).setWidth 32 = 1#32 <<< t.val := by decide
    exact this ⟨t, ht⟩
  rw [w, show 8 * (n - q) = t + (8 * (n - q) - t) by omega, Sn_add, Sn_pow ⟨t, by omega⟩, show 8 * n - A = j + (8 * n - A - j) by omega, Sn_add, Sn_pow ⟨j, hj⟩, show 8 * (n - q) - t = 8 * n - A - j by omega]
@[go_sem] theorem ub_xor (x y : BitVec 8) : bits .xor .u8 (ub x) (ub y) = ub (x ^^^ y) := by
  show IntKind.u8.wrap ((BitVec.ofInt 8 (ub x) ^^^ BitVec.ofInt 8 (ub y)).toNat : Int) = _
  rw [ub_ofInt, ub_ofInt]; exact ub_wrap_ub _

theorem u_and1 (x : BitVec 32) : bits .and .u32 (u x) 1 = u (x &&& 1#32) := by
  have e : (1 : Int) = u 1#32 := by decide
  rw [e, u_and]
theorem low_bit (x : BitVec 32) : x &&& 1#32 = 1#32 ∨ x &&& 1#32 = 0#32 := by
  have h : (x &&& 1#32).toNat < 2 := by
    rw [BitVec.toNat_and]
    exact Nat.and_lt_two_pow (n := 1) _ (by decide)
  rcases Nat.lt_or_ge (x &&& 1#32).toNat 1 with h1 | h1
  · right; exact BitVec.eq_of_toNat_eq (by simp at h1 ⊢; omega)
  · left; exact BitVec.eq_of_toNat_eq (by simp at h h1 ⊢; omega)
theorem shl_one (t : Nat) (ht : t < 8) : (2 : Int) ^ t = ub (1#8 <<< t) := by
  have : ∀ t : Fin 8, (2 : Int) ^ t.val = ub (1#8 <<< t.val) := by decide
  exact this ⟨t, ht⟩
theorem one_shl (k : Nat) (hk : k < 32) : (1#32 <<< k).toNat = 2 ^ k := by
  have : ∀ k : Fin 32, (1#32 <<< k.val).toNat = 2 ^ k.val := by decide
  exact this ⟨k, hk⟩


theorem decE_sum {c : List (BitVec 8)} (h7 : 7 ≤ c.length) (h5 : c.length ≤ 1048) (hs : ¬summedB c) : decE c = 32 := by
  unfold decE
  rw [if_neg (by omega), if_neg (by omega), if_pos hs]
theorem val_inj {x y : List (BitVec 8)} (hl : x.length = y.length) (h : val x = val y) : x = y := by
  rw [← be_val x, ← be_val y, hl, h]
theorem xor_ne {x : BitVec 8} {m : BitVec 8} (h : m ≠ 0#8) : x ^^^ m ≠ x := by
  intro e
  apply h
  have := congrArg (x ^^^ ·) e
  simpa [← BitVec.xor_assoc] using this
theorem crc_ne {c d x : BitVec 32} (h : d = c ^^^ x) (hx : x ≠ 0#32) : ¬ d.toNat = c.toNat := by
  intro e
  have e2 : d = c := BitVec.eq_of_toNat_eq e
  rw [e2] at h
  apply hx
  have := congrArg (c ^^^ ·) h
  simpa [← BitVec.xor_assoc] using this.symm
/-- One byte changed is told. -/
theorem told_byte {f : Fr} (hf : fit f) {k : Nat} (hk : k < (enc f).length) {mask : BitVec 8} (hm : mask ≠ 0#8) : decE ((enc f).set k ((enc f)[k] ^^^ mask)) = 32 := by
  have hl := enc_len hf
  have hz := sizeF_bd hf
  refine decE_sum (by rw [List.length_set]; omega) (by rw [List.length_set]; omega) ?_
  unfold summedB
  rw [List.length_set]
  obtain ⟨S, hS, hE⟩ : ∃ S : List (BitVec 8), S.length = 4 ∧ enc f = bodyB f ++ S := ⟨be 4 (crc (bodyB f)).toNat, be_len 4 _, rfl⟩
  have hSv : val S = (crc (bodyB f)).toNat := by
    have : enc f = bodyB f ++ be 4 (crc (bodyB f)).toNat := rfl
    rw [this] at hE
    rw [← List.append_cancel_left hE]
    exact be_val4 (crc (bodyB f)).isLt
  have hm4 : (enc f).length - 4 = (bodyB f).length := by rw [hE, List.length_append, hS]; omega
  rw [hm4]
  by_cases hb : k < (bodyB f).length
  · have e1 : (enc f).set k ((enc f)[k] ^^^ mask) = (bodyB f).set k ((bodyB f)[k] ^^^ mask) ++ S := by
      have hg : (enc f)[k] = (bodyB f)[k] := by simp only [hE]; exact List.getElem_append_left hb
      rw [hg, hE, List.set_append_left _ _ hb]
    rw [e1, List.drop_left' (by rw [List.length_set]), List.take_left' (by rw [List.length_set]), hSv]
    have hx : Sn (8 * ((bodyB f).length - k)) (mask.setWidth 32) ≠ 0#32 := fun h => by
      have := Sn_inj _ _ h
      apply hm
      have h2 := congrArg BitVec.toNat this
      rw [BitVec.toNat_setWidth] at h2
      have h3 := mask.isLt
      exact BitVec.eq_of_toNat_eq (by simp at h2 ⊢; omega)
    exact fun h => crc_ne (crc_flip (bodyB f) k hb mask) hx h.symm
  · have hb2 : (bodyB f).length ≤ k := by omega
    have hkS : k - (bodyB f).length < S.length := by rw [hE, List.length_append] at hk; omega
    have e1 : (enc f).set k ((enc f)[k] ^^^ mask) = bodyB f ++ S.set (k - (bodyB f).length) (S[k - (bodyB f).length] ^^^ mask) := by
      have hg : (enc f)[k] = S[k - (bodyB f).length] := by simp only [hE]; exact List.getElem_append_right hb2
      rw [hg, hE, List.set_append_right _ _ hb2]
    rw [e1, List.drop_left, List.take_left, ← hSv]
    intro h
    have h2 := val_inj (by rw [List.length_set]) h
    have h3 := congrArg (fun l => l[k - (bodyB f).length]?) h2
    simp only [List.getElem?_set_self hkS, List.getElem?_eq_getElem hkS, Option.some.injEq] at h3
    exact xor_ne hm h3
/-- Bits within 32 side by side ahead of the sum are told. -/
theorem told_bits {f : Fr} (hf : fit f) {O : List (BitVec 8)} (hO : O.length = (bodyB f).length) {j : Nat} {Wd : BitVec 32} (hc : crc O = crc (bodyB f) ^^^ Sn j Wd) (hW : Wd ≠ 0#32) : decE (O ++ be 4 (crc (bodyB f)).toNat) = 32 := by
  have hl := enc_len hf
  have hz := sizeF_bd hf
  have hl2 : (enc f).length = (bodyB f).length + 4 := by unfold enc; rw [List.length_append, be_len]
  have hl3 : (O ++ be 4 (crc (bodyB f)).toNat).length = (bodyB f).length + 4 := by rw [List.length_append, be_len, hO]
  refine decE_sum (by omega) (by omega) ?_
  unfold summedB
  rw [hl3, Nat.add_sub_cancel, List.drop_left' hO, List.take_left' hO, be_val4 (crc (bodyB f)).isLt]
  exact fun h => crc_ne hc (fun e => hW (Sn_inj _ _ e)) h.symm
set_option maxRecDepth 100000

theorem owned_row {w : World} {base n : Nat} {v : Value} {bs : List (BitVec 8)} (h : w.ownsRow base 5 1 v n (bcells bs)) (h0 : 0 < n) : ∃ g cap tail, v = .slice (some ⟨g, 0, none⟩) n cap ∧ base ≤ g ∧ n ≤ cap ∧ Row w g (bcells bs ++ tail) 5 := by
  obtain ⟨_, ⟨_, hn⟩ | ⟨g, cap, cur, rfl, hg, hh, hnc, hcm, hcs, htk⟩⟩ := h
  · omega
  · rw [Nat.mul_one] at htk
    refine ⟨g, cap, cur.toList.drop n, rfl, hg, hnc, ⟨?_⟩⟩
    rw [← htk, List.take_append_drop]
    simpa using hh
theorem Row.front {w : World} {g t : Nat} {bs : List (BitVec 8)} {tail : List Value} (R : Row w g (bcells bs ++ tail) t) : BytesAt w (some ⟨g, 0, none⟩) bs := fun k hk =>
  ⟨g, 0, rfl, by rw [Nat.zero_add]; exact R.cell k _ (by rw [List.getElem?_append_left (by rw [bcells_len]; exact hk)]; exact bcells_get hk)⟩
/-- Where the law stands: k bits are done. -/
structure Telling (w : World) (bd S : List (BitVec 8)) (A g : Nat) (tail : List Value) (vc vi : Value) (wr : World) : Prop where
  ex : ∃ (k : Nat) (O : List (BitVec 8)) (Wd : BitVec 32), k ≤ 32 ∧ vi = .int .i64 (k : Int) ∧ vc = .bool (decide (Wd ≠ 0#32)) ∧ O.length = bd.length ∧ Wd.toNat < 2 ^ k ∧ crc O = crc bd ^^^ Sn (8 * bd.length - A) Wd ∧ (Wd = 0#32 → O = bd) ∧ Row wr g (bcells O ++ (bcells S ++ tail)) 5 ∧ Below w.heap.size w wr

open Classical in
set_option maxHeartbeats 4000000 in
theorem told_fit {w : World} {c : List Value} {f : Fr} {da ra ma : Option Addr} {dc rc mc : Nat} (h : FrAt w c f da dc ra rc ma mc) (hf : fit f) (hT : CrcTab w) (hS : SizesTab w) (h2 : 2 ≤ w.heap.size) (z z2 : Int) (mk : BitVec 8) (bt : BitVec 32) :
    Calls Tryd.prog 6 #[.agg c.toArray, .int .i64 z, .int .u8 (ub mk), .int .i64 z2, .int .u32 (u bt)] w fun e w' => e = .returned (.bool true) ∧ Below w.heap.size w w' := by
  have HF : Hid (FrAt w c f da dc ra rc ma mc) := h
  have HP : Hid (∀ W, Below w.heap.size w W → Calls Tryd.prog 9 #[] W fun e w' => e = .returned (.bool true) ∧ Below W.heap.size W w') := fun W hb => probe_any (hT.kept hb) (hS.kept hb) (Nat.le_trans h2 hb.size)
  have HE : Hid (∀ W, Below w.heap.size w W → Calls Tryd.prog 10 #[.agg c.toArray] W (EncGives W f)) := fun W hb => enc_ok (HF.out.kept hb) hf (hT.kept hb) (hS.kept hb) (Nat.le_trans h2 hb.size)
  have HR : Hid (∀ W, Below w.heap.size w W → Calls Tryd.prog 11 #[.agg c.toArray] W fun e w' => e = .returned (.bool true) ∧ Below W.heap.size W w') := fun W hb => by
    have := rfit_any (HF.out.kept hb); rw [decide_eq_true hf] at this; exact this
  have HD : Hid (∀ W a m k bs, Below w.heap.size w W → BytesAt W a bs → bs.length = m → m ≤ k → Calls Tryd.prog 15 #[.slice a m k] W (DecGives W bs (decE bs))) := fun W a m k bs hb hB hl hc => decode_any hB hl hc (hT.kept hb) (hS.kept hb)
  have HB1X : Hid (∀ k (hk : k < (enc f).length), mk ≠ 0#8 → decE ((enc f).set k ((enc f)[k] ^^^ mk)) = 32) := fun k hk hm => told_byte hf hk hm
  have HOK : Hid (decE (enc f) = 0) := decE_enc hf h.nums
  have HB2X : Hid (∀ (O : List (BitVec 8)) j (Wd : BitVec 32), O.length = (bodyB f).length → crc O = crc (bodyB f) ^^^ Sn j Wd → Wd ≠ 0#32 → decE (O ++ be 4 (crc (bodyB f)).toNat) = 32) := fun O j Wd h1 h2 h3 => told_bits hf h1 h2 h3
  have hz := sizeF_bd hf
  have hl := enc_len hf
  obtain ⟨n, hn⟩ : ∃ n, n = (enc f).length := ⟨_, rfl⟩
  obtain ⟨m, hm⟩ : ∃ m, m = (bodyB f).length := ⟨_, rfl⟩
  have hmn : n = m + 4 := by rw [hn, hm]; unfold enc; rw [List.length_append, be_len]
  have n1 : (n : Int) ≤ 1048 := by omega
  have n2 : (7 : Int) ≤ (n : Int) := by omega
  have n0 : (0 : Int) < (n : Int) := by omega
  have n3 : ¬ ((n : Int) = 0) := by omega
  have n4 : ((n : Int) == 0) = false := by rw [beq_eq_false_iff_ne]; exact n3
  have n5 : IntKind.u64.wrap (n : Int) = (n : Int) := by rw [IntKind.wrap_u64]; omega
  have n6 : (n : Int) - 4 = (m : Int) := by omega
  obtain ⟨A, hA, hAl⟩ : ∃ A : Nat, IntKind.u64.wrap z % (n : Int) = (A : Int) ∧ A < n := by
    have h1 := Int.emod_nonneg (IntKind.u64.wrap z) (show (n : Int) ≠ 0 by omega)
    have h2 := Int.emod_lt_of_pos (IntKind.u64.wrap z) n0
    exact ⟨(IntKind.u64.wrap z % (n : Int)).toNat, by omega, by omega⟩
  have hA' : z % 18446744073709551616 % (n : Int) = (A : Int) := by rw [← IntKind.wrap_u64]; exact hA
  have hAt : (IntKind.u64.wrap z).tmod (n : Int) = (A : Int) := by
    rw [Int.tmod_eq_emod_of_nonneg (by rw [IntKind.wrap_u64]; omega)]; exact hA
  have hAw : IntKind.i64.wrap (A : Int) = (A : Int) := by unfold IntKind.wrap; simp [IntKind.bits, IntKind.signed]; omega
  have hAi : (A : Int) < (n : Int) := by omega
  obtain ⟨L8, hL8⟩ : ∃ L8, L8 = 8 * m := ⟨_, rfl⟩
  have l0 : (8 : Int) * (m : Int) = (L8 : Int) := by omega
  have l1 : (0 : Int) < (L8 : Int) := by omega
  have l2 : (L8 : Int) ≤ 8384 := by omega
  have l3 : ¬ ((L8 : Int) = 0) := by omega
  have l4 : ((L8 : Int) == 0) = false := by rw [beq_eq_false_iff_ne]; exact l3
  have l5 : IntKind.u64.wrap (L8 : Int) = (L8 : Int) := by rw [IntKind.wrap_u64]; omega
  obtain ⟨A2, hB, hBl⟩ : ∃ A2 : Nat, IntKind.u64.wrap z2 % (L8 : Int) = (A2 : Int) ∧ A2 < L8 := by
    have h1 := Int.emod_nonneg (IntKind.u64.wrap z2) (show (L8 : Int) ≠ 0 by omega)
    have h2 := Int.emod_lt_of_pos (IntKind.u64.wrap z2) l1
    exact ⟨(IntKind.u64.wrap z2 % (L8 : Int)).toNat, by omega, by omega⟩
  have hB' : z2 % 18446744073709551616 % (L8 : Int) = (A2 : Int) := by rw [← IntKind.wrap_u64]; exact hB
  have hBt : (IntKind.u64.wrap z2).tmod (L8 : Int) = (A2 : Int) := by
    rw [Int.tmod_eq_emod_of_nonneg (by rw [IntKind.wrap_u64]; omega)]; exact hB
  have hBw : IntKind.i64.wrap (A2 : Int) = (A2 : Int) := by unfold IntKind.wrap; simp [IntKind.bits, IntKind.signed]; omega
  have hBi : (A2 : Int) < (L8 : Int) := by omega
  have HAL : Hid (A < n) := hAl
  have HBL : Hid (A2 < L8) := hBl
  have H8 : Hid (L8 = 8 * m) := hL8
  have HN : Hid (n = (enc f).length) := hn
  have HMM : Hid (m = (bodyB f).length) := hm
  have HNM : Hid (n = m + 4) := hmn
  have HNB : Hid (n ≤ 1048) := by show n ≤ 1048; omega
  have HN0 : Hid (0 < n) := by show 0 < n; omega
  obtain ⟨rfl, _⟩ := h
  clear hf hT hS h2 hz hl hn hAl hm hmn hL8 hBl
  go_enter Tryd.func6, Tryd.ntmps6
  go_upto_region 1 with (fail)
  refine wp_world fun W0 HWE => ?_
  have HQ0 : Hid (Row W0 w.heap.size (fcells f (.slice da f.data.length dc) (.slice ra f.ranges.length rc) (.slice ma f.mac.length mc)) 27) := by show Row _ _ _ _; rw [HWE.out]; exact Row.new' _ _ _ _ _ rfl rfl
  have HB0 : Hid (Below w.heap.size w W0) := by show Below _ _ _; rw [HWE.out]; exact (Below.refl _ _).alloc (Nat.le_refl _) _
  clear HWE
  go_upto_region 8 with (first
    | (go_at_call 9; refine (HP.out _ HB0.out).mono ?_; rintro e w1 ⟨rfl, hb⟩; have HB1 : Hid _ := HB0.out.trans (hb.mono HB0.out.size); have HQ1 : Hid _ := HQ0.out.kept hb HQ0.out.lt; clear hb)
    | (show wpList _ _ _ (Oper.mk (some 22) (.load 27 (.tmp 5)) _ _ _ _ :: _) _ _; refine HQ1.out.wpLoad 27 (.tmp 5) rfl rfl rfl _ Tryd.underlying27 rfl i27 ?_)
    | (go_at_call 10; refine (HE.out _ HB1.out).mono ?_; rintro e w2 ⟨g, rfl, hg, hR, hb⟩; rw [← HN.out]; have HB2 : Hid _ := HB1.out.trans (hb.mono HB1.out.size); have HQ2 : Hid _ := HQ1.out.kept hb HQ1.out.lt; have HR2 : Hid (Row w2 g (bcells (enc f)) 5) := hR; clear hb hR hg)
    | (show wpList _ _ _ (Oper.mk (some 26) (.load 27 (.tmp 5)) _ _ _ _ :: _) _ _; refine HQ2.out.wpLoad 27 (.tmp 5) rfl rfl rfl _ Tryd.underlying27 rfl i27 ?_)
    | (go_at_call 11; refine (HR.out _ HB2.out).mono ?_; rintro e w3 ⟨rfl, hb⟩; have HB3 : Hid (Below w.heap.size w w3) := HB2.out.trans (hb.mono HB2.out.size); have HR3 : Hid (Row w3 g (bcells (enc f)) 5) := HR2.out.kept hb HR2.out.lt; clear hb))
  clear HB0 HQ0 HB1 HQ1 HB2 HQ2 HR2 HP HE HR
  have HCP : Hid (∀ W, Row W g (bcells (enc f)) 5 → Calls Tryd.prog 16 #[.slice (some ⟨g, 0, none⟩) n n] W fun e w' => ∃ v, e = .returned v ∧ w'.ownsRow W.heap.size 5 1 v n (bcells (enc f)) ∧ Below W.heap.size W w') := fun W hR => copy_any (cap := n) hR.bytes HN.out.symm (by have := HNB.out; omega)
  go_upto_region 9 with (go_at_call 16; refine (HCP.out _ HR3.out).mono ?_; rintro e w4 ⟨v4, rfl, hO, hb⟩; obtain ⟨g4, cap4, tail4, hv4, hg4, hc4, hRo⟩ := owned_row hO HN0.out; subst hv4; have HR4 : Hid (Row w4 g4 (bcells (enc f) ++ tail4) 5) := hRo; have HG4 : Hid (w3.heap.size ≤ g4) := hg4; have HC4 : Hid (n ≤ cap4) := hc4; have HB34 : Hid (Below w3.heap.size w3 w4) := hb; clear hO hb hg4 hc4 hRo)
  have HAE : Hid (A < (enc f).length) := by show A < _; rw [← HN.out]; exact HAL.out
  have c1 := HR4.out.cell A (.int .u8 (ub ((enc f)[A]'HAE.out))) (by rw [List.getElem?_append_left (by rw [bcells_len]; exact HAE.out)]; exact bcells_get HAE.out)
  have f1 := HR4.out.frozen A
  have HSET : Hid (bcells ((enc f).set A ((enc f)[A]'HAE.out ^^^ mk)) = (bcells (enc f)).set A (.int .u8 (ub ((enc f)[A]'HAE.out ^^^ mk)))) := (bcells_set _ _ _).symm
  have HZ0 : Hid (mk = 0#8 → (enc f).set A ((enc f)[A]'HAE.out ^^^ mk) = enc f) := fun e => by rw [e, BitVec.xor_zero, List.set_getElem_self]
  have HB1Y : Hid (mk ≠ 0#8 → decE ((enc f).set A ((enc f)[A]'HAE.out ^^^ mk)) = 32) := HB1X.out A HAE.out
  obtain ⟨C1, hC1⟩ : ∃ C1, C1 = (enc f).set A ((enc f)[A]'HAE.out ^^^ mk) := ⟨_, rfl⟩
  have HC1L : Hid (C1.length = n) := by show _ = _; rw [hC1, List.length_set, ← HN.out]
  rw [← hC1] at HSET HZ0 HB1Y
  clear hC1
  generalize (enc f)[A]'HAE.out = oq at *
  go_upto_region 11 with (fail)
  refine wp_world fun W5 HW => ?_
  have HR5 : Hid (Row W5 g4 (bcells C1 ++ tail4) 5) := by
    show Row _ _ _ _
    rw [HW.out]
    have := HR4.out.set A (.int .u8 (ub (oq ^^^ mk)))
    rw [List.set_append_left _ _ (by rw [bcells_len]; exact HAE.out), ← HSET.out] at this
    exact this
  have HB35 : Hid (Below w3.heap.size w3 W5) := by show Below _ _ _; rw [HW.out]; exact HB34.out.setCell HG4.out _
  have HB5 : Hid (Below w.heap.size w W5) := HB3.out.trans (HB35.out.mono HB3.out.size)
  have HS5 : Hid (Row W5 g (bcells (enc f)) 5) := HR3.out.kept HB35.out HR3.out.lt
  clear HW c1 f1 HR4 HB34 HB35 HSET HR3 HB3
  have HD1 : Hid _ := HD.out W5 (some ⟨g4, 0, none⟩) n cap4 C1 HB5.out HR5.out.front HC1L.out HC4.out
  have HER : Hid ((mk = 0#8 ∧ decE C1 = 0) ∨ (mk ≠ 0#8 ∧ decE C1 = 32)) := by
    by_cases e : mk = 0#8
    · left; exact ⟨e, by rw [HZ0.out e]; exact HOK.out⟩
    · right; exact ⟨e, HB1Y.out e⟩
  generalize decE C1 = er1 at *
  go_upto_region 12 with (go_at_call 15; refine Calls.mono HD1.out ?_; rintro e w6 ⟨da', dc', ra', rc', ma', mc', c', rfl, _, hb, _, _, _⟩; have HB6 : Hid (Below w.heap.size w w6) := HB5.out.trans (hb.mono HB5.out.size); have HS6 : Hid (Row w6 g (bcells (enc f)) 5) := HS5.out.kept hb HS5.out.lt; clear hb)
  clear HD1 HB5 HS5 HR5 HZ0 HB1Y
  rcases HER.out with ⟨hm0, rfl⟩ | ⟨hm0, rfl⟩
  · have u0 : ub mk = 0 := by rw [hm0]; rfl
    clear hm0 HER
    go_upto_region 14 with (fail)
    go_upto_region 15 with (go_at_call 16; refine (HCP.out _ HS6.out).mono ?_; rintro e w7 ⟨v7, rfl, hO, hb⟩; obtain ⟨g7, cap7, tail7, hv7, hg7, hc7, hRo⟩ := owned_row hO HN0.out; subst hv7; have HR7 : Hid (Row w7 g7 (bcells (bodyB f) ++ (bcells (be 4 (crc (bodyB f)).toNat) ++ tail7)) 5) := (by have := hRo; rw [show bcells (enc f) = bcells (bodyB f) ++ bcells (be 4 (crc (bodyB f)).toNat) by unfold enc; simp [bcells], List.append_assoc] at this; exact this); have HG7 : Hid (w.heap.size ≤ g7) := Nat.le_trans HB6.out.size hg7; have HC7 : Hid (n ≤ cap7) := hc7; have HB7 : Hid (Below w.heap.size w w7) := HB6.out.trans (hb.mono HB6.out.size); clear hO hb hg7 hc7 hRo)
    clear HCP HS6 HB6 HB1X HAE HC1L HC4 HG4
    have HBS : Hid (enc f = bodyB f ++ be 4 (crc (bodyB f)).toNat) := rfl
    generalize hS4 : be 4 (crc (bodyB f)).toNat = S at *
    have HSL : Hid (S.length = 4) := by show _ = _; rw [← hS4]; exact be_len 4 _
    clear hS4
    generalize hBD : bodyB f = bd at *
    clear hBD
    go_wp2
    go_loopw [17, 18] (fun vc vi wr => Telling w bd S A2 g7 tail7 vc vi wr) (fun _ vi _ => 32 - (intOf vi).toNat)
    case atStart => exact ⟨⟨0, bd, 0#32, by omega, rfl, rfl, rfl, by decide, by rw [Sn_zero, BitVec.xor_zero], fun _ => rfl, HR7.out, HB7.out⟩⟩
    case round =>
      obtain ⟨k, O, Wd, hk, rfl, rfl, hOl, hWd, hcr, hz0, hR, hb⟩ := hrel.ex
      clear hrel HR7 HB7
      by_cases hin : k < 32 ∧ A2 + k < L8
      · have hlt : (k : Int) < 32 := by omega
        have hlt2 : (A2 : Int) + (k : Int) < (L8 : Int) := by omega
        obtain ⟨q, t, hqt, ht⟩ : ∃ q t : Nat, A2 + k = 8 * q + t ∧ t < 8 := ⟨(A2 + k) / 8, (A2 + k) % 8, by omega, by omega⟩
        have hq : q < bd.length := by have := H8.out; have := HMM.out; omega
        have hdv : ((A2 : Int) + (k : Int)) / 8 = (q : Int) := by omega
        have hmd : ((A2 : Int) + (k : Int)) % 8 = (t : Int) := by omega
        have hsh := u_shr bt k
        have hqi : (q : Int) < (n : Int) := by have := HMM.out; have := HNM.out; omega
        have hOq : q < O.length := by omega
        have c1 := hR.cell q (.int .u8 (ub O[q])) (by rw [List.getElem?_append_left (by rw [bcells_len]; omega)]; exact bcells_get hOq)
        have f1 := hR.frozen q
        have HOL : Hid _ := hOl
        have HWD : Hid _ := hWd
        have HCR : Hid _ := hcr
        have HZW : Hid (Wd = 0#32 → O = bd) := hz0
        have HR : Hid _ := hR
        have HBB : Hid _ := hb
        have HQT : Hid _ := hqt
        have HT : Hid _ := ht
        have HOQ : Hid _ := hOq
        have HIN : Hid _ := hin
        clear hOl hWd hcr hR hb hqt ht hq hin hz0
        rcases low_bit (bt >>> k) with hbit | hbit
        · have hv : bits .and .u32 (u (bt >>> k)) 1 = 1 := by rw [u_and1, hbit]; rfl
          have hs0 := shl_one t HT.out
          have hs1 : IntKind.u8.wrap (2 ^ t) = ub (1#8 <<< t) := by rw [hs0, ub_wrap_ub]
          have hs2 : IntKind.u8.wrap (1 * 2 ^ t) = ub (1#8 <<< t) := by rw [Int.one_mul, hs1]
          have hs3 : (2 : Int) ^ t % 256 = ub (1#8 <<< t) := by rw [← IntKind.wrap_u8']; exact hs1
          have NEW : Hid (Telling w bd S A2 g7 tail7 (.bool true) (.int .i64 ((k : Int) + 1)) (wr.setCell ⟨g7, q, none⟩ (.int .u8 (ub (O[q] ^^^ 1#8 <<< t))))) := by
            have hin := HIN.out
            have hp := one_shl k hin.1
            have hne : Wd ^^^ 1#32 <<< k ≠ 0#32 := by
              intro e
              have e2 : Wd = 1#32 <<< k := by
                have := congrArg (· ^^^ 1#32 <<< k) e
                simpa [BitVec.xor_assoc] using this
              have := HWD.out
              rw [e2, hp] at this
              omega
            refine ⟨⟨k + 1, O.set q (O[q] ^^^ 1#8 <<< t), Wd ^^^ 1#32 <<< k, by omega, by go_num, by rw [decide_eq_true hne], by rw [List.length_set]; exact HOL.out, ?_, ?_, fun e => absurd e hne, ?_, HBB.out.setCell (p := ⟨g7, q, none⟩) HG7.out _⟩⟩
            · rw [BitVec.toNat_xor, hp]
              refine Nat.xor_lt_two_pow ?_ ?_
              · exact Nat.lt_of_lt_of_le HWD.out (Nat.pow_le_pow_right (by decide) (by omega))
              · exact Nat.pow_lt_pow_right (by decide) (by omega)
            · refine (crc_flip O q HOQ.out (1#8 <<< t)).trans ?_
              rw [Sn_place O.length A2 q t k HQT.out HT.out hin.1 HOQ.out, HCR.out, HOL.out, Sn_xor, BitVec.xor_assoc]
            · have := HR.out.set q (.int .u8 (ub (O[q] ^^^ 1#8 <<< t)))
              rw [List.set_append_left _ _ (by rw [bcells_len]; exact HOQ.out), bcells_set] at this
              exact this
          clear hbit
          generalize O[q] = oq at *
          generalize 1#8 <<< t = xt at *
          go_wp2
          go_roundw
          case rel => exact NEW.out
          case measure => simp [intOf]; omega
        · have hv : bits .and .u32 (u (bt >>> k)) 1 = 0 := by rw [u_and1, hbit]; rfl
          have NEW : Hid (Telling w bd S A2 g7 tail7 (.bool (decide (Wd ≠ 0#32))) (.int .i64 ((k : Int) + 1)) wr) :=
            ⟨⟨k + 1, O, Wd, by have := HIN.out; omega, by go_num, rfl, HOL.out, Nat.lt_of_lt_of_le HWD.out (Nat.pow_le_pow_right (by decide) (by omega)), HCR.out, HZW.out, HR.out, HBB.out⟩⟩
          clear hbit
          generalize decide (Wd ≠ 0#32) = dc at *
          go_wp2
          go_roundw
          case rel => exact NEW.out
          case measure => simp [intOf]; omega
      · have hRO : BytesAt wr (some ⟨g7, 0, none⟩) (O ++ S) := Row.front (tail := tail7) (by rw [show bcells (O ++ S) = bcells O ++ bcells S by simp [bcells], List.append_assoc]; exact hR)
        have HD2 : Hid _ := HD.out wr (some ⟨g7, 0, none⟩) n cap7 (O ++ S) hb hRO (by rw [List.length_append, HSL.out, hOl]; have := HMM.out; have := HNM.out; omega) HC7.out
        have HER2 : Hid ((Wd = 0#32 ∧ decE (O ++ S) = 0) ∨ (Wd ≠ 0#32 ∧ decE (O ++ S) = 32)) := by
          by_cases e : Wd = 0#32
          · left; exact ⟨e, by rw [hz0 e, ← HBS.out]; exact HOK.out⟩
          · right; exact ⟨e, HB2X.out O _ Wd hOl hcr e⟩
        have HBB : Hid (Below w.heap.size w wr) := hb
        clear hb hR hcr hWd hRO hz0 hOl
        generalize decE (O ++ S) = er2 at *
        have HDC : Hid (∃ dc, dc = decide (Wd ≠ 0#32) ∧ ((dc = false ∧ er2 = 0) ∨ (dc = true ∧ er2 = 32))) := by
          rcases HER2.out with ⟨e, e2⟩ | ⟨e, e2⟩
          · exact ⟨_, rfl, .inl ⟨decide_eq_false (by simpa using e), e2⟩⟩
          · exact ⟨_, rfl, .inr ⟨decide_eq_true e, e2⟩⟩
        obtain ⟨dc, hdc, hcase⟩ := HDC.out
        rw [← hdc]
        clear HDC HER2 hdc
        have hstop : decide ((k : Int) < 32) = false ∨ ((k : Int) < 32 ∧ decide ((A2 : Int) + (k : Int) < (L8 : Int)) = false) := by
          by_cases h32 : k < 32
          · right; exact ⟨by omega, decide_eq_false (by omega)⟩
          · left; exact decide_eq_false (by omega)
        rcases hcase with ⟨rfl, rfl⟩ | ⟨rfl, rfl⟩ <;> rcases hstop with hs | ⟨hs, hs2⟩
        all_goals
          go_wp2_with (go_at_call 15; refine Calls.mono HD2.out ?_; rintro e w8 ⟨da2, dc2, ra2, rc2, ma2, mc2, c2, rfl, _, hb8, _, _, _⟩; have HB8 : Hid (Below w.heap.size w w8) := HBB.out.trans (hb8.mono HBB.out.size); clear hb8)
          go_ret
          exact ⟨rfl, HB8.out⟩
  · have u0 : ¬ ub mk = 0 := fun e => hm0 (ub_inj (e.trans (by decide)))
    have u1 : (ub mk != 0) = true := bne_iff_ne.2 u0
    have u2 : (ub mk == 0) = false := by rw [beq_eq_false_iff_ne]; exact u0
    clear hm0 HER
    go_upto_region 14 with (fail)
    go_upto_region 15 with (go_at_call 16; refine (HCP.out _ HS6.out).mono ?_; rintro e w7 ⟨v7, rfl, hO, hb⟩; obtain ⟨g7, cap7, tail7, hv7, hg7, hc7, hRo⟩ := owned_row hO HN0.out; subst hv7; have HR7 : Hid (Row w7 g7 (bcells (bodyB f) ++ (bcells (be 4 (crc (bodyB f)).toNat) ++ tail7)) 5) := (by have := hRo; rw [show bcells (enc f) = bcells (bodyB f) ++ bcells (be 4 (crc (bodyB f)).toNat) by unfold enc; simp [bcells], List.append_assoc] at this; exact this); have HG7 : Hid (w.heap.size ≤ g7) := Nat.le_trans HB6.out.size hg7; have HC7 : Hid (n ≤ cap7) := hc7; have HB7 : Hid (Below w.heap.size w w7) := HB6.out.trans (hb.mono HB6.out.size); clear hO hb hg7 hc7 hRo)
    clear HCP HS6 HB6 HB1X HAE HC1L HC4 HG4
    have HBS : Hid (enc f = bodyB f ++ be 4 (crc (bodyB f)).toNat) := rfl
    generalize hS4 : be 4 (crc (bodyB f)).toNat = S at *
    have HSL : Hid (S.length = 4) := by show _ = _; rw [← hS4]; exact be_len 4 _
    clear hS4
    generalize hBD : bodyB f = bd at *
    clear hBD
    go_wp2
    go_loopw [17, 18] (fun vc vi wr => Telling w bd S A2 g7 tail7 vc vi wr) (fun _ vi _ => 32 - (intOf vi).toNat)
    case atStart => exact ⟨⟨0, bd, 0#32, by omega, rfl, rfl, rfl, by decide, by rw [Sn_zero, BitVec.xor_zero], fun _ => rfl, HR7.out, HB7.out⟩⟩
    case round =>
      obtain ⟨k, O, Wd, hk, rfl, rfl, hOl, hWd, hcr, hz0, hR, hb⟩ := hrel.ex
      clear hrel HR7 HB7
      by_cases hin : k < 32 ∧ A2 + k < L8
      · have hlt : (k : Int) < 32 := by omega
        have hlt2 : (A2 : Int) + (k : Int) < (L8 : Int) := by omega
        obtain ⟨q, t, hqt, ht⟩ : ∃ q t : Nat, A2 + k = 8 * q + t ∧ t < 8 := ⟨(A2 + k) / 8, (A2 + k) % 8, by omega, by omega⟩
        have hq : q < bd.length := by have := H8.out; have := HMM.out; omega
        have hdv : ((A2 : Int) + (k : Int)) / 8 = (q : Int) := by omega
        have hmd : ((A2 : Int) + (k : Int)) % 8 = (t : Int) := by omega
        have hsh := u_shr bt k
        have hqi : (q : Int) < (n : Int) := by have := HMM.out; have := HNM.out; omega
        have hOq : q < O.length := by omega
        have c1 := hR.cell q (.int .u8 (ub O[q])) (by rw [List.getElem?_append_left (by rw [bcells_len]; omega)]; exact bcells_get hOq)
        have f1 := hR.frozen q
        have HOL : Hid _ := hOl
        have HWD : Hid _ := hWd
        have HCR : Hid _ := hcr
        have HZW : Hid (Wd = 0#32 → O = bd) := hz0
        have HR : Hid _ := hR
        have HBB : Hid _ := hb
        have HQT : Hid _ := hqt
        have HT : Hid _ := ht
        have HOQ : Hid _ := hOq
        have HIN : Hid _ := hin
        clear hOl hWd hcr hR hb hqt ht hq hin hz0
        rcases low_bit (bt >>> k) with hbit | hbit
        · have hv : bits .and .u32 (u (bt >>> k)) 1 = 1 := by rw [u_and1, hbit]; rfl
          have hs0 := shl_one t HT.out
          have hs1 : IntKind.u8.wrap (2 ^ t) = ub (1#8 <<< t) := by rw [hs0, ub_wrap_ub]
          have hs2 : IntKind.u8.wrap (1 * 2 ^ t) = ub (1#8 <<< t) := by rw [Int.one_mul, hs1]
          have hs3 : (2 : Int) ^ t % 256 = ub (1#8 <<< t) := by rw [← IntKind.wrap_u8']; exact hs1
          have NEW : Hid (Telling w bd S A2 g7 tail7 (.bool true) (.int .i64 ((k : Int) + 1)) (wr.setCell ⟨g7, q, none⟩ (.int .u8 (ub (O[q] ^^^ 1#8 <<< t))))) := by
            have hin := HIN.out
            have hp := one_shl k hin.1
            have hne : Wd ^^^ 1#32 <<< k ≠ 0#32 := by
              intro e
              have e2 : Wd = 1#32 <<< k := by
                have := congrArg (· ^^^ 1#32 <<< k) e
                simpa [BitVec.xor_assoc] using this
              have := HWD.out
              rw [e2, hp] at this
              omega
            refine ⟨⟨k + 1, O.set q (O[q] ^^^ 1#8 <<< t), Wd ^^^ 1#32 <<< k, by omega, by go_num, by rw [decide_eq_true hne], by rw [List.length_set]; exact HOL.out, ?_, ?_, fun e => absurd e hne, ?_, HBB.out.setCell (p := ⟨g7, q, none⟩) HG7.out _⟩⟩
            · rw [BitVec.toNat_xor, hp]
              refine Nat.xor_lt_two_pow ?_ ?_
              · exact Nat.lt_of_lt_of_le HWD.out (Nat.pow_le_pow_right (by decide) (by omega))
              · exact Nat.pow_lt_pow_right (by decide) (by omega)
            · refine (crc_flip O q HOQ.out (1#8 <<< t)).trans ?_
              rw [Sn_place O.length A2 q t k HQT.out HT.out hin.1 HOQ.out, HCR.out, HOL.out, Sn_xor, BitVec.xor_assoc]
            · have := HR.out.set q (.int .u8 (ub (O[q] ^^^ 1#8 <<< t)))
              rw [List.set_append_left _ _ (by rw [bcells_len]; exact HOQ.out), bcells_set] at this
              exact this
          clear hbit
          generalize O[q] = oq at *
          generalize 1#8 <<< t = xt at *
          go_wp2
          go_roundw
          case rel => exact NEW.out
          case measure => simp [intOf]; omega
        · have hv : bits .and .u32 (u (bt >>> k)) 1 = 0 := by rw [u_and1, hbit]; rfl
          have NEW : Hid (Telling w bd S A2 g7 tail7 (.bool (decide (Wd ≠ 0#32))) (.int .i64 ((k : Int) + 1)) wr) :=
            ⟨⟨k + 1, O, Wd, by have := HIN.out; omega, by go_num, rfl, HOL.out, Nat.lt_of_lt_of_le HWD.out (Nat.pow_le_pow_right (by decide) (by omega)), HCR.out, HZW.out, HR.out, HBB.out⟩⟩
          clear hbit
          generalize decide (Wd ≠ 0#32) = dc at *
          go_wp2
          go_roundw
          case rel => exact NEW.out
          case measure => simp [intOf]; omega
      · have hRO : BytesAt wr (some ⟨g7, 0, none⟩) (O ++ S) := Row.front (tail := tail7) (by rw [show bcells (O ++ S) = bcells O ++ bcells S by simp [bcells], List.append_assoc]; exact hR)
        have HD2 : Hid _ := HD.out wr (some ⟨g7, 0, none⟩) n cap7 (O ++ S) hb hRO (by rw [List.length_append, HSL.out, hOl]; have := HMM.out; have := HNM.out; omega) HC7.out
        have HER2 : Hid ((Wd = 0#32 ∧ decE (O ++ S) = 0) ∨ (Wd ≠ 0#32 ∧ decE (O ++ S) = 32)) := by
          by_cases e : Wd = 0#32
          · left; exact ⟨e, by rw [hz0 e, ← HBS.out]; exact HOK.out⟩
          · right; exact ⟨e, HB2X.out O _ Wd hOl hcr e⟩
        have HBB : Hid (Below w.heap.size w wr) := hb
        clear hb hR hcr hWd hRO hz0 hOl
        generalize decE (O ++ S) = er2 at *
        have HDC : Hid (∃ dc, dc = decide (Wd ≠ 0#32) ∧ ((dc = false ∧ er2 = 0) ∨ (dc = true ∧ er2 = 32))) := by
          rcases HER2.out with ⟨e, e2⟩ | ⟨e, e2⟩
          · exact ⟨_, rfl, .inl ⟨decide_eq_false (by simpa using e), e2⟩⟩
          · exact ⟨_, rfl, .inr ⟨decide_eq_true e, e2⟩⟩
        obtain ⟨dc, hdc, hcase⟩ := HDC.out
        rw [← hdc]
        clear HDC HER2 hdc
        have hstop : decide ((k : Int) < 32) = false ∨ ((k : Int) < 32 ∧ decide ((A2 : Int) + (k : Int) < (L8 : Int)) = false) := by
          by_cases h32 : k < 32
          · right; exact ⟨by omega, decide_eq_false (by omega)⟩
          · left; exact decide_eq_false (by omega)
        rcases hcase with ⟨rfl, rfl⟩ | ⟨rfl, rfl⟩ <;> rcases hstop with hs | ⟨hs, hs2⟩
        all_goals
          go_wp2_with (go_at_call 15; refine Calls.mono HD2.out ?_; rintro e w8 ⟨da2, dc2, ra2, rc2, ma2, mc2, c2, rfl, _, hb8, _, _, _⟩; have HB8 : Hid (Below w.heap.size w w8) := HBB.out.trans (hb8.mono HBB.out.size); clear hb8)
          go_ret
          exact ⟨rfl, HB8.out⟩

open Classical in
set_option maxHeartbeats 2000000 in
theorem told_unfit {w : World} {c : List Value} {f : Fr} {da ra ma : Option Addr} {dc rc mc : Nat} (h : FrAt w c f da dc ra rc ma mc) (hf : ¬fit f) (hT : CrcTab w) (hS : SizesTab w) (h2 : 2 ≤ w.heap.size) (v1 v2 v3 v4 : Value) :
    Calls Tryd.prog 6 #[.agg c.toArray, v1, v2, v3, v4] w fun e w' => e = .returned (.bool true) ∧ Below w.heap.size w w' := by
  have HF : Hid (FrAt w c f da dc ra rc ma mc) := h
  have HP : Hid (∀ W, Below w.heap.size w W → Calls Tryd.prog 9 #[] W fun e w' => e = .returned (.bool true) ∧ Below W.heap.size W w') := fun W hb => probe_any (hT.kept hb) (hS.kept hb) (Nat.le_trans h2 hb.size)
  have HE : Hid (∀ W, Below w.heap.size w W → Calls Tryd.prog 10 #[.agg c.toArray] W fun e w' => ∃ er : Int, er ≠ 0 ∧ e = .returned (.tuple #[.slice none 0 0, .int .i64 er]) ∧ Below W.heap.size W w') := fun W hb => enc_bad (HF.out.kept hb) hf
  have HR : Hid (∀ W, Below w.heap.size w W → Calls Tryd.prog 11 #[.agg c.toArray] W fun e w' => e = .returned (.bool false) ∧ Below W.heap.size W w') := fun W hb => by
    have := rfit_any (HF.out.kept hb); rw [decide_eq_false hf] at this; exact this
  obtain ⟨rfl, _⟩ := h
  clear hf hT hS h2
  go_enter Tryd.func6, Tryd.ntmps6
  go_upto_region 1 with (fail)
  refine wp_world fun W0 HWE => ?_
  have HQ0 : Hid (Row W0 w.heap.size (fcells f (.slice da f.data.length dc) (.slice ra f.ranges.length rc) (.slice ma f.mac.length mc)) 27) := by show Row _ _ _ _; rw [HWE.out]; exact Row.new' _ _ _ _ _ rfl rfl
  have HB0 : Hid (Below w.heap.size w W0) := by show Below _ _ _; rw [HWE.out]; exact (Below.refl _ _).alloc (Nat.le_refl _) _
  clear HWE
  go_wp2_with (first
    | (go_at_call 9; refine (HP.out _ HB0.out).mono ?_; rintro e w1 ⟨rfl, hb⟩; have HB1 : Hid _ := HB0.out.trans (hb.mono HB0.out.size); have HQ1 : Hid _ := HQ0.out.kept hb HQ0.out.lt; clear hb)
    | (show wpList _ _ _ (Oper.mk (some 22) (.load 27 (.tmp 5)) _ _ _ _ :: _) _ _; refine HQ1.out.wpLoad 27 (.tmp 5) rfl rfl rfl _ Tryd.underlying27 rfl i27 ?_)
    | (go_at_call 10; refine (HE.out _ HB1.out).mono ?_; rintro e w2 ⟨er, her, rfl, hb⟩; have HB2 : Hid _ := HB1.out.trans (hb.mono HB1.out.size); have HQ2 : Hid _ := HQ1.out.kept hb HQ1.out.lt; have e1 : (er != 0) = true := bne_iff_ne.2 her; clear hb)
    | (show wpList _ _ _ (Oper.mk (some 26) (.load 27 (.tmp 5)) _ _ _ _ :: _) _ _; refine HQ2.out.wpLoad 27 (.tmp 5) rfl rfl rfl _ Tryd.underlying27 rfl i27 ?_)
    | (go_at_call 11; refine (HR.out _ HB2.out).mono ?_; rintro e w3 ⟨rfl, hb⟩; have HB3 : Hid _ := HB2.out.trans (hb.mono HB2.out.size); clear hb))
  go_ret
  exact ⟨by first | rfl | (rw [e1]; rfl), HB3.out⟩

theorem told_law {w : World} {c : List Value} {f : Fr} {da ra ma : Option Addr} {dc rc mc : Nat} (h : FrAt w c f da dc ra rc ma mc) (hT : CrcTab w) (hS : SizesTab w) (h2 : 2 ≤ w.heap.size) (z z2 : Int) (mk : BitVec 8) (bt : BitVec 32) :
    Calls Tryd.prog 6 #[.agg c.toArray, .int .i64 z, .int .u8 (ub mk), .int .i64 z2, .int .u32 (u bt)] w fun e w' => e = .returned (.bool true) ∧ Below w.heap.size w w' := by
  by_cases hf : fit f
  · exact told_fit h hf hT hS h2 z z2 mk bt
  · exact told_unfit h hf hT hS h2 _ _ _ _
end Go.Proofs.YtgkfnbbgohdalaaDoor
