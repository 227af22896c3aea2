import Derived.Test.YtfhjiggaacgncaaDoorJr4
namespace Go.Proofs.YtfhjiggaacgncaaDoor
open Go.RowKit Go.Maps Go.Sort
set_option maxRecDepth 100000

theorem be4_val (n : Nat) (h : n < 4294967296) : val (be n 4) = n := by
  simp only [be, val, List.foldl_cons, List.foldl_nil, BitVec.toNat_ofNat]
  omega
/-- A record that may be. -/
def Fine (x : BitVec 8 × List (BitVec 8)) : Prop := x.1 ≠ 0#8 ∧ x.2.length ≤ 65536
theorem recL_front (i : Nat) (k : BitVec 8) (b : List (BitVec 8)) : ∃ t, recL i k b = be (b.length + 1) 4 ++ t := ⟨be i 8 ++ [k] ++ b ++ be (crc (recX i k b)).toNat 4 ++ [165#8], by simp [recL, recX]⟩
theorem recL_take4 (i : Nat) (k : BitVec 8) (b : List (BitVec 8)) : (recL i k b).take 4 = be (b.length + 1) 4 := by
  obtain ⟨t, ht⟩ := recL_front i k b
  rw [ht, List.take_left' (be_len _ _)]
theorem recL_12 (i : Nat) (k : BitVec 8) (b : List (BitVec 8)) : (recL i k b)[12]? = some k := by
  have : recL i k b = (be (b.length + 1) 4 ++ be i 8) ++ (k :: (b ++ be (crc (recX i k b)).toNat 4 ++ [165#8])) := by simp [recL, recX]
  rw [this, List.getElem?_append_right (by simp [be_len])]
  simp [be_len]
theorem recL_body (i : Nat) (k : BitVec 8) (b : List (BitVec 8)) : ((recL i k b).drop 13).take b.length = b := by
  have : recL i k b = (be (b.length + 1) 4 ++ be i 8 ++ [k]) ++ (b ++ (be (crc (recX i k b)).toNat 4 ++ [165#8])) := by simp [recL, recX]
  rw [this, List.drop_left' (by simp [be_len]), List.take_left']
  rfl
theorem recL_last (i : Nat) (k : BitVec 8) (b : List (BitVec 8)) : (recL i k b)[17 + b.length]? = some 165#8 := by
  have hl : (recX i k b ++ be (crc (recX i k b)).toNat 4).length = 17 + b.length := by rw [List.length_append, recX_len, be_len]; omega
  rw [recL, List.getElem?_append_right (by rw [hl]; exact Nat.le_refl _), hl]
  simp
/-- A record is found where it lies. -/
theorem rightP_rec (i : Nat) (x : BitVec 8 × List (BitVec 8)) (hx : Fine x) (t : List (BitVec 8)) : rightP (recL i x.1 x.2 ++ t) i = some x := by
  obtain ⟨k, b⟩ := x
  obtain ⟨hk, hb⟩ := hx
  simp only at hk hb ⊢
  have hl := recL_len i k b
  have h4 : ((recL i k b ++ t).take 4) = be (b.length + 1) 4 := by rw [List.take_append_of_le_length (by omega), recL_take4]
  have hr : reachP (recL i k b ++ t) = some (18 + b.length) := by
    unfold reachP
    rw [h4, be4_val _ (by omega), List.length_append, hl, if_neg (by omega), if_neg (by omega)]
    congr 1
    omega
  have h12 : (recL i k b ++ t)[12]?.getD 0#8 = k := by rw [List.getElem?_append_left (by omega), recL_12]; rfl
  have hbd : ((recL i k b ++ t).drop 13).take b.length = b := by
    rw [List.drop_append_of_le_length (by omega), List.take_append_of_le_length (by simp; omega), recL_body]
  unfold rightP
  rw [hr]
  simp only
  rw [h12, Nat.add_sub_cancel_left, hbd, if_pos ⟨hk, by rw [List.take_left' (by omega)]⟩]
/-- A record that is torn is none. -/
theorem rightP_torn (i j : Nat) (k : BitVec 8) (b : List (BitVec 8)) (hb : b.length ≤ 65536) (n m : Nat) (hn : n < 18 + b.length) : rightP ((recL j k b).take n ++ z m) i = none := by
  have hl := recL_len j k b
  have htl : ((recL j k b).take n).length = n := by rw [List.length_take]; omega
  unfold rightP
  cases hr : reachP ((recL j k b).take n ++ z m) with
  | none => rfl
  | some r =>
    simp only
    refine if_neg ?_
    rintro ⟨h12, heq⟩
    obtain ⟨r1, r2, _⟩ := reachP_bd hr
    by_cases h13 : n ≤ 12
    · refine h12 ?_
      rw [List.getElem?_append_right (by omega)]
      cases hz : (z m)[12 - ((recL j k b).take n).length]? with
      | none => rfl
      | some y =>
        have := List.mem_of_getElem? hz
        rw [z, List.mem_replicate] at this
        rw [this.2]
        rfl
    · have h4 : (((recL j k b).take n ++ z m).take 4) = be (b.length + 1) 4 := by
        rw [List.take_append_of_le_length (by omega), List.take_take, Nat.min_eq_left (by omega), recL_take4]
      have hr2 : r = 18 + b.length := by
        unfold reachP at hr
        rw [h4, be4_val _ (by omega)] at hr
        split at hr
        · cases hr
        · split at hr
          · cases hr
          · injection hr with hr
            omega
      subst hr2
      rw [List.length_append, htl, z_len] at r2
      have hbl : ((((recL j k b).take n ++ z m).drop 13).take (18 + b.length - 18)).length = b.length := by
        rw [List.length_take, List.length_drop, List.length_append, htl, z_len]
        omega
      have h1 : (recL i (((recL j k b).take n ++ z m)[12]?.getD 0#8) ((((recL j k b).take n ++ z m).drop 13).take (18 + b.length - 18)))[17 + b.length]? = (((recL j k b).take n ++ z m).take (18 + b.length))[17 + b.length]? := by rw [heq]
      have h2 := recL_last i (((recL j k b).take n ++ z m)[12]?.getD 0#8) ((((recL j k b).take n ++ z m).drop 13).take (18 + b.length - 18))
      rw [hbl] at h2
      rw [h2, List.getElem?_take, if_pos (by omega), List.getElem?_append_right (by omega)] at h1
      have h3 := List.mem_of_getElem? h1.symm
      rw [z, List.mem_replicate] at h3
      exact absurd h3.2 (by decide)
theorem rightP_zero (i m : Nat) : rightP (z m) i = none := by
  have := rightP_torn i 0 1#8 [] (by simp) 0 m (by simp)
  simpa using this
/-- Records side by side, numbered from i on. -/
def enc : Nat → List (BitVec 8 × List (BitVec 8)) → List (BitVec 8)
  | _, [] => []
  | i, x :: r => recL i x.1 x.2 ++ enc (i + 1) r
theorem enc_app : ∀ (i : Nat) (A B : List (BitVec 8 × List (BitVec 8))), enc i (A ++ B) = enc i A ++ enc (i + A.length) B
  | i, [], B => rfl
  | i, x :: r, B => by rw [List.cons_append, enc, enc, enc_app (i + 1) r B, List.append_assoc, List.length_cons, show i + 1 + r.length = i + (r.length + 1) by omega]
theorem enc_len : ∀ (i : Nat) (A : List (BitVec 8 × List (BitVec 8))), (enc i A).length = (A.map fun x => 18 + x.2.length).sum
  | _, [] => rfl
  | i, x :: r => by rw [enc, List.length_append, recL_len, enc_len (i + 1) r]; rfl
end Go.Proofs.YtfhjiggaacgncaaDoor
