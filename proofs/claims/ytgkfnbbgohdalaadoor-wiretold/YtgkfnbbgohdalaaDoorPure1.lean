import Derived.Test.YtgkfnbbgohdalaaDoorPure0
namespace Go.Proofs.YtgkfnbbgohdalaaDoor
open Go.RowKit

def flagB (b : Bool) : BitVec 8 := if b then 1#8 else 0#8
/-- The ranges as bytes. -/
def rangesB (l : List (Nat × Nat)) : List (BitVec 8) := (l.map fun r => be 8 r.1 ++ be 8 r.2).flatten
/-- A frame's fields as bytes. -/
def fieldsB (f : Fr) : List (BitVec 8) :=
  if f.kind = 1 then be 8 f.num ++ be 8 f.off ++ be 2 f.data.length ++ f.data
  else if f.kind = 2 then be 8 f.num ++ be 8 f.off
  else if f.kind = 3 then be 8 f.num
  else if f.kind = 4 then BitVec.ofNat 8 f.ranges.length :: rangesB f.ranges
  else if f.kind = 5 then be 8 f.off ++ be 8 f.edge
  else if f.kind = 6 then be 4 f.token
  else if f.kind = 7 then be 4 f.token ++ be 4 f.nonce ++ [flagB f.backup]
  else if f.kind = 8 then be 4 f.nonce ++ f.mac
  else if f.kind = 9 then f.mac
  else if f.kind = 10 then [flagB f.backup]
  else [BitVec.ofInt 8 f.which]
def bodyB (f : Fr) : List (BitVec 8) := BitVec.ofInt 8 f.kind :: BitVec.ofInt 8 f.path :: fieldsB f
/-- A frame's bytes. -/
def enc (f : Fr) : List (BitVec 8) := bodyB f ++ be 4 (crc (bodyB f)).toNat

/-- The bytes from i on, n of them. -/
def cut (b : List (BitVec 8)) (i n : Nat) : List (BitVec 8) := (b.drop i).take n
/-- Ranges out of bytes. -/
def rangesN : Nat → List (BitVec 8) → List (Nat × Nat)
  | 0, _ => []
  | n + 1, b => (val (b.take 8), val ((b.drop 8).take 8)) :: rangesN n (b.drop 16)
def byte (b : List (BitVec 8)) (i : Nat) : BitVec 8 := b.getD i 0#8
/-- What is read of bytes. -/
def rdf (b : List (BitVec 8)) : Fr :=
  let z : Fr := { Fr.zero with kind := (byte b 0).toNat, path := (byte b 1).toNat }
  if byte b 0 = 1#8 then { z with data := cut b 20 (b.length - 24), off := val (cut b 10 8), num := val (cut b 2 8) }
  else if byte b 0 = 2#8 then { z with off := val (cut b 10 8), num := val (cut b 2 8) }
  else if byte b 0 = 3#8 then { z with num := val (cut b 2 8) }
  else if byte b 0 = 4#8 then { z with ranges := rangesN ((b.length - 7) / 16) (cut b 3 (b.length - 7)) }
  else if byte b 0 = 5#8 then { z with off := val (cut b 2 8), edge := val (cut b 10 8) }
  else if byte b 0 = 6#8 then { z with token := val (cut b 2 4) }
  else if byte b 0 = 7#8 then { z with nonce := val (cut b 6 4), backup := decide (byte b 10 = 1#8), token := val (cut b 2 4) }
  else if byte b 0 = 8#8 then { z with nonce := val (cut b 2 4), mac := cut b 6 8 }
  else if byte b 0 = 9#8 then { z with mac := cut b 2 20 }
  else if byte b 0 = 10#8 then { z with backup := decide (byte b 2 = 1#8) }
  else { z with which := (byte b 2).toNat }
/-- How many bytes must stand there. -/
def sizeB (b : List (BitVec 8)) : Nat :=
  if byte b 0 = 1#8 then (if b.length < 24 then 24 else 24 + val (cut b 18 2))
  else if byte b 0 = 2#8 then 22
  else if byte b 0 = 3#8 then 14
  else if byte b 0 = 4#8 then 7 + 16 * (byte b 2).toNat
  else if byte b 0 = 5#8 then 22
  else if byte b 0 = 6#8 then 10
  else if byte b 0 = 7#8 then 15
  else if byte b 0 = 8#8 then 18
  else if byte b 0 = 9#8 then 26
  else 7
def flaggedB (b : List (BitVec 8)) : Prop :=
  if byte b 0 = 7#8 then (byte b 10).toNat ≤ 1
  else if byte b 0 = 10#8 then (byte b 2).toNat ≤ 1
  else True
def summedB (b : List (BitVec 8)) : Prop := val (b.drop (b.length - 4)) = (crc (b.take (b.length - 4))).toNat
def knownB (b : List (BitVec 8)) : Prop := 0 < (byte b 0).toNat ∧ (byte b 0).toNat < 12
open Classical in
/-- What Decode answers. -/
noncomputable def decE (b : List (BitVec 8)) : Int :=
  if b.length < 7 then 30
  else if 1048 < b.length then 31
  else if ¬summedB b then 32
  else if ¬knownB b then 33
  else if ¬b.length = sizeB b then 34
  else if ¬flaggedB b then 35
  else if ¬fit (rdf b) then 35
  else 0
theorem decE_zero {b : List (BitVec 8)} (h : decE b = 0) : 7 ≤ b.length ∧ b.length ≤ 1048 ∧ summedB b ∧ knownB b ∧ b.length = sizeB b ∧ flaggedB b ∧ fit (rdf b) := by
  unfold decE at h
  split at h; · cases h
  split at h; · cases h
  split at h; · cases h
  split at h; · cases h
  split at h; · cases h
  split at h; · cases h
  split at h; · cases h
  refine ⟨by omega, by omega, by simpa using ‹¬¬summedB b›, by simpa using ‹¬¬knownB b›, by simpa using ‹¬¬(b.length = sizeB b)›, by simpa using ‹¬¬flaggedB b›, by simpa using ‹¬¬fit (rdf b)›⟩
theorem decE_of {b : List (BitVec 8)} (h1 : 7 ≤ b.length) (h2 : b.length ≤ 1048) (h3 : summedB b) (h4 : knownB b) (h5 : b.length = sizeB b) (h6 : flaggedB b) (h7 : fit (rdf b)) : decE b = 0 := by
  unfold decE
  rw [if_neg (by omega), if_neg (by omega), if_neg (by simpa using h3), if_neg (by simpa using h4), if_neg (by simpa using h5), if_neg (by simpa using h6), if_neg (by simpa using h7)]

theorem cut_len (b : List (BitVec 8)) (i n : Nat) (h : i + n ≤ b.length) : (cut b i n).length = n := by
  simp [cut]; omega
theorem be_cut (b : List (BitVec 8)) (i n : Nat) (h : i + n ≤ b.length) : be n (val (cut b i n)) = cut b i n := be_val' _ _ (cut_len b i n h)
theorem cut_cut (b : List (BitVec 8)) (i n m : Nat) : cut b i n ++ cut b (i + n) m = cut b i (n + m) := by
  unfold cut
  rw [List.take_add, List.drop_drop]
theorem byte_cut (b : List (BitVec 8)) (i : Nat) (h : i < b.length) : [byte b i] = cut b i 1 := by
  unfold cut byte
  rw [List.getD_eq_getElem?_getD, List.getElem?_eq_getElem h, Option.getD_some, List.drop_eq_getElem_cons h]
  rfl
theorem byte_cons (b l : List (BitVec 8)) (i : Nat) (h : i < b.length) : byte b i :: l = cut b i 1 ++ l := by
  rw [← byte_cut b i h]; rfl
theorem ofInt_toNat (x : BitVec 8) : BitVec.ofInt 8 (x.toNat : Int) = x := by rw [BitVec.ofInt_natCast, BitVec.ofNat_toNat, BitVec.setWidth_eq]
theorem flag_of (x : BitVec 8) (h : x.toNat ≤ 1) : flagB (decide (x = 1#8)) = x := by
  have : ∀ x : BitVec 8, x.toNat ≤ 1 → flagB (decide (x = 1#8)) = x := by decide +kernel
  exact this x h
theorem rangesB_N (n : Nat) (b : List (BitVec 8)) (h : b.length = 16 * n) : rangesB (rangesN n b) = b := by
  induction n generalizing b with
  | zero => simp [rangesN, rangesB]; exact List.eq_nil_of_length_eq_zero (by simpa using h)
  | succ n ih =>
    have h1 : rangesB (rangesN (n + 1) b) = be 8 (val (b.take 8)) ++ be 8 (val ((b.drop 8).take 8)) ++ rangesB (rangesN n (b.drop 16)) := by
      simp [rangesB, rangesN]
    rw [h1, ih _ (by simp; omega), be_val' _ 8 (by simp; omega), be_val' _ 8 (by simp; omega), List.append_assoc]
    rw [show (16 : Nat) = 8 + 8 from rfl, ← List.drop_drop, List.take_append_drop, List.take_append_drop]
theorem rangesN_len (n : Nat) (b : List (BitVec 8)) : (rangesN n b).length = n := by
  induction n generalizing b with
  | zero => rfl
  | succ n ih => simp [rangesN, ih]

theorem ite_kind (P : Fr → Prop) (c : Prop) [Decidable c] (x y : Fr) (hx : P x) (hy : P y) : P (if c then x else y) := by split <;> assumption
theorem rdf_kind (b : List (BitVec 8)) : (rdf b).kind = ((byte b 0).toNat : Int) := by
  unfold rdf
  simp only
  repeat refine ite_kind (fun f => f.kind = ((byte b 0).toNat : Int)) _ _ _ rfl ?_
  rfl
theorem rdf_path (b : List (BitVec 8)) : (rdf b).path = ((byte b 1).toNat : Int) := by
  unfold rdf
  simp only
  repeat refine ite_kind (fun f => f.path = ((byte b 1).toNat : Int)) _ _ _ rfl ?_
  rfl
theorem byte_kinds {k : BitVec 8} (h : 0 < k.toNat ∧ k.toNat < 12) : k = 1#8 ∨ k = 2#8 ∨ k = 3#8 ∨ k = 4#8 ∨ k = 5#8 ∨ k = 6#8 ∨ k = 7#8 ∨ k = 8#8 ∨ k = 9#8 ∨ k = 10#8 ∨ k = 11#8 := by
  have : ∀ k : BitVec 8, 0 < k.toNat ∧ k.toNat < 12 → k = 1#8 ∨ k = 2#8 ∨ k = 3#8 ∨ k = 4#8 ∨ k = 5#8 ∨ k = 6#8 ∨ k = 7#8 ∨ k = 8#8 ∨ k = 9#8 ∨ k = 10#8 ∨ k = 11#8 := by decide +kernel
  exact this k h
/-- The body of what was read is what stood ahead of the sum. -/
theorem body_rdf {b : List (BitVec 8)} (h7 : 7 ≤ b.length) (hk : knownB b) (hs : b.length = sizeB b) (hf : flaggedB b) : bodyB (rdf b) = b.take (b.length - 4) := by
  have key : b.take (b.length - 4) = cut b 0 (b.length - 4) := by simp [cut]
  rw [key]
  obtain ⟨k, hkk⟩ : ∃ k, k = byte b 0 := ⟨_, rfl⟩
  have e0 : bodyB (rdf b) = byte b 0 :: byte b 1 :: fieldsB (rdf b) := by
    unfold bodyB
    rw [rdf_kind, rdf_path, ofInt_toNat, ofInt_toNat]
  have hcase := byte_kinds hk
  rw [← hkk] at hcase
  rw [e0, byte_cons b _ 0 (by omega), byte_cons b _ 1 (by omega), ← List.append_assoc, cut_cut]
  rcases hcase with rfl | rfl | rfl | rfl | rfl | rfl | rfl | rfl | rfl | rfl | rfl
  · have hlen : 24 ≤ b.length := by simp [sizeB, ← hkk] at hs; split at hs <;> omega
    have hl : b.length = 24 + val (cut b 18 2) := by simp [sizeB, ← hkk] at hs; split at hs <;> omega
    have : fieldsB (rdf b) = cut b 2 8 ++ cut b 10 8 ++ cut b 18 2 ++ cut b 20 (b.length - 24) := by
      have hd : (cut b 20 (b.length - 24)).length = val (cut b 18 2) := by rw [cut_len _ _ _ (by omega)]; omega
      simp [rdf, ← hkk, fieldsB, hd]
      rw [be_cut _ _ _ (by omega), be_cut _ _ _ (by omega), be_cut _ _ _ (by omega)]
    rw [this, cut_cut, cut_cut, cut_cut, cut_cut]
    congr 1; omega
  · have hl : b.length = 22 := by simpa [sizeB, ← hkk] using hs
    have : fieldsB (rdf b) = cut b 2 8 ++ cut b 10 8 := by
      simp [rdf, ← hkk, fieldsB]; rw [be_cut _ _ _ (by omega), be_cut _ _ _ (by omega)]
    rw [this, cut_cut, cut_cut, hl]
  · have hl : b.length = 14 := by simpa [sizeB, ← hkk] using hs
    have : fieldsB (rdf b) = cut b 2 8 := by
      simp [rdf, ← hkk, fieldsB]; rw [be_cut _ _ _ (by omega)]
    rw [this, cut_cut, hl]
  · have hl : b.length = 7 + 16 * (byte b 2).toNat := by simpa [sizeB, ← hkk] using hs
    have hn : (b.length - 7) / 16 = (byte b 2).toNat := by omega
    have : fieldsB (rdf b) = cut b 2 1 ++ cut b 3 (b.length - 7) := by
      simp [rdf, ← hkk, fieldsB]
      rw [rangesN_len, hn, BitVec.ofNat_toNat, BitVec.setWidth_eq, rangesB_N _ _ (by rw [cut_len _ _ _ (by omega)]; omega), byte_cons b _ 2 (by omega)]
    rw [this, cut_cut, cut_cut]
    congr 1; omega
  · have hl : b.length = 22 := by simpa [sizeB, ← hkk] using hs
    have : fieldsB (rdf b) = cut b 2 8 ++ cut b 10 8 := by
      simp [rdf, ← hkk, fieldsB]; rw [be_cut _ _ _ (by omega), be_cut _ _ _ (by omega)]
    rw [this, cut_cut, cut_cut, hl]
  · have hl : b.length = 10 := by simpa [sizeB, ← hkk] using hs
    have : fieldsB (rdf b) = cut b 2 4 := by
      simp [rdf, ← hkk, fieldsB]; rw [be_cut _ _ _ (by omega)]
    rw [this, cut_cut, hl]
  · have hl : b.length = 15 := by simpa [sizeB, ← hkk] using hs
    have hfl : (byte b 10).toNat ≤ 1 := by simpa [flaggedB, ← hkk] using hf
    have : fieldsB (rdf b) = cut b 2 4 ++ cut b 6 4 ++ cut b 10 1 := by
      simp [rdf, ← hkk, fieldsB]; rw [be_cut _ _ _ (by omega), be_cut _ _ _ (by omega), flag_of _ hfl, byte_cut b 10 (by omega)]
    rw [this, cut_cut, cut_cut, cut_cut, hl]
  · have hl : b.length = 18 := by simpa [sizeB, ← hkk] using hs
    have : fieldsB (rdf b) = cut b 2 4 ++ cut b 6 8 := by
      simp [rdf, ← hkk, fieldsB]; rw [be_cut _ _ _ (by omega)]
    rw [this, cut_cut, cut_cut, hl]
  · have hl : b.length = 26 := by simpa [sizeB, ← hkk] using hs
    have : fieldsB (rdf b) = cut b 2 20 := by simp [rdf, ← hkk, fieldsB]
    rw [this, cut_cut, hl]
  · have hl : b.length = 7 := by simpa [sizeB, ← hkk] using hs
    have hfl : (byte b 2).toNat ≤ 1 := by simpa [flaggedB, ← hkk] using hf
    have : fieldsB (rdf b) = cut b 2 1 := by
      simp [rdf, ← hkk, fieldsB]; rw [flag_of _ hfl, byte_cut b 2 (by omega)]
    rw [this, cut_cut, hl]
  · have hl : b.length = 7 := by simpa [sizeB, ← hkk] using hs
    have : fieldsB (rdf b) = cut b 2 1 := by
      simp [rdf, ← hkk, fieldsB]; rw [← byte_cut b 2 (by omega), ← ofInt_toNat (byte b 2), BitVec.ofInt_natCast]
    rw [this, cut_cut, hl]

/-- Bytes that are taken are those that are written of what was read. -/
theorem enc_rdf {b : List (BitVec 8)} (h : decE b = 0) : enc (rdf b) = b := by
  obtain ⟨h7, _, hs, hk, hz, hf, _⟩ := decE_zero h
  unfold enc
  rw [body_rdf h7 hk hz hf, ← hs, be_val' _ 4 (by simp; omega), List.take_append_drop]
end Go.Proofs.YtgkfnbbgohdalaaDoor
