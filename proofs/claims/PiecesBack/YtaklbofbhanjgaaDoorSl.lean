import Derived.Test.YtaklbofbhanjgaaDoorEn1
namespace Go.Proofs.YtaklbofbhanjgaaDoor
open Go.RowKit
set_option maxRecDepth 100000
/-- What stands at a manifest's places. -/
def fldM (l : List (BitVec 8)) (k : Nat) : Mf := ⟨strOf ((l.drop 5).take k), (numL ((l.drop (5 + k)).take 4) : Int), (numL ((l.drop (9 + k)).take 4) : Int), (l.drop (13 + k)).take 32⟩
/-- A manifest that was read: 0 and it, or 223. -/
def decB (l : List (BitVec 8)) : Option Mf :=
  if l.length < 49 ∨ ¬ l.length = 49 + (l.getD 4 0#8).toNat then none
  else if fitE (fldM l (l.getD 4 0#8).toNat) = 0 ∧ encB (fldM l (l.getD 4 0#8).toNat) = l then some (fldM l (l.getD 4 0#8).toNat) else none
theorem numL_be4 {n : Nat} (h : n < 4294967296) : numL (be4 (BitVec.ofNat 32 n)) = n := by
  unfold numL be4
  simp only [List.foldl_cons, List.foldl_nil, BitVec.toNat_setWidth, BitVec.toNat_ushiftRight, BitVec.toNat_ofNat, Nat.shiftRight_eq_div_pow]
  omega
theorem strOf_bs (s : ByteArray) : strOf (bsOf s) = s := by
  unfold strOf bsOf
  rw [ByteArray.toList_eq, List.map_map]
  have : (UInt8.ofBitVec ∘ UInt8.toBitVec) = id := by funext x; rfl
  rw [this, List.map_id]
theorem magic_len : magicB.length = 4 := rfl
theorem preB_len {m : Mf} (h : m.rt.length = 32) : (preB m).length = 45 + m.nm.size := by
  simp [preB, magic_len, be4_len, bsOf_len, h]; omega
theorem encB_len {m : Mf} (h : m.rt.length = 32) : (encB m).length = 49 + m.nm.size := by
  simp [encB, preB_len h, be4_len]; omega
theorem enc_drop5 (m : Mf) (X : List (BitVec 8)) : (encB m ++ X).drop 5 = bsOf m.nm ++ (be4 (BitVec.ofNat 32 m.sz.toNat) ++ (be4 (BitVec.ofNat 32 m.pc.toNat) ++ (m.rt ++ (be4 (crc (preB m)) ++ X)))) := by
  unfold encB
  generalize crc (preB m) = C
  unfold preB magicB
  simp
theorem fld_enc {m : Mf} (hr : m.rt.length = 32) (hE : fitE m = 0) : fldM (encB m) m.nm.size = m := by
  obtain ⟨hn, a1, a2, a3, a4⟩ := fitE_ok hE
  have h5 := enc_drop5 m []
  rw [List.append_nil] at h5
  have hl := bsOf_len m.nm
  have d1 : (encB m).drop (5 + m.nm.size) = be4 (BitVec.ofNat 32 m.sz.toNat) ++ (be4 (BitVec.ofNat 32 m.pc.toNat) ++ (m.rt ++ (be4 (crc (preB m)) ++ []))) := by
    rw [← List.drop_drop, h5, List.drop_append_of_le_length (by omega), ← hl, List.drop_length, List.nil_append]
  have d2 : (encB m).drop (9 + m.nm.size) = be4 (BitVec.ofNat 32 m.pc.toNat) ++ (m.rt ++ (be4 (crc (preB m)) ++ [])) := by
    rw [show 9 + m.nm.size = (5 + m.nm.size) + 4 by omega, ← List.drop_drop, d1]; rfl
  have d3 : (encB m).drop (13 + m.nm.size) = m.rt ++ (be4 (crc (preB m)) ++ []) := by
    rw [show 13 + m.nm.size = (9 + m.nm.size) + 4 by omega, ← List.drop_drop, d2]; rfl
  unfold fldM
  rw [h5, d1, d2, d3, List.take_append_of_le_length (by omega), ← hl, List.take_length, strOf_bs]
  have e3 : (m.rt ++ (be4 (crc (preB m)) ++ [])).take 32 = m.rt := by rw [List.take_append_of_le_length (by omega), List.take_of_length_le (by omega)]
  have e1 : (be4 (BitVec.ofNat 32 m.sz.toNat) ++ (be4 (BitVec.ofNat 32 m.pc.toNat) ++ (m.rt ++ (be4 (crc (preB m)) ++ [])))).take 4 = be4 (BitVec.ofNat 32 m.sz.toNat) := rfl
  have e2 : (be4 (BitVec.ofNat 32 m.pc.toNat) ++ (m.rt ++ (be4 (crc (preB m)) ++ []))).take 4 = be4 (BitVec.ofNat 32 m.pc.toNat) := rfl
  rw [e1, e2, e3, numL_be4 (by omega), numL_be4 (by omega)]
  obtain ⟨nm, sz, pc, rt⟩ := m
  dsimp only at a1 a3 ⊢
  rw [Int.toNat_of_nonneg a3, Int.toNat_of_nonneg (by omega)]
theorem named_le {m : Mf} (hE : fitE m = 0) : m.nm.size ≤ 255 := by
  have hnm := (fitE_ok hE).1
  unfold namedB at hnm
  simp at hnm
  omega
/-- There and back. -/
theorem dec_enc {m : Mf} (hr : m.rt.length = 32) (hE : fitE m = 0) : decB (encB m) = some m := by
  have h4 : ((encB m).getD 4 0#8).toNat = m.nm.size := by
    have : (encB m).getD 4 0#8 = BitVec.ofNat 8 m.nm.size := by
      unfold encB
      generalize crc (preB m) = C
      unfold preB magicB
      rfl
    rw [this, BitVec.toNat_ofNat]
    have := named_le hE
    omega
  have hl := encB_len hr
  unfold decB
  rw [h4, fld_enc hr hE, if_neg (by omega), if_pos ⟨hE, rfl⟩]
theorem dec_some {l : List (BitVec 8)} {m : Mf} (h : decB l = some m) : fitE m = 0 ∧ encB m = l := by
  unfold decB at h
  split at h
  · cases h
  · split at h
    · rename_i h2
      cases h
      exact h2
    · cases h
end Go.Proofs.YtaklbofbhanjgaaDoor
namespace Go.Proofs.YtaklbofbhanjgaaDoor
open Go.RowKit
set_option maxRecDepth 100000
theorem slcA {w : World} {g o n c lo hi : Nat} (h1 : lo ≤ hi) (h2 : hi ≤ c) (h3 : lo < c) : (Instr.sliceAt 22 (.slice (some ⟨g, o, none⟩) n c) (some (.int .i64 (lo : Int))) (some (.int .i64 (hi : Int))) none).run Tryd.prog w = .ok (.slice (some ⟨g, o + lo, none⟩) (hi - lo) (c - lo)) w := by
  have q1 : (0 : Int) ≤ hi ∧ (hi : Int) ≤ c := by omega
  have q2 : (0 : Int) ≤ lo ∧ (lo : Int) ≤ hi := by omega
  have q3 : ¬ c = lo := by omega
  go_simp
theorem slc5 {w : World} {g o n c hi : Nat} (h1 : 5 ≤ hi) (h2 : hi ≤ c) (h3 : 5 < c) : (Instr.sliceAt 22 (.slice (some ⟨g, o, none⟩) n c) (some (.int .i64 5)) (some (.int .i64 (hi : Int))) none).run Tryd.prog w = .ok (.slice (some ⟨g, o + 5, none⟩) (hi - 5) (c - 5)) w := slcA (lo := 5) h1 h2 h3
end Go.Proofs.YtaklbofbhanjgaaDoor
