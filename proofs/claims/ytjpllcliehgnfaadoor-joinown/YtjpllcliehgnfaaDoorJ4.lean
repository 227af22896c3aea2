import Derived.Test.YtjpllcliehgnfaaDoorJ3
namespace Go.Proofs.YtjpllcliehgnfaaDoor
open Go.RowKit
set_option maxRecDepth 100000

set_option maxHeartbeats 1000000 in
/-- proof(k1, k2, n1, n2) -/
theorem proof_any {w : World} (k1 k2 : Nat) (n1 n2 : BitVec 32) (hK : KTab w) (h2 : 1 ≤ w.heap.size) :
    Calls Tryd.prog 51 #[.int .u64 (k1 : Int), .int .u64 (k2 : Int), .int .u32 (u n1), .int .u32 (u n2)] w fun e w' => e = .returned (.agg (bcells (proofL k1 k2 n1 n2)).toArray) ∧ Below w.heap.size w w' := by
  have HK := hid hK
  have H2 := hid h2
  have I73 := hid i44
  have HLP := hid (proofL_len k1 k2 n1 n2)
  clear hK h2
  go_enter Tryd.func51, Tryd.ntmps51
  go_upto_region 1 with fail
  refine wp_world fun wa HW => ?_
  have HRr : Hid (Row wa w.heap.size (bcells z32) 73) := by show Row _ _ _ _; rw [HW.out]; exact Row.new' _ _ _ _ _ rfl rfl
  have HBa : Hid (Below w.heap.size w wa) := by show Below _ _ _; rw [HW.out]; exact (Below.refl _ _).alloc (Nat.le_refl _) _
  have HKa : Hid (KTab wa) := HK.out.kept HBa.out
  have H2a : Hid (1 ≤ wa.heap.size) := by show 1 ≤ wa.heap.size; have := HRr.out.lt; have := H2.out; omega
  clear HW HK H2
  go_wp2_with (first
    | (go_at_call_of 50 (Value.int IntKind.u64 (k1 : Int)); refine (jeight_any _ k1).mono ?_; rintro e w1 ⟨v1, rfl, ho1, hb1⟩; have HO1 := hid ho1; have HB1 := hid hb1; clear ho1 hb1)
    | (go_at_call_of 50 (Value.int IntKind.u64 (k2 : Int)); refine (jeight_any _ k2).mono ?_; rintro e w2 ⟨v2, rfl, ho2, hb2⟩
       obtain ⟨g2, c2, rfl, _, _, hby, _⟩ := ho2.some (by rw [keyB_len]; decide)
       have HY2 := hid hby
       have HO2 := hid ((HO1.out.kept hb2).less (Nat.le_refl _))
       have HB2 := hid (HB1.out.trans (hb2.mono HB1.out.size))
       clear ho2 hb2 hby HO1 HB1)
    | (at_builtin; refine wpAppendB (.tmp 10) (.tmp 12) rfl rfl (B := wa.heap.size) (xs := keyB k1) (ys := keyB k2) rfl HO2.out rfl rfl HY2.out (by rw [keyB_len, keyB_len]; decide) HB2.out.size fun w3 v3 HO3 HB3 => ?_
       have HB3a := hid (HB2.out.trans HB3.out)
       obtain ⟨g3, c3, rfl, hg3, _, hby3, hl3, hm3⟩ := OwnB.some (show OwnB w3 wa.heap.size v3 (keyB k1 ++ keyB k2) from HO3.out) (by rw [List.length_append, keyB_len]; omega)
       have HY3 := hid hby3
       have HL3 := hid (And.intro hl3 hm3)
       clear hby3 hl3 hm3 HO3 HB3 HY2 HO2 HB2)
    | (go_at_call_of 59 (Value.int IntKind.u32 (u n1)); refine (four_any _ n1).mono ?_; rintro e w4 ⟨rfl, hw4⟩
       have HY4 : Hid (BytesAt w4 (some ⟨w3.heap.size, 0, none⟩) (fourL n1)) := by
         show BytesAt _ _ _
         rw [hw4]
         exact (Row.new _ (bcells (fourL n1)) 5).bytesAt
       have HB4 : Hid (Below w3.heap.size w3 w4) := by show Below _ _ _; rw [hw4]; exact below_new _ _
       clear hw4)
    | (go_at_call_of 59 (Value.int IntKind.u32 (u n2)); refine (four_any _ n2).mono ?_; rintro e w5 ⟨rfl, hw5⟩
       have HY5 : Hid (BytesAt w5 (some ⟨w4.heap.size, 0, none⟩) (fourL n2)) := by
         show BytesAt _ _ _
         rw [hw5]
         exact (Row.new _ (bcells (fourL n2)) 5).bytesAt
       have HB5 : Hid (Below w4.heap.size w4 w5) := by show Below _ _ _; rw [hw5]; exact below_new _ _
       clear hw5)
    | (go_at_call 60
       have bq : Below w5.heap.size w5 (w5.alloc (.cells #[.slice (some ⟨w3.heap.size, 0, none⟩) 4 4, .slice (some ⟨w4.heap.size, 0, none⟩) 4 4] 25)) := below_new _ _
       have b35 : Below w3.heap.size w3 w5 := HB4.out.trans (HB5.out.mono HB4.out.size)
       have b36 := b35.trans (bq.mono b35.size)
       have ba6 := HB3a.out.trans (b36.mono HB3a.out.size)
       have hP : PartsC (w5.alloc (.cells #[.slice (some ⟨w3.heap.size, 0, none⟩) 4 4, .slice (some ⟨w4.heap.size, 0, none⟩) 4 4] 25)) (some ⟨w5.heap.size, 0, none⟩) [fourL n1, fourL n2] := by
         intro k hk
         have hk2 : k < 2 := by simpa using hk
         rcases (show k = 0 ∨ k = 1 by omega) with rfl | rfl
         · exact ⟨w5.heap.size, 0, _, 4, rfl, by simp [fourL], (HY4.out.kept HB5.out).kept bq, by simp [fourL], by decide⟩
         · exact ⟨w5.heap.size, 0, _, 4, rfl, by simp [fourL], HY5.out.kept bq, by simp [fourL], by decide⟩
       refine (mac_any (bs := keyB k1 ++ keyB k2) (ps := [fourL n1, fourL n2]) (HY3.out.kept b36) HL3.out.1 (by intro h; rw [List.length_append, keyB_len, keyB_len] at h; omega) hP (by simp) (HKa.out.kept ba6) (Nat.le_trans H2a.out ba6.size)).mono ?_
       rintro e w6 ⟨rfl, hb6⟩
       have HB6 := hid (ba6.trans (hb6.mono ba6.size))
       have HE6 : Hid (macL (keyB k1 ++ keyB k2) [fourL n1, fourL n2].flatten = proofL k1 k2 n1 n2) := by show _ = _; simp [proofL]
       rw [HE6.out]
       clear bq b35 b36 ba6 hP hb6 HE6)
    | (show wpList _ _ _ (Oper.mk none (.store 73 (.tmp 8) (.tmp 19)) _ _ _ _ :: _) _ _; refine (HRr.out.kept HB6.out HRr.out.lt).wpStore' 73 (.tmp 8) (.tmp 19) (bcells (proofL k1 k2 n1 n2)) rfl rfl rfl rfl (by rw [bcells_len, bcells_len, HLP.out]; rfl) (bcells_one _) (by rw [bcells_len, HLP.out]; exact I73.out) ?_; intro wz HZ))
  have R : Row wz w.heap.size (bcells (proofL k1 k2 n1 n2)) 73 := by rw [HZ.out]; exact (HRr.out.kept HB6.out HRr.out.lt).row _
  have hB : Below w.heap.size w wz := by rw [HZ.out]; exact Go.below_setRow (HBa.out.trans (HB6.out.mono HBa.out.size)) (Nat.le_refl _) _
  exact bodyPost_ret (v := .agg (bcells (proofL k1 k2 n1 n2)).toArray) (R.result Tryd.results51 _ rfl _ Tryd.underlying73 rfl (by rw [bcells_len, HLP.out]; exact I73.out)) rfl ⟨rfl, hB⟩
end Go.Proofs.YtjpllcliehgnfaaDoor
