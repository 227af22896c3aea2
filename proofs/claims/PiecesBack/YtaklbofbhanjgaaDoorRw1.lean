import Derived.Test.YtaklbofbhanjgaaDoorRw0
namespace Go.Proofs.YtaklbofbhanjgaaDoor
open Go.RowKit
set_option maxRecDepth 100000
/-- The root over a row of digests. -/
def rootL (P : List (List (BitVec 8))) : List (BitVec 8) := overF P P.length 0 P.length
theorem rootL_len {P : List (List (BitVec 8))} (hP : ∀ x ∈ P, x.length = 32) : (rootL P).length = 32 := overF_len hP _ _ _ (Nat.zero_le _)
set_option maxHeartbeats 2000000 in
theorem root_any {a : Option Addr} {c : Nat} {P : List (List (BitVec 8))} {w : World} (hP : ∀ x ∈ P, x.length = 32) (hl : P.length ≤ 4611686018427387904) (hS : SumsAt w a P) (hK : KTab w) (h2 : 2 ≤ w.heap.size) :
    Calls Tryd.prog 12 #[.slice a P.length c] w fun e w' => e = .returned (.agg (bcells (rootL P)).toArray) ∧ Below w.heap.size w w' := by
  have I73 := hid i44
  have HC := hid (fun (wa : World) (hb : Below w.heap.size w wa) => row_over (a := a) (c := c) hP hl P.length 0 P.length wa (Nat.zero_le _) (by omega) (Nat.le_refl _) (hS.kept hb) (hK.kept hb) (Nat.le_trans h2 hb.size))
  have HE : Hid ((overF P P.length 0 P.length).length = 32) := rootL_len hP
  have q3 : (P.length : Int) ≤ 4611686018427387904 := by omega
  obtain ⟨E, hE⟩ : ∃ E, overF P P.length 0 P.length = E := ⟨_, rfl⟩
  have HEE : Hid (rootL P = E) := hE
  rw [hE] at HC HE
  clear hE hP hl hS hK h2
  go_enter Tryd.func12, Tryd.ntmps12
  go_upto_region 1 with (fail)
  refine wp_world fun wa HW => ?_
  have HRr : Hid (Row wa w.heap.size (bcells z32) 25) := by show Row _ _ _ _; rw [HW.out]; exact Row.new' _ _ _ _ _ rfl rfl
  have HBa : Hid (Below w.heap.size w wa) := by show Below _ _ _; rw [HW.out]; exact (Below.refl _ _).alloc (Nat.le_refl _) _
  clear HW
  have HCa := hid (HC.out wa HBa.out)
  go_wp2_with (first
    | (go_at_call 39; refine Calls.mono HCa.out ?_; rintro e w2 ⟨rfl, hb2⟩
       have HB2 := hid hb2
       have HR2 : Hid (Row w2 w.heap.size (bcells z32) 25) := hid (HRr.out.kept hb2 HRr.out.lt)
       clear hb2)
    | (show wpList _ _ _ (Oper.mk none (.store 25 (.tmp 2) (.tmp 6)) _ _ _ _ :: _) _ _; refine HR2.out.wpStore' 25 (.tmp 2) (.tmp 6) (bcells E) rfl rfl rfl rfl (by rw [bcells_len, bcells_len, HE.out]; rfl) (bcells_one _) (by rw [bcells_len, HE.out]; exact I73.out) ?_; intro wz HZ))
  have R : Row wz w.heap.size (bcells E) 25 := by rw [HZ.out]; exact HR2.out.row _
  have hB : Below w.heap.size w wz := by rw [HZ.out]; exact Go.below_setRow (HBa.out.trans (HB2.out.mono HBa.out.size)) (Nat.le_refl _) _
  exact bodyPost_ret (v := .agg (bcells E).toArray) (R.result Tryd.results12 _ rfl _ Tryd.underlying25 rfl (by rw [bcells_len, HE.out]; exact I73.out)) rfl ⟨by rw [HEE.out], hB⟩
end Go.Proofs.YtaklbofbhanjgaaDoor
