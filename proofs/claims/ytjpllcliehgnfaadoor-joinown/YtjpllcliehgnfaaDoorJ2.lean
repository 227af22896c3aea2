import Derived.Test.YtjpllcliehgnfaaDoorJ1
namespace Go.Proofs.YtjpllcliehgnfaaDoor
open Go.RowKit
set_option maxRecDepth 100000

set_option maxHeartbeats 600000 in
theorem keySum_any {w : World} (N : Nat) (hN : N < 18446744073709551616) (hK : KTab w) (h2 : 1 ≤ w.heap.size) :
    Calls Tryd.prog 47 #[.int .u64 (N : Int)] w fun e w' => e = .returned (.agg (bcells (sha (eightL N))).toArray) ∧ Below w.heap.size w w' := by
  have HK : Hid (KTab w) := hK
  have H2 : Hid _ := h2
  have HN : Hid _ := hN
  have I73 : Hid _ := i44
  have i87 : (Tryd.prog.info? 87).map (·.size) = some 8 := by kernel_rfl
  have I87 : Hid _ := i87
  have LE : Hid ((eightL N).length = 8) := by show (eightL N).length = 8; simp [eightL]
  clear hK h2 hN i87
  go_enter Tryd.func47, Tryd.ntmps47
  go_upto_region 1 with (fail)
  refine wp_world fun wa HW => ?_
  have HRr : Hid (Row wa w.heap.size (bcells z32) 73) := by show Row _ _ _ _; rw [HW.out]; exact Row.new' _ _ _ _ _ rfl rfl
  have HBa : Hid (Below w.heap.size w wa) := by show Below _ _ _; rw [HW.out]; exact (Below.refl _ _).alloc (Nat.le_refl _) _
  clear HW
  go_upto_region 2 with (first
    | (go_at_call 55; refine (eight_any _ N HN.out).mono ?_; rintro e w1 ⟨rfl, hb1⟩; have HB1 : Hid _ := hb1; clear hb1)
    | (show wpList _ _ _ (Oper.mk none (.store 87 (.tmp 3) (.tmp 5)) _ _ _ _ :: _) _ _; refine (Row.new' w1 _ (bcells (e8 0 0)) 87 _ rfl rfl).wpStore' 87 (.tmp 3) (.tmp 5) (bcells (eightL N)) rfl rfl rfl rfl (by rw [bcells_len, bcells_len, LE.out]; rfl) (bcells_one _) (by rw [bcells_len, LE.out]; exact I87.out) ?_; intro wc HW))
  have HE : Hid (Row wc w1.heap.size (bcells (eightL N)) 87) := by show Row _ _ _ _; rw [HW.out]; exact (Row.new' w1 _ (bcells (e8 0 0)) 87 _ rfl rfl).row _
  have HBc : Hid (Below wa.heap.size wa wc) := by show Below _ _ _; rw [HW.out]; exact Go.below_setRow (HB1.out.alloc HB1.out.size _) HB1.out.size _
  have HRc : Hid (Row wc w.heap.size (bcells z32) 73) := HRr.out.kept HBc.out HRr.out.lt
  have HBw : Hid (Below w.heap.size w wc) := HBa.out.trans (HBc.out.mono HBa.out.size)
  clear HW HRr HBa HBc HB1
  generalize w1.heap.size = g at *
  have b1 : Below wc.heap.size wc (wc.alloc (.cells #[.slice (some ⟨g, 0, none⟩) 8 8] 25)) := (Below.refl _ _).alloc (Nat.le_refl _) _
  have HO : Hid (Calls Tryd.prog 49 #[.slice (some ⟨wc.heap.size, 0, none⟩) 1 1] (wc.alloc (.cells #[.slice (some ⟨g, 0, none⟩) 8 8] 25)) fun e w' => e = .returned (.agg (bcells (sha (eightL N))).toArray) ∧ Below (wc.alloc (.cells #[.slice (some ⟨g, 0, none⟩) 8 8] 25)).heap.size (wc.alloc (.cells #[.slice (some ⟨g, 0, none⟩) 8 8] 25)) w') := by
    have := of_any (cap := 1) (parts_one (w := wc.alloc (.cells #[.slice (some ⟨g, 0, none⟩) 8 8] 25)) (g := wc.heap.size) (ad := some ⟨g, 0, none⟩) (cap := 8) (bs := eightL N) (by rw [LE.out]; simp) (HE.out.bytesAt.kept b1) (by rw [LE.out]; exact Nat.le_refl _) (by decide)) (by simp) ((HK.out.kept HBw.out).kept b1) (by have h1 := H2.out; have h2 := HBw.out.size; have h3 := b1.size; omega)
    rw [show [eightL N].flatten = eightL N by simp] at this
    exact this
  have HB1 : Hid (Below w.heap.size w (wc.alloc (.cells #[.slice (some ⟨g, 0, none⟩) 8 8] 25))) := HBw.out.trans (b1.mono HBw.out.size)
  have HR1 : Hid (Row (wc.alloc (.cells #[.slice (some ⟨g, 0, none⟩) 8 8] 25)) w.heap.size (bcells z32) 73) := HRc.out.alloc _
  have HLS : Hid ((sha (eightL N)).length = 32) := sha_len _
  clear b1
  generalize hE : sha (eightL N) = E at *
  have HEE : Hid _ := hE
  clear hE
  simp only [Act.put]
  go_wp2_with (first
    | (go_at_call 49; refine Calls.mono HO.out ?_; rintro e w4 ⟨rfl, hb4⟩; have HB4 : Hid _ := hb4; clear hb4)
    | (show wpList _ _ _ (Oper.mk none (.store 73 (.tmp 2) (.tmp 8)) _ _ _ _ :: _) _ _; refine (HR1.out.kept HB4.out HR1.out.lt).wpStore' 73 (.tmp 2) (.tmp 8) (bcells E) rfl rfl rfl rfl (by rw [bcells_len, bcells_len, HLS.out]; rfl) (bcells_one _) (by rw [bcells_len, HLS.out]; exact I73.out) ?_; intro wz HZ))
  have R : Row wz w.heap.size (bcells E) 73 := by rw [HZ.out]; exact (HR1.out.kept HB4.out HR1.out.lt).row _
  have hB : Below w.heap.size w wz := by rw [HZ.out]; exact Go.below_setRow (HB1.out.trans (HB4.out.mono HB1.out.size)) (Nat.le_refl _) _
  exact bodyPost_ret (v := .agg (bcells E).toArray) (R.result Tryd.results47 _ rfl _ Tryd.underlying73 rfl (by rw [bcells_len, HLS.out]; exact I73.out)) rfl ⟨by rw [HEE.out], hB⟩

/-- The token and the first number that a long sum gives. -/
def tokenOf (E : List (BitVec 8)) : BitVec 32 := word4 (E.getD 0 0) (E.getD 1 0) (E.getD 2 0) (E.getD 3 0)
theorem sgetb {w : World} {g : Nat} {E : List (BitVec 8)} (hE : E.length = 32) (R : Row w g (bcells E) 73) (j : Nat) (hj : j < 32) : w.cell? ⟨g, j, none⟩ = some (.int .u8 (ub (E.getD j 0))) := sget hE R j hj

set_option maxHeartbeats 600000 in
theorem token_any {w : World} (N : Nat) (hN : N < 18446744073709551616) (hK : KTab w) (h2 : 1 ≤ w.heap.size) :
    Calls Tryd.prog 38 #[.int .u64 (N : Int)] w fun e w' => e = .returned (.int .u32 (u (tokenOf (sha (eightL N))))) ∧ Below w.heap.size w w' := by
  have HS : Hid _ := keySum_any N hN hK h2
  have HLS : Hid ((sha (eightL N)).length = 32) := sha_len _
  clear hN hK h2
  generalize hE : sha (eightL N) = E at *
  have HE : Hid _ := hE
  clear hE
  go_enter Tryd.func38, Tryd.ntmps38
  go_upto_region 2 with (first
    | (go_at_call 47; refine Calls.mono HS.out ?_; rintro e w1 ⟨rfl, hb1⟩; have HB1 : Hid _ := hb1; clear hb1)
    | (show wpList _ _ _ (Oper.mk none (.store 73 (.tmp 3) (.tmp 5)) _ _ _ _ :: _) _ _; refine (Row.new' w1 _ (bcells z32) 73 _ rfl rfl).wpStore' 73 (.tmp 3) (.tmp 5) (bcells E) rfl rfl rfl rfl (by rw [bcells_len, bcells_len, HLS.out]; rfl) (bcells_one _) (by rw [bcells_len, HLS.out]; exact i44) ?_; intro wc HW))
  have R : Row wc w1.heap.size (bcells E) 73 := by rw [HW.out]; exact (Row.new' w1 _ (bcells z32) 73 _ rfl rfl).row _
  have HB : Hid (Below w.heap.size w wc) := by show Below _ _ _; rw [HW.out]; exact Go.below_setRow (HB1.out.alloc HB1.out.size _) HB1.out.size _
  have c0 := sgetb HLS.out R 0 (by decide)
  have c1 := sgetb HLS.out R 1 (by decide)
  have c2 := sgetb HLS.out R 2 (by decide)
  have c3 := sgetb HLS.out R 3 (by decide)
  have HT : Hid (tokenOf E = word4 (E.getD 0 0) (E.getD 1 0) (E.getD 2 0) (E.getD 3 0)) := rfl
  clear R HW HB1
  generalize w1.heap.size = g at *
  generalize E.getD 0 0 = s0 at *
  generalize E.getD 1 0 = s1 at *
  generalize E.getD 2 0 = s2 at *
  generalize E.getD 3 0 = s3 at *
  simp only [Act.put]
  go_wp2_with (go_at_call 48; refine (word_any s0 s1 s2 s3 _).mono ?_; rintro e w' ⟨rfl, rfl⟩)
  go_ret
  exact ⟨by rw [HT.out]; rfl, HB.out⟩

end Go.Proofs.YtjpllcliehgnfaaDoor
