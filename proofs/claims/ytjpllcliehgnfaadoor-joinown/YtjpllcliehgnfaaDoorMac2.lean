import Derived.Test.YtjpllcliehgnfaaDoorMac1
namespace Go.Proofs.YtjpllcliehgnfaaDoor
open Go.RowKit
set_option maxRecDepth 100000

set_option maxHeartbeats 1200000 in
theorem keyBlock_long {w : World} {a : Option Addr} {cap : Nat} {bs : List (BitVec 8)} (hB : BytesAt w a bs) (hgt : 64 < bs.length) (hle : bs.length ≤ cap) (hcap : cap ≤ 9223372036854775807) (hK : KTab w) (h2 : 1 ≤ w.heap.size) :
    Calls Tryd.prog 68 #[.slice a bs.length cap] w fun e w' => e = .returned (.agg (bcells (keyL bs)).toArray) ∧ Below w.heap.size w w' := by
  have HB : Hid (BytesAt w a bs) := hB
  have HLE : Hid _ := hle
  have HCA : Hid _ := hcap
  have HK : Hid (KTab w) := hK
  have H2 : Hid _ := h2
  have hn1 : (64 : Int) < (bs.length : Int) := by omega
  have hn3 : (bs.length : Int) > 64 := by omega
  have i36 : (Tryd.prog.info? 92).map (·.size) = some 64 := by kernel_rfl
  have I36 : Hid _ := i36
  have I44 : Hid _ := i44
  have HLK : Hid _ := keyL_len bs
  have HKL : Hid _ := keyL_long hgt
  have HLS : Hid ((sha bs).length = 32) := sha_len _
  clear hB hgt hle hcap hK h2 i36
  go_enter Tryd.func68, Tryd.ntmps68
  go_upto_region 2 with (fail)
  refine wp_world fun wa HW => ?_
  have HR0 : Hid (Row wa w.heap.size (bcells z64) 92) := by show Row _ _ _ _; rw [HW.out]; exact (Row.new' _ _ _ _ _ rfl rfl).alloc _
  have HR1 : Hid (Row wa (w.heap.size + 1) (bcells z64) 92) := by show Row _ _ _ _; rw [HW.out]; exact Row.new' _ _ _ _ _ (by simp) rfl
  have HBa : Hid (Below w.heap.size w wa) := by show Below _ _ _; rw [HW.out]; exact ((Below.refl _ _).alloc (Nat.le_refl _) _).alloc (by simp) _
  clear HW
  have b1 : Below wa.heap.size wa (wa.alloc (.cells #[.slice a bs.length cap] 25)) := (Below.refl _ _).alloc (Nat.le_refl _) _
  have HO : Hid (Calls Tryd.prog 49 #[.slice (some ⟨wa.heap.size, 0, none⟩) 1 1] (wa.alloc (.cells #[.slice a bs.length cap] 25)) fun e w' => e = .returned (.agg (bcells (sha bs)).toArray) ∧ Below wa.heap.size wa w') := by
    have := of_any (cap := 1) (parts_one (w := wa.alloc (.cells #[.slice a bs.length cap] 25)) (g := wa.heap.size) (ad := a) (cap := cap) (bs := bs) (by simp) ((HB.out.kept HBa.out).kept b1) HLE.out HCA.out) (by simp) ((HK.out.kept HBa.out).kept b1) (by have h1 := H2.out; have h2 := HBa.out.size; have h3 := b1.size; omega)
    rw [show [bs].flatten = bs by simp] at this
    refine Calls.mono this ?_
    rintro e w' ⟨he, hb⟩
    exact ⟨he, b1.trans (hb.mono b1.size)⟩
  clear b1 HB
  generalize hE : keyL bs = E at *
  have HE : Hid _ := hE
  clear hE
  generalize sha bs = S at *
  have HSL : Hid (w.heap.size + 1 < wa.heap.size) := HR1.out.lt
  go_upto_region 4 with (first
    | (go_at_call 49; refine Calls.mono HO.out ?_; rintro e w1 ⟨rfl, hb1⟩; have HB1 : Hid _ := hb1; clear hb1)
    | (show wpList _ _ _ (Oper.mk none (.store 73 (.tmp 4) (.tmp 10)) _ _ _ _ :: _) _ _; refine (Row.new' w1 _ (bcells z32) 73 _ rfl rfl).wpStore' 73 (.tmp 4) (.tmp 10) (bcells S) rfl rfl rfl rfl (by rw [bcells_len, bcells_len, HLS.out]; rfl) (bcells_one _) (by rw [bcells_len, HLS.out]; exact I44.out) ?_; intro wb HW))
  have HRS : Hid (Row wb w1.heap.size (bcells S) 73) := by show Row _ _ _ _; rw [HW.out]; exact (Row.new' w1 _ (bcells z32) 73 _ rfl rfl).row _
  have HBb : Hid (Below wa.heap.size wa wb) := by show Below _ _ _; rw [HW.out]; exact Go.below_setRow (HB1.out.alloc HB1.out.size _) HB1.out.size _
  clear HW HO
  generalize hg : w1.heap.size = g at *
  have HD : Row wb.drew (w.heap.size + 1) (bcells z64) 92 := ⟨(HR1.out.kept HBb.out HR1.out.lt).at_⟩
  have HD0 : Row wb.drew w.heap.size (bcells z64) 92 := ⟨(HR0.out.kept HBb.out HR0.out.lt).at_⟩
  have HDS : Row wb.drew g (bcells S) 73 := ⟨HRS.out.at_⟩
  have HDB : Below w.heap.size w wb.drew := below_drawn (HBa.out.trans (HBb.out.mono HBa.out.size)) _
  have hrun := run_copy_row (P := Tryd.prog) wb.drew 25 25 3 5 (w.heap.size + 1) 0 64 64 ⟨g, 0, none⟩ 32 32 (bcells z64).toArray 92 (bcells S) Tryd.underlying25 (by kernel_rfl) HD.at_ (by rw [bcells_len, HLS.out]; rfl) (fun j v hv => by rw [Addr.add_lit, Nat.zero_add]; exact HDS.cell j v hv) (by rw [bcells_len, HLS.out]; decide) (bcells_one _)
  rw [List.toList_toArray, laid_front S, HLS.out, show 64 - 32 = 32 from rfl, ← HKL.out, bcells_len, HLS.out] at hrun
  obtain ⟨wc, hc⟩ : ∃ wc, wc = wb.drew.setRow (w.heap.size + 1) (bcells E).toArray := ⟨_, rfl⟩
  rw [← hc] at hrun
  have HRc : Hid (Row wc (w.heap.size + 1) (bcells E) 92) := by show Row _ _ _ _; rw [hc]; exact HD.row _
  have HRz : Hid (Row wc w.heap.size (bcells z64) 92) := by show Row _ _ _ _; rw [hc]; exact HD0.rowOther (show w.heap.size ≠ w.heap.size + 1 by omega) _
  have HBc : Hid (Below w.heap.size w wc) := by show Below _ _ _; rw [hc]; exact Go.below_setRow HDB (Nat.le_succ _) _
  clear HR0 HR1 HBb HRS HDS HBa HB1 HD HD0 HDB hc
  simp only [Act.put]
  go_region
  all_goals
    go_wp2_with (first
      | (show wpList _ _ _ (Oper.mk (some 14) (.load 92 (.tmp 3)) _ _ _ _ :: _) _ _; refine HRc.out.wpLoad 92 (.tmp 3) rfl rfl rfl _ Tryd.underlying92 rfl (by rw [bcells_len, HLK.out]; exact I36.out) ?_)
      | (show wpList _ _ _ (Oper.mk none (.store 92 (.tmp 2) (.tmp 14)) _ _ _ _ :: _) _ _; refine HRz.out.wpStore' 92 (.tmp 2) (.tmp 14) (bcells E) rfl rfl rfl rfl (by rw [bcells_len, bcells_len, HLK.out]; rfl) (bcells_one _) (by rw [bcells_len, HLK.out]; exact I36.out) ?_; intro wz HZ))
    have R : Row wz w.heap.size (bcells E) 92 := by rw [HZ.out]; exact HRz.out.row _
    have hB : Below w.heap.size w wz := by rw [HZ.out]; exact Go.below_setRow HBc.out (Nat.le_refl _) _
    exact bodyPost_ret (v := .agg (bcells E).toArray) (R.result Tryd.results68 _ rfl _ Tryd.underlying92 rfl (by rw [bcells_len, HLK.out]; exact I36.out)) rfl ⟨by rw [HE.out], hB⟩

/-- The block that a key makes. -/
theorem keyBlock_any {w : World} {a : Option Addr} {cap : Nat} {bs : List (BitVec 8)} (hB : BytesAt w a bs) (hle : bs.length ≤ cap) (hcap : 64 < bs.length → cap ≤ 9223372036854775807) (hK : KTab w) (h2 : 1 ≤ w.heap.size) :
    Calls Tryd.prog 68 #[.slice a bs.length cap] w fun e w' => e = .returned (.agg (bcells (keyL bs)).toArray) ∧ Below w.heap.size w w' := by
  by_cases hgt : 64 < bs.length
  · exact keyBlock_long hB hgt hle (hcap hgt) hK h2
  · cases a with
    | none =>
      cases bs with
      | nil => exact keyBlock_nil w cap
      | cons b bs => obtain ⟨_, _, e, _⟩ := hB 0 (by simp); cases e
    | some ad => exact keyBlock_short hB (by omega)
end Go.Proofs.YtjpllcliehgnfaaDoor
