import Derived.Test.YtjpllcliehgnfaaDoorMac0
namespace Go.Proofs.YtjpllcliehgnfaaDoor
open Go.RowKit
set_option maxRecDepth 100000

/-- The block that a key makes. -/
def keyL (bs : List (BitVec 8)) : List (BitVec 8) := if 64 < bs.length then sha bs ++ List.replicate 32 0#8 else bs ++ List.replicate (64 - bs.length) 0#8
theorem keyL_len (bs : List (BitVec 8)) : (keyL bs).length = 64 := by
  unfold keyL
  split
  · simp [sha_len]
  · simp; omega
theorem keyL_short {bs : List (BitVec 8)} (h : bs.length ≤ 64) : keyL bs = bs ++ List.replicate (64 - bs.length) 0#8 := if_neg (by omega)
theorem keyL_long {bs : List (BitVec 8)} (h : 64 < bs.length) : keyL bs = sha bs ++ List.replicate 32 0#8 := if_pos h
theorem z64_eq : z64 = List.replicate 64 0#8 := rfl
/-- The zero block with bytes laid at its front. -/
theorem laid_front (V : List (BitVec 8)) : (bcells z64).take 0 ++ bcells V ++ (bcells z64).drop (0 + (bcells V).length) = bcells (V ++ List.replicate (64 - V.length) 0#8) := by
  rw [z64_eq, bcells_len]
  unfold bcells
  rw [List.map_replicate, List.take_zero, List.nil_append, Nat.zero_add, List.drop_replicate, List.map_append, List.map_replicate]

set_option maxHeartbeats 800000 in
theorem keyBlock_short {w : World} {ad : Addr} {cap : Nat} {bs : List (BitVec 8)} (hB : BytesAt w (some ad) bs) (hle : bs.length ≤ 64) :
    Calls Tryd.prog 68 #[.slice (some ad) bs.length cap] w fun e w' => e = .returned (.agg (bcells (keyL bs)).toArray) ∧ Below w.heap.size w w' := by
  have HB : Hid (BytesAt w (some ad) bs) := hB
  have HLE : Hid _ := hle
  have hn1 : ¬ ((64 : Int) < (bs.length : Int)) := by omega
  have hn2 : decide ((64 : Int) < (bs.length : Int)) = false := decide_eq_false hn1
  have hn3 : ¬ ((bs.length : Int) > 64) := by omega
  have i36 : (Tryd.prog.info? 92).map (·.size) = some 64 := by kernel_rfl
  have I36 : Hid _ := i36
  clear hB hle i36
  go_enter Tryd.func68, Tryd.ntmps68
  go_upto_region 2 with (fail)
  refine wp_world fun wa HW => ?_
  have HR0 : Hid (Row wa w.heap.size (bcells z64) 92) := by show Row _ _ _ _; rw [HW.out]; exact (Row.new' _ _ _ _ _ rfl rfl).alloc _
  have HR1 : Hid (Row wa (w.heap.size + 1) (bcells z64) 92) := by show Row _ _ _ _; rw [HW.out]; exact Row.new' _ _ _ _ _ (by simp) rfl
  have HBa : Hid (Below w.heap.size w wa) := by show Below _ _ _; rw [HW.out]; exact ((Below.refl _ _).alloc (Nat.le_refl _) _).alloc (by simp) _
  have HSRC : Hid (∀ j v, (bcells bs)[j]? = some v → wa.cell? (ad.add j) = some v) := by
    intro j v hv
    have hj : j < bs.length := by
      by_cases h : j < bs.length
      · exact h
      · rw [List.getElem?_eq_none (by rw [bcells_len]; omega)] at hv; cases hv
    obtain ⟨g2, o2, e2, c2⟩ := HB.out j hj
    cases e2
    rw [bcells_get hj] at hv
    cases hv
    rw [Addr.add_mid]
    exact cell_kept HBa.out c2
  have HLK : Hid _ := keyL_len bs
  have HKL : Hid _ := keyL_short HLE.out
  clear HW HB
  generalize hE : keyL bs = E at *
  have HE : Hid _ := hE
  clear hE
  go_wp2_with (first
    | (show wpList _ _ _ (Oper.mk (some 17) (.call { callee := .builtin .copy, args := #[.tmp 15, .tmp 16], argTypes := #[25, 25] }) _ _ _ _ :: _) _ _; refine wpList_copyB (.tmp 15) (.tmp 16) rfl rfl HR1.out 0 64 64 rfl ad bs.length cap rfl (bcells bs) (by rw [bcells_len]; exact (Nat.min_eq_left HLE.out).symm) HSRC.out (by rw [bcells_len, bcells_len]; have := HLE.out; show 0 + bs.length ≤ 64; omega) (bcells_one _) bs.length (bcells_len _) ?_; intro wc HC; have HRc : Hid (Row wc (w.heap.size + 1) (bcells E) 92) := (by show Row _ _ _ _; have h1 := HC.out; rw [laid_front bs, ← HKL.out] at h1; rw [h1]; exact HR1.out.row _); have HRz : Hid (Row wc w.heap.size (bcells z64) 92) := (by show Row _ _ _ _; rw [HC.out]; exact HR0.out.rowOther (show w.heap.size ≠ w.heap.size + 1 by omega) _); have HBc : Hid (Below w.heap.size w wc) := (by show Below _ _ _; rw [HC.out]; exact Go.below_setRow HBa.out (Nat.le_succ _) _))
    | (show wpList _ _ _ (Oper.mk (some 18) (.load 92 (.tmp 3)) _ _ _ _ :: _) _ _; refine HRc.out.wpLoad 92 (.tmp 3) rfl rfl rfl _ Tryd.underlying92 rfl (by rw [bcells_len, HLK.out]; exact I36.out) ?_)
    | (show wpList _ _ _ (Oper.mk none (.store 92 (.tmp 2) (.tmp 18)) _ _ _ _ :: _) _ _; refine HRz.out.wpStore' 92 (.tmp 2) (.tmp 18) (bcells E) rfl rfl rfl rfl (by rw [bcells_len, bcells_len, HLK.out]; rfl) (bcells_one _) (by rw [bcells_len, HLK.out]; exact I36.out) ?_; intro wz HZ))
  have R : Row wz w.heap.size (bcells E) 92 := by rw [HZ.out]; exact HRz.out.row _
  have hB : Below w.heap.size w wz := by rw [HZ.out]; exact Go.below_setRow HBc.out (Nat.le_refl _) _
  exact bodyPost_ret (v := .agg (bcells E).toArray) (R.result Tryd.results68 _ rfl _ Tryd.underlying92 rfl (by rw [bcells_len, HLK.out]; exact I36.out)) rfl ⟨by rw [HE.out], hB⟩

set_option maxHeartbeats 800000 in
theorem keyBlock_nil (w : World) (cap : Nat) :
    Calls Tryd.prog 68 #[.slice none 0 cap] w fun e w' => e = .returned (.agg (bcells (keyL [])).toArray) ∧ Below w.heap.size w w' := by
  have HE : Hid (keyL [] = z64) := by show keyL [] = z64; rfl
  have i36 : (Tryd.prog.info? 92).map (·.size) = some 64 := by kernel_rfl
  have I36 : Hid _ := i36
  clear i36
  go_enter Tryd.func68, Tryd.ntmps68
  go_upto_region 2 with (fail)
  refine wp_world fun wa HW => ?_
  have HR0 : Hid (Row wa w.heap.size (bcells z64) 92) := by show Row _ _ _ _; rw [HW.out]; exact (Row.new' _ _ _ _ _ rfl rfl).alloc _
  have HR1 : Hid (Row wa (w.heap.size + 1) (bcells z64) 92) := by show Row _ _ _ _; rw [HW.out]; exact Row.new' _ _ _ _ _ (by simp) rfl
  have HBa : Hid (Below w.heap.size w wa) := by show Below _ _ _; rw [HW.out]; exact ((Below.refl _ _).alloc (Nat.le_refl _) _).alloc (by simp) _
  clear HW
  go_wp2_with (first
    | (show wpList _ _ _ (Oper.mk (some 17) (.call { callee := .builtin .copy, args := #[.tmp 15, .tmp 16], argTypes := #[25, 25] }) _ _ _ _ :: _) _ _; refine wpList_copy_nothing rfl (.tmp 15) (.tmp 16) 25 25 rfl 5 Tryd.underlying25 (by kernel_rfl) _ _ _ _ _ _ rfl rfl rfl ?_)
    | (show wpList _ _ _ (Oper.mk (some 18) (.load 92 (.tmp 3)) _ _ _ _ :: _) _ _; refine HR1.out.wpLoad 92 (.tmp 3) rfl rfl rfl _ Tryd.underlying92 rfl (by rw [bcells_len]; exact I36.out) ?_)
    | (show wpList _ _ _ (Oper.mk none (.store 92 (.tmp 2) (.tmp 18)) _ _ _ _ :: _) _ _; refine HR0.out.wpStore' 92 (.tmp 2) (.tmp 18) (bcells z64) rfl rfl rfl rfl rfl (bcells_one _) (by rw [bcells_len]; exact I36.out) ?_; intro wz HZ))
  have R : Row wz w.heap.size (bcells z64) 92 := by rw [HZ.out]; exact HR0.out.row _
  have hB : Below w.heap.size w wz := by rw [HZ.out]; exact Go.below_setRow HBa.out (Nat.le_refl _) _
  exact bodyPost_ret (v := .agg (bcells z64).toArray) (R.result Tryd.results68 _ rfl _ Tryd.underlying92 rfl (by rw [bcells_len]; exact I36.out)) rfl ⟨by rw [HE.out], hB⟩
end Go.Proofs.YtjpllcliehgnfaaDoor
