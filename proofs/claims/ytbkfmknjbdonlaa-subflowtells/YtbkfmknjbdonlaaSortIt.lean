import Derived.Test.YtbkfmknjbdonlaaSortItL
namespace Go.Proofs.Ytbkfmknjbdonlaa
open Go.Shelf Go.Lib Go.Sort
set_option maxRecDepth 100000

instance : Inhabited It := ⟨⟨0, 0, 0, 0, 0⟩⟩
def cmpIt (x y : It) : Int := if x.num < y.num then -1 else if y.num < x.num then 1 else 0
theorem ltIt (x y : It) : ltOf cmpIt x y = decide (x.num < y.num) := by
  unfold ltOf cmpIt
  by_cases h1 : x.num < y.num
  · simp [h1]
  · by_cases h2 : y.num < x.num <;> simp [h1, h2]
theorem swoIt : SWO (ltOf cmpIt) := {
  irrefl := fun x => by rw [ltIt]; simp
  trans := fun x y z h1 h2 => by rw [ltIt] at *; simp at *; omega
  ntrans := fun x y z h1 h2 => by rw [ltIt] at *; simp at *; omega }
set_option maxHeartbeats 1000000 in
/-- The comparison: two boxes are laid. -/
theorem cmpItCall (x y : It) (W : World) : Calls Try.prog 71 #[.agg x.cells.toArray, .agg y.cells.toArray] W fun e w' => e = .returned (.int .i64 (cmpIt x y)) ∧ ∃ q os', w' = grow (W.drewN q) os' := by
  obtain ⟨a, b, c, d, e⟩ := x
  obtain ⟨a', b', c', d', e'⟩ := y
  unfold cmpIt
  simp only [It.cells]
  by_cases h1 : a < a'
  · rw [if_pos h1]
    go_enter Try.func71, Try.ntmps71
    go_wp2
    go_ret
    exact ⟨rfl, 0, _, by rw [alloc_eq_grow, alloc_eq_grow, grow_grow]; rfl⟩
  · rw [if_neg h1]
    by_cases h2 : a' < a
    · rw [if_pos h2]
      go_enter Try.func71, Try.ntmps71
      go_wp2
      go_ret
      exact ⟨rfl, 0, _, by rw [alloc_eq_grow, alloc_eq_grow, grow_grow]; rfl⟩
    · rw [if_neg h2]
      go_enter Try.func71, Try.ntmps71
      go_wp2
      go_ret
      exact ⟨rfl, 0, _, by rw [alloc_eq_grow, alloc_eq_grow, grow_grow]; rfl⟩
theorem cmpLaysIt (blk off size : Nat) (w : World) : CmpLays Try.prog 71 #[] It.cells 5 cmpIt blk off size w :=
  fun _ _ _ _ x y => cmpItCall x y _
theorem flatI_flatK (L : List It) (t : Nat) (ht : t < L.length * 5) : (flatI L)[t]? = some (flatK It.cells 5 L.toArray)[t]! := by
  have h2 : t / 5 < L.length := by omega
  have hf := flatI_get L (t / 5) h2
  rw [get_flatK _ _ _ t (by simpa using ht)]
  have e : L.toArray[t / 5]! = L[t / 5] := by rw [getElem!_pos _ _ (by simpa using h2)]; simp
  rw [e]
  have h5 : t % 5 = 0 ∨ t % 5 = 1 ∨ t % 5 = 2 ∨ t % 5 = 3 ∨ t % 5 = 4 := by omega
  rcases h5 with h | h | h | h | h
  · rw [show t / 5 * 5 = t by omega] at hf
    rw [hf.1, h]
    rfl
  · rw [show t / 5 * 5 + 1 = t by omega] at hf
    rw [hf.2.1, h]
    rfl
  · rw [show t / 5 * 5 + 2 = t by omega] at hf
    rw [hf.2.2.1, h]
    rfl
  · rw [show t / 5 * 5 + 3 = t by omega] at hf
    rw [hf.2.2.2.1, h]
    rfl
  · rw [show t / 5 * 5 + 4 = t by omega] at hf
    rw [hf.2.2.2.2, h]
    rfl
theorem holds_flatI {w : World} {g : Nat} {L : List It} {tail : List Value} (hg : w.heap[g]? = some (.cells (flatI L ++ tail).toArray 60 (0, 0))) : HoldsK It.cells 5 w g 0 L.toArray := by
  intro j hj
  rw [size_flatK] at hj
  refine ⟨?_, frozen_of_row _ _ _ _ _ hg⟩
  rw [cell_of_row w g _ _ _ _ hg, Nat.zero_add]
  have := flatI_flatK L j (by simpa using hj)
  simp only [List.getElem?_toArray, id]
  rw [List.getElem?_append_left (by rw [flatI_len]; simpa using hj)]
  exact this
theorem sortI_any : SortI := by
  intro w g cap L tail hg hsz
  have eg : ∀ args w, (callFunc 71 args).run Try.prog w = .ok (.enter 71 args) w := enters_of Try.func71 (by kernel_rfl) rfl
  have hgl : g < w.heap.size := (Array.getElem?_eq_some_iff.1 hg).1
  have hcon := AnyQ.slices_SortFunc sortIt 5 Try.isAgg60 Try.sizeOf60 It.cells (fun _ => rfl) (fun x v hv => by simp [It.cells] at hv; rcases hv with rfl | rfl | rfl | rfl | rfl <;> rfl) cmpIt swoIt 71 #[] g 0 cap L.toArray w eg (cmpLaysIt g 0 _ w) (holds_flatI hg) hgl (by simp; omega)
  change Calls Try.prog 70 _ _ _ at hcon
  refine Calls.mono hcon ?_
  rintro e w' ⟨rfl, d', n, os, hp, hso, rfl⟩
  have hsize : d'.size = L.length := by simpa using hp.1
  have hperm : d'.toList.Perm L := by
    have := hp.2.2
    rw [show d'.extract 0 L.toArray.size = d' by rw [List.size_toArray, ← hsize]; simp] at this
    simpa using this
  refine ⟨rfl, d'.toList, hperm, ?_, ?_, ?_⟩
  · rw [List.pairwise_iff_getElem]
    intro i j hi hj hij
    have := hso i j (Nat.zero_le _) hij (by simp at hj ⊢; omega)
    rw [ltIt] at this
    simp only [Array.length_toList] at hi hj
    rw [getElem!_pos d' j hj, getElem!_pos d' i hi] at this
    simp only [decide_eq_false_iff_not, Int.not_lt] at this
    simpa using this
  · have hh : (sortWorldK It.cells 5 w g 0 n d' os).heap[g]? = some (.cells (putCells id 0 (flatK It.cells 5 d') (flatI L ++ tail).toArray) 60 (0, 0)) := by
      show ((w.heap.modify g (onCells (putCells id 0 (flatK It.cells 5 d')))) ++ os)[g]? = _
      rw [Array.getElem?_append_left (by simpa using hgl), Array.getElem?_modify, if_pos rfl, hg]
      rfl
    rw [hh]
    congr 2
    apply Array.ext_getElem?
    intro t
    unfold putCells
    rw [Array.getElem?_mapIdx]
    by_cases ht : t < d'.size * 5
    · have h1 := flatI_flatK d'.toList t (by simpa using ht)
      simp only [List.getElem?_toArray]
      rw [List.getElem?_append_left (by rw [flatI_len]; omega), List.getElem?_append_left (by rw [flatI_len]; simpa using ht), h1]
      rw [List.getElem?_eq_getElem (by rw [flatI_len]; omega)]
      simp [ht]
    · simp only [List.getElem?_toArray]
      rw [List.getElem?_append_right (by rw [flatI_len]; omega), List.getElem?_append_right (by rw [flatI_len]; simp; omega), flatI_len, flatI_len]
      simp only [Array.length_toList, hsize]
      rw [hsize] at ht
      cases tail[t - L.length * 5]? <;> simp [hsize, ht]
  · refine ⟨rfl, rfl, rfl, ?_, fun k hk hne => ?_⟩
    · show w.heap.size ≤ ((w.heap.modify g _) ++ os).size
      simp
    · show ((w.heap.modify g _) ++ os)[k]? = _
      rw [Array.getElem?_append_left (by simpa using hk), Array.getElem?_modify, if_neg (fun e => hne (by rw [e]))]
end Go.Proofs.Ytbkfmknjbdonlaa
