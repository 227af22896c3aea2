import Derived.Test.YtjbjaklbckhodabSortLaid
namespace Go.Proofs.Ytjbjaklbckhodab
open Go.Shelf Go.Lib Go.Sort
set_option maxRecDepth 100000

def encRg (x : Rg) : List Value := [.int .u64 x.1, .int .u64 x.2]
def cmpRg (x y : Rg) : Int := if x.1 < y.1 then -1 else if y.1 < x.1 then 1 else 0

theorem ltRg (x y : Rg) : ltOf cmpRg x y = decide (x.1 < y.1) := by
  unfold ltOf cmpRg
  by_cases h1 : x.1 < y.1
  · simp [h1]
  · by_cases h2 : y.1 < x.1 <;> simp [h1, h2]
theorem swoRg : SWO (ltOf cmpRg) := {
  irrefl := fun x => by rw [ltRg]; simp
  trans := fun x y z h1 h2 => by rw [ltRg] at *; simp at *; omega
  ntrans := fun x y z h1 h2 => by rw [ltRg] at *; simp at *; omega }

set_option maxHeartbeats 1000000 in
/-- The comparison of New: two boxes are laid. -/
theorem cmpCall (x y : Rg) (W : World) : Calls Try.prog 19 #[.agg #[.int .u64 x.1, .int .u64 x.2], .agg #[.int .u64 y.1, .int .u64 y.2]] W fun e w' => e = .returned (.int .i64 (cmpRg x y)) ∧ ∃ q os', w' = grow (W.drewN q) os' := by
  obtain ⟨a, b⟩ := x
  obtain ⟨c, d⟩ := y
  unfold cmpRg
  by_cases h1 : a < c
  · rw [if_pos h1]
    go_enter Try.func19, Try.ntmps19
    go_wp2
    go_ret
    exact ⟨rfl, 0, _, by rw [alloc_eq_grow, alloc_eq_grow, grow_grow]; rfl⟩
  · rw [if_neg h1]
    by_cases h2 : c < a
    · rw [if_pos h2]
      go_enter Try.func19, Try.ntmps19
      go_wp2
      go_ret
      exact ⟨rfl, 0, _, by rw [alloc_eq_grow, alloc_eq_grow, grow_grow]; rfl⟩
    · rw [if_neg h2]
      go_enter Try.func19, Try.ntmps19
      go_wp2
      go_ret
      exact ⟨rfl, 0, _, by rw [alloc_eq_grow, alloc_eq_grow, grow_grow]; rfl⟩

theorem cmpLaysRg (blk off size : Nat) (w : World) : CmpLays Try.prog 19 #[] encRg 2 cmpRg blk off size w :=
  fun _ _ _ _ x y => cmpCall x y _

theorem flat_flatK (L : List Rg) (t : Nat) (ht : t < L.length * 2) : (flat L)[t]? = some (flatK encRg 2 L.toArray)[t]! := by
  have h2 : t / 2 < L.length := by omega
  have hf := flat_get L (t / 2) h2
  rw [get_flatK _ _ _ t (by simpa using ht)]
  have e : L.toArray[t / 2]! = L[t / 2] := by rw [getElem!_pos _ _ (by simpa using h2)]; simp
  rw [e]
  by_cases h : t % 2 = 0
  · rw [show t / 2 * 2 = t by omega] at hf
    rw [hf.1, h]
    rfl
  · have h' : t % 2 = 1 := by omega
    rw [show t / 2 * 2 + 1 = t by omega] at hf
    rw [hf.2, h']
    rfl

theorem holds_flat {w : World} {g : Nat} {L : List Rg} (hg : w.heap[g]? = some (.cells (flat L).toArray 25 (0, 0))) : HoldsK encRg 2 w g 0 L.toArray := by
  intro j hj
  rw [size_flatK] at hj
  refine ⟨?_, frozen_of_row _ _ _ _ _ hg⟩
  rw [cell_of_row w g _ _ _ _ hg, Nat.zero_add]
  have := flat_flatK L j (by simpa using hj)
  simpa using this

theorem sort_any : SortSaid := by
  intro w g L hg hsz
  have eg : ∀ args w, (callFunc 19 args).run Try.prog w = .ok (.enter 19 args) w := enters_of Try.func19 (by kernel_rfl) rfl
  have hgl : g < w.heap.size := (Array.getElem?_eq_some_iff.1 hg).1
  have hcon := AnyQ.slices_SortFunc sortRg 2 Try.isAgg25 Try.sizeOf25 encRg (fun _ => rfl) (fun x v hv => by simp [encRg] at hv; rcases hv with rfl | rfl <;> rfl) cmpRg swoRg 19 #[] g 0 L.length L.toArray w eg (cmpLaysRg g 0 _ w) (holds_flat hg) hgl (by simp; omega)
  change Calls Try.prog 18 _ _ _ at hcon
  refine Calls.mono hcon ?_
  rintro e w' ⟨rfl, d', n, os, hp, _, rfl⟩
  have hsize : d'.size = L.length := by simpa using hp.1
  have hperm : d'.toList.Perm L := by
    have := hp.2.2
    rw [show d'.extract 0 L.toArray.size = d' by rw [List.size_toArray, ← hsize]; simp] at this
    simpa using this
  refine ⟨rfl, d'.toList, hperm, ?_, ?_⟩
  · have hH : HoldsK encRg 2 (sortWorldK encRg 2 w g 0 n d' os) g 0 d' := holdsK_sortWorldK_c encRg 2 w g 0 L.toArray d' n os (holds_flat hg) hgl (by simpa using hsize)
    have hh : (sortWorldK encRg 2 w g 0 n d' os).heap[g]? = some (.cells (putCells id 0 (flatK encRg 2 d') (flat L).toArray) 25 (0, 0)) := by
      show ((w.heap.modify g (onCells (putCells id 0 (flatK encRg 2 d')))) ++ os)[g]? = _
      rw [Array.getElem?_append_left (by simpa using hgl), Array.getElem?_modify, if_pos rfl, hg]
      rfl
    rw [hh]
    congr 1
    have hsz2 : (putCells id 0 (flatK encRg 2 d') (flat L).toArray).size = d'.size * 2 := by simp [putCells, length_flat, hsize]
    have e : putCells id 0 (flatK encRg 2 d') (flat L).toArray = (flat d'.toList).toArray := by
      apply Array.ext_getElem?
      intro t
      by_cases ht : t < d'.size * 2
      · have h1 := (hH t (by rw [size_flatK]; exact ht)).1
        rw [cell_of_row _ g _ _ _ _ hh, Nat.zero_add] at h1
        rw [h1]
        have := flat_flatK d'.toList t (by simpa using ht)
        simpa using this.symm
      · rw [Array.getElem?_eq_none (by omega), Array.getElem?_eq_none (by simp [length_flat]; omega)]
    rw [e]
  · refine ⟨rfl, rfl, rfl, ?_, fun k hk hne => ?_⟩
    · show w.heap.size ≤ ((w.heap.modify g _) ++ os).size
      simp
    · show ((w.heap.modify g _) ++ os)[k]? = _
      rw [Array.getElem?_append_left (by simpa using hk), Array.getElem?_modify, if_neg (fun e => hne (by rw [e]))]

end Go.Proofs.Ytjbjaklbckhodab
