import Derived.Test.YtjeokomocopjhaaSvL
namespace Go.Proofs.Ytjeokomocopjhaa
open Go.Shelf Go.Lib Go.Sort
set_option maxRecDepth 100000

/-- Streams in a row. -/
def flatI (L : List Ln) : List Value := L.flatMap Ln.cells
theorem flatI_nil : flatI [] = [] := rfl
theorem flatI_cons (x : Ln) (L : List Ln) : flatI (x :: L) = x.cells ++ flatI L := by simp [flatI]
theorem flatI_append (A B : List Ln) : flatI (A ++ B) = flatI A ++ flatI B := by simp [flatI]
theorem flatI_len : ∀ L : List Ln, (flatI L).length = L.length * 5
  | [] => rfl
  | x :: L => by rw [flatI_cons, List.length_append, flatI_len L]; simp [Ln.cells]; omega
theorem flatI_one (L : List Ln) : ∀ v ∈ flatI L, v.oneCell' = true := by
  intro v hv
  simp only [flatI, List.mem_flatMap] at hv
  obtain ⟨x, _, hx⟩ := hv
  simp only [Ln.cells, List.mem_cons, List.not_mem_nil, or_false] at hx
  rcases hx with rfl | rfl | rfl | rfl | rfl <;> rfl
theorem flatI_get : ∀ (L : List Ln) (i : Nat) (h : i < L.length), (flatI L)[i * 5]? = some (.int .u64 L[i].num) ∧ (flatI L)[i * 5 + 1]? = some (.int .i64 L[i].s.cls) ∧ (flatI L)[i * 5 + 2]? = some (.int .i64 L[i].s.shr) ∧ (flatI L)[i * 5 + 3]? = some (.int .i64 L[i].s.wt) ∧ (flatI L)[i * 5 + 4]? = some (.int .i64 L[i].s.cr)
  | [], i, h => by simp at h
  | x :: L, 0, _ => by rw [flatI_cons]; exact ⟨rfl, rfl, rfl, rfl, rfl⟩
  | x :: L, i + 1, h => by
    have := flatI_get L i (by simpa using h)
    rw [flatI_cons]
    have hl : x.cells.length = 5 := rfl
    rw [List.getElem?_append_right (by rw [hl]; omega), List.getElem?_append_right (by rw [hl]; omega), List.getElem?_append_right (by rw [hl]; omega), List.getElem?_append_right (by rw [hl]; omega), List.getElem?_append_right (by rw [hl]; omega), hl]
    rw [show (i + 1) * 5 - 5 = i * 5 by omega, show (i + 1) * 5 + 1 - 5 = i * 5 + 1 by omega, show (i + 1) * 5 + 2 - 5 = i * 5 + 2 by omega, show (i + 1) * 5 + 3 - 5 = i * 5 + 3 by omega, show (i + 1) * 5 + 4 - 5 = i * 5 + 4 by omega]
    simpa using this
/-- What slices.SortFunc does to a row of views. -/
def SortI : Prop := ∀ (w : World) (g cap : Nat) (L : List Ln) (tail : List Value), w.heap[g]? = some (.cells (flatI L ++ tail).toArray 44 (0, 0)) → L.length * 40 ≤ 140737488355328 →
  Calls Try.prog 24 #[.slice (some ⟨g, 0, none⟩) L.length cap, .func (.func 25) #[] #[]] w fun e w' => e = .returned (.tuple #[]) ∧ ∃ L' : List Ln, L'.Perm L ∧ L'.Pairwise (fun a b => a.num ≤ b.num) ∧ w'.heap[g]? = some (.cells (flatI L' ++ tail).toArray 44 (0, 0)) ∧ w.grownBy w' (some g)
def cmpIt (x y : Ln) : Int := if x.num < y.num then -1 else if y.num < x.num then 1 else 0
theorem ltIt (x y : Ln) : ltOf cmpIt x y = decide (x.num < y.num) := by
  unfold ltOf cmpIt
  by_cases h1 : x.num < y.num
  · simp [h1]
  · by_cases h2 : y.num < x.num <;> simp [h1, h2]
theorem swoIt : SWO (ltOf cmpIt) := {
  irrefl := fun x => by rw [ltIt]; simp
  trans := fun x y z h1 h2 => by rw [ltIt] at *; simp at *; omega
  ntrans := fun x y z h1 h2 => by rw [ltIt] at *; simp at *; omega }
theorem nan_any (w : World) (x : Int) : Calls Try.prog 35 #[.int .u64 x] w fun e w' => e = .returned (.bool false) ∧ w' = w := by
  go_enter Try.func35, Try.ntmps35
  go_wp2
  go_ret
  exact ⟨by first | rfl | simp, rfl⟩
set_option maxHeartbeats 1000000 in
theorem cmp_any (w : World) (x y : Int) : Calls Try.prog 26 #[.int .u64 x, .int .u64 y] w fun e w' => e = .returned (.int .i64 (if x < y then -1 else if y < x then 1 else 0)) ∧ w' = w := by
  have h1 := nan_any w x
  have h2 := nan_any w y
  by_cases c1 : x < y
  · rw [if_pos c1]
    go_enter Try.func26, Try.ntmps26
    go_wp2_with (go_at_call 35; first | (refine h1.mono ?_; rintro e w' ⟨rfl, rfl⟩; clear h1) | (refine h2.mono ?_; rintro e w' ⟨rfl, rfl⟩; clear h2))
    go_ret
    exact ⟨rfl, rfl⟩
  · rw [if_neg c1]
    by_cases c2 : y < x
    · rw [if_pos c2]
      go_enter Try.func26, Try.ntmps26
      go_wp2_with (go_at_call 35; first | (refine h1.mono ?_; rintro e w' ⟨rfl, rfl⟩; clear h1) | (refine h2.mono ?_; rintro e w' ⟨rfl, rfl⟩; clear h2))
      go_ret
      exact ⟨rfl, rfl⟩
    · rw [if_neg c2]
      go_enter Try.func26, Try.ntmps26
      go_wp2_with (go_at_call 35; first | (refine h1.mono ?_; rintro e w' ⟨rfl, rfl⟩; clear h1) | (refine h2.mono ?_; rintro e w' ⟨rfl, rfl⟩; clear h2))
      go_ret
      exact ⟨rfl, rfl⟩
set_option maxHeartbeats 1000000 in
/-- The comparison: two boxes are laid. -/
theorem cmpItCall (x y : Ln) (W : World) : Calls Try.prog 25 #[.agg x.cells.toArray, .agg y.cells.toArray] W fun e w' => e = .returned (.int .i64 (cmpIt x y)) ∧ ∃ q os', w' = grow (W.drewN q) os' := by
  obtain ⟨a, g, b, c, d, e⟩ := x
  obtain ⟨a', g', b', c', d', e'⟩ := y
  have hC := fun w => cmp_any w a a'
  unfold cmpIt
  simp only [Ln.cells]
  generalize (if a < a' then (-1 : Int) else if a' < a then 1 else 0) = r at *
  go_enter Try.func25, Try.ntmps25
  go_wp2_with (go_at_call 26; refine (hC _).mono ?_; rintro e w' ⟨rfl, rfl⟩)
  go_ret
  exact ⟨rfl, 0, _, by rw [alloc_eq_grow, alloc_eq_grow, grow_grow]; rfl⟩
section
variable [Inhabited Ln]
theorem cmpLaysIt (blk off size : Nat) (w : World) : CmpLays Try.prog 25 #[] Ln.cells 5 cmpIt blk off size w :=
  fun _ _ _ _ x y => cmpItCall x y _
theorem flatI_flatK (L : List Ln) (t : Nat) (ht : t < L.length * 5) : (flatI L)[t]? = some (flatK Ln.cells 5 L.toArray)[t]! := by
  have h2 : t / 5 < L.length := by omega
  have hf := flatI_get L (t / 5) h2
  rw [get_flatK _ _ _ t (by simpa using ht)]
  have e : L.toArray[t / 5]! = L[t / 5] := by rw [getElem!_pos _ _ (by simpa using h2)]; simp
  rw [e]
  have h5 : t % 5 = 0 ∨ t % 5 = 1 ∨ t % 5 = 2 ∨ t % 5 = 3 ∨ t % 5 = 4 := by omega
  rcases h5 with h | h | h | h | h
  · rw [show t / 5 * 5 = t by omega] at hf
    rw [hf.1, h]
    rfl
  · rw [show t / 5 * 5 + 1 = t by omega] at hf
    rw [hf.2.1, h]
    rfl
  · rw [show t / 5 * 5 + 2 = t by omega] at hf
    rw [hf.2.2.1, h]
    rfl
  · rw [show t / 5 * 5 + 3 = t by omega] at hf
    rw [hf.2.2.2.1, h]
    rfl
  · rw [show t / 5 * 5 + 4 = t by omega] at hf
    rw [hf.2.2.2.2, h]
    rfl
theorem holds_flatI {w : World} {g : Nat} {L : List Ln} {tail : List Value} (hg : w.heap[g]? = some (.cells (flatI L ++ tail).toArray 44 (0, 0))) : HoldsK Ln.cells 5 w g 0 L.toArray := by
  intro j hj
  rw [size_flatK] at hj
  refine ⟨?_, frozen_of_row _ _ _ _ _ hg⟩
  rw [cell_of_row w g _ _ _ _ hg, Nat.zero_add]
  have := flatI_flatK L j (by simpa using hj)
  simp only [List.getElem?_toArray, id]
  rw [List.getElem?_append_left (by rw [flatI_len]; simpa using hj)]
  exact this
theorem sortI_any : SortI := by
  intro w g cap L tail hg hsz
  have eg : ∀ args w, (callFunc 25 args).run Try.prog w = .ok (.enter 25 args) w := enters_of Try.func25 (by kernel_rfl) rfl
  have hgl : g < w.heap.size := (Array.getElem?_eq_some_iff.1 hg).1
  have hcon := AnyQ.slices_SortFunc sortVw 5 Try.isAgg44 Try.sizeOf44 Ln.cells (fun _ => rfl) (fun x v hv => by simp [Ln.cells] at hv; rcases hv with rfl | rfl | rfl | rfl | rfl <;> rfl) cmpIt swoIt 25 #[] g 0 cap L.toArray w eg (cmpLaysIt g 0 _ w) (holds_flatI hg) hgl (by simp; omega)
  change Calls Try.prog 24 _ _ _ at hcon
  refine Calls.mono hcon ?_
  rintro e w' ⟨rfl, d', n, os, hp, hso, rfl⟩
  have hsize : d'.size = L.length := by simpa using hp.1
  have hperm : d'.toList.Perm L := by
    have := hp.2.2
    rw [show d'.extract 0 L.toArray.size = d' by rw [List.size_toArray, ← hsize]; simp] at this
    simpa using this
  refine ⟨rfl, d'.toList, hperm, ?_, ?_, ?_⟩
  · rw [List.pairwise_iff_getElem]
    intro i j hi hj hij
    have := hso i j (Nat.zero_le _) hij (by simp at hj ⊢; omega)
    rw [ltIt] at this
    simp only [Array.length_toList] at hi hj
    rw [getElem!_pos d' j hj, getElem!_pos d' i hi] at this
    simp only [decide_eq_false_iff_not, Int.not_lt] at this
    simpa using this
  · have hh : (sortWorldK Ln.cells 5 w g 0 n d' os).heap[g]? = some (.cells (putCells id 0 (flatK Ln.cells 5 d') (flatI L ++ tail).toArray) 44 (0, 0)) := by
      show ((w.heap.modify g (onCells (putCells id 0 (flatK Ln.cells 5 d')))) ++ os)[g]? = _
      rw [Array.getElem?_append_left (by simpa using hgl), Array.getElem?_modify, if_pos rfl, hg]
      rfl
    rw [hh]
    congr 2
    apply Array.ext_getElem?
    intro t
    unfold putCells
    rw [Array.getElem?_mapIdx]
    by_cases ht : t < d'.size * 5
    · have h1 := flatI_flatK d'.toList t (by simpa using ht)
      simp only [List.getElem?_toArray]
      rw [List.getElem?_append_left (by rw [flatI_len]; omega), List.getElem?_append_left (by rw [flatI_len]; simpa using ht), h1]
      rw [List.getElem?_eq_getElem (by rw [flatI_len]; omega)]
      simp [ht]
    · simp only [List.getElem?_toArray]
      rw [List.getElem?_append_right (by rw [flatI_len]; omega), List.getElem?_append_right (by rw [flatI_len]; simp; omega), flatI_len, flatI_len]
      simp only [Array.length_toList, hsize]
      rw [hsize] at ht
      cases tail[t - L.length * 5]? <;> simp [hsize, ht]
  · refine ⟨rfl, rfl, rfl, ?_, fun k hk hne => ?_⟩
    · show w.heap.size ≤ ((w.heap.modify g _) ++ os).size
      simp
    · show ((w.heap.modify g _) ++ os)[k]? = _
      rw [Array.getElem?_append_left (by simpa using hk), Array.getElem?_modify, if_neg (fun e => hne (by rw [e]))]
end
theorem sortI_all : SortI := by
  have : Inhabited Ln := ⟨⟨0, 0, ⟨0, 0, 0, 0⟩⟩⟩
  exact sortI_any
end Go.Proofs.Ytjeokomocopjhaa
