import Derived.Test.YtjbjaklbckhodaaAdds0
namespace Go.Proofs.Ytjbjaklbckhodaa
open Go.RowKit

/-- What two sets share of a range that they share is as much. -/
theorem clip_same {U S : List Rg} (FU : Fit U) (FS : Fit S) (r : Rg) (h0 : 0 ≤ r.1) (h1 : r.2 ≤ 18446744073709551615) (h : ∀ y, r.1 ≤ y → y < r.2 → (mem U y ↔ mem S y)) : total (clipL U r) = total (clipL S r) := by
  have e := total_sum FU.rise (remL_fit FS r h0 h1).rise (remL_fit FU r h0 h1).rise FS.rise (fun y => by
    by_cases hr : r.1 ≤ y ∧ y < r.2
    · rw [ind_no (fun hm => ((remL_mem FS r y).1 hm).2 hr), ind_no (fun hm => ((remL_mem FU r y).1 hm).2 hr)]
      by_cases hU : mem U y
      · rw [ind_yes hU, ind_yes ((h y hr.1 hr.2).1 hU)]; rfl
      · rw [ind_no hU, ind_no (fun hm => hU ((h y hr.1 hr.2).2 hm))]
    · have a : ind (remL S r) y = ind S y := by
        by_cases hS : mem S y
        · rw [ind_yes hS, ind_yes ((remL_mem FS r y).2 ⟨hS, hr⟩)]
        · rw [ind_no hS, ind_no (fun hm => hS ((remL_mem FS r y).1 hm).1)]
      have b : ind (remL U r) y = ind U y := by
        by_cases hU : mem U y
        · rw [ind_yes hU, ind_yes ((remL_mem FU r y).2 ⟨hU, hr⟩)]
        · rw [ind_no hU, ind_no (fun hm => hU ((remL_mem FU r y).1 hm).1)]
      rw [a, b])
  rw [remL_total FS r, remL_total FU r] at e
  omega

/-- What the first k of T's stretches add to S, and what they take out. -/
def addK (S T : List Rg) (k : Nat) : List Rg := (T.take k).foldl addL S
def remK (S T : List Rg) (k : Nat) : List Rg := (T.take k).foldl remL S
/-- How many of S's numbers lie in the first k of T's stretches. -/
def bothK (S T : List Rg) : Nat → Int
  | 0 => 0
  | k + 1 => bothK S T k + total (clipL S (nth T k))
theorem addK_succ (S T : List Rg) (k : Nat) (h : k < T.length) : addK S T (k + 1) = addL (addK S T k) T[k] := by
  unfold addK
  rw [List.take_succ_eq_append_getElem h, List.foldl_append]
  rfl
theorem remK_succ (S T : List Rg) (k : Nat) (h : k < T.length) : remK S T (k + 1) = remL (remK S T k) T[k] := by
  unfold remK
  rw [List.take_succ_eq_append_getElem h, List.foldl_append]
  rfl
theorem mem_take_succ {T : List Rg} {k : Nat} (h : k < T.length) (y : Int) : mem (T.take (k + 1)) y ↔ mem (T.take k) y ∨ (T[k].1 ≤ y ∧ y < T[k].2) := by
  rw [List.take_succ_eq_append_getElem h, mem_append, mem_one]
theorem fit_apart {T : List Rg} (F : Fit T) {k : Nat} (h : k < T.length) (y : Int) (h1 : T[k].1 ≤ y) : ¬ mem (T.take k) y := by
  rintro ⟨r, hr, _, h3⟩
  obtain ⟨i, hi, hik, rfl⟩ := mem_take_get hr
  have := F.lt i k hik h
  omega

structure MeetSo (S T : List Rg) (k : Nat) : Prop where
  fitU : Fit (addK S T k)
  fitR : Fit (remK S T k)
  memU : ∀ y, mem (addK S T k) y ↔ mem S y ∨ mem (T.take k) y
  memR : ∀ y, mem (remK S T k) y ↔ mem S y ∧ ¬ mem (T.take k) y
  sumU : total (addK S T k) + bothK S T k = total S + total (T.take k)
  sumR : total (remK S T k) = total S - bothK S T k
  lenU : (addK S T k).length ≤ S.length + k
  lenR : (remK S T k).length ≤ S.length + k
  nonneg : 0 ≤ bothK S T k
  le : bothK S T k ≤ total (T.take k)

theorem clipL_total_bd {S : List Rg} (F : Fit S) (r : Rg) (h0 : 0 ≤ r.1) (hr : r.1 < r.2) (h1 : r.2 ≤ 18446744073709551615) : 0 ≤ total (clipL S r) ∧ total (clipL S r) ≤ r.2 - r.1 := by
  have h := clip_total F r h0 h1 hr
  have h2 := total_fit (clipL_fit F r h0 h1)
  omega

theorem meet_so {S T : List Rg} (FS : Fit S) (FT : Fit T) : ∀ k, k ≤ T.length → MeetSo S T k := by
  intro k
  induction k with
  | zero =>
    intro _
    refine ⟨FS, FS, fun y => ?_, fun y => ?_, ?_, ?_, Nat.le_refl _, Nat.le_refl _, Int.le_refl _, ?_⟩
    · simp [addK, mem]
    · simp [remK, mem]
    · simp [addK, bothK, total]
    · simp [remK, bothK]
    · simp [bothK, total]
  | succ k ih =>
    intro hk
    have hk' : k < T.length := by omega
    have I := ih (by omega)
    have ht := FT.at k hk'
    have eU := addK_succ S T k hk'
    have eR := remK_succ S T k hk'
    have hts := total_snoc T k hk'
    have hcU := clip_same I.fitU FS T[k] ht.1 ht.2.2 (fun y h1 h2 => by
      rw [I.memU y]
      exact ⟨fun h => h.elim id (fun h => absurd h (fit_apart FT hk' y h1)), .inl⟩)
    have hcR := clip_same I.fitR FS T[k] ht.1 ht.2.2 (fun y h1 h2 => by
      rw [I.memR y]
      exact ⟨fun h => h.1, fun h => ⟨h, fit_apart FT hk' y h1⟩⟩)
    have hb : bothK S T (k + 1) = bothK S T k + total (clipL S T[k]) := by rw [bothK, nth_eq hk']
    have hbd := clipL_total_bd FS T[k] ht.1 ht.2.1 ht.2.2
    have haT := addL_total I.fitU T[k] ht.1 ht.2.2
    have hfr : freshOf (addK S T k) T[k] = T[k].2 - T[k].1 - total (clipL (addK S T k) T[k]) := by unfold freshOf; rw [if_neg (by omega)]
    have hrT := remL_total I.fitR T[k]
    have h1 := I.sumU
    have h2 := I.sumR
    have h3 := I.nonneg
    have h4 := I.le
    refine ⟨by rw [eU]; exact addL_fit I.fitU _ ht.1 ht.2.2, by rw [eR]; exact remL_fit I.fitR _ ht.1 ht.2.2, fun y => ?_, fun y => ?_, ?_, ?_, ?_, ?_, by omega, by omega⟩
    · rw [eU, addL_mem I.fitU, I.memU y, mem_take_succ hk']
      constructor
      · rintro ((h | h) | h)
        · exact .inl h
        · exact .inr (.inl h)
        · exact .inr (.inr h)
      · rintro (h | (h | h))
        · exact .inl (.inl h)
        · exact .inl (.inr h)
        · exact .inr h
    · rw [eR, remL_mem I.fitR, I.memR y, mem_take_succ hk']
      constructor
      · rintro ⟨⟨a, b⟩, c⟩
        exact ⟨a, fun h => h.elim b c⟩
      · rintro ⟨a, b⟩
        exact ⟨⟨a, fun h => b (.inl h)⟩, fun h => b (.inr h)⟩
    · rw [eU, haT, hfr, hcU, hb, hts]; omega
    · rw [eR, hrT, hcR, hb]; omega
    · rw [eU]; have := addL_length I.fitU T[k]; have := I.lenU; omega
    · rw [eR]; have := remL_length I.fitR T[k]; have := I.lenR; omega

end Go.Proofs.Ytjbjaklbckhodaa
