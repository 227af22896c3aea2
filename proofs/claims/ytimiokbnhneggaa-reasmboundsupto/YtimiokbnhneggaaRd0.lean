import Derived.Test.YtimiokbnhneggaaTk1
namespace Go.Proofs.Ytimiokbnhneggaa
open Go.RowKit Go.Maps Go.Sort
set_option maxRecDepth 100000

/-- How many bytes a Read of n answers. -/
def Bf.cnt (F : Bf) (n : Int) : Nat := (min n (F.gap - F.read)).toNat
def Bf.readOn (F : Bf) (n : Int) : Bf := { F with read := F.read + F.cnt n, L := remL F.L (0, F.read + F.cnt n) }
/-- The bytes from an offset on. -/
def bytesFrom (f : Int → BitVec 8) (x : Int) (k : Nat) : List (BitVec 8) := (List.range k).map fun (i : Nat) => f (x + (i : Int))
theorem bytesFrom_len (f : Int → BitVec 8) (x : Int) (k : Nat) : (bytesFrom f x k).length = k := by simp [bytesFrom]
theorem bytesFrom_get (f : Int → BitVec 8) (x : Int) (k i : Nat) (h : i < (bytesFrom f x k).length) : (bytesFrom f x k)[i] = f (x + i) := by simp [bytesFrom]
theorem gap_edge {F : Bf} (k : F.Ok) : F.read ≤ F.gap ∧ F.gap ≤ F.read + F.room ∧ (F.ends = true → F.gap ≤ F.fin) := by
  have h1 := gap_ge k.fit F.read
  have h2 := k.r0
  by_cases hg : F.gap = F.read
  · exact ⟨h1, by omega, fun e => by have := (k.fin3 e).1; omega⟩
  · obtain ⟨hl, f1, f2⟩ := first_at k hg
    have h3 := k.inn F.L[0] (List.getElem_mem hl)
    exact ⟨h1, by omega, fun e => by have := (k.fin3 e).2 F.L[0] (List.getElem_mem hl); omega⟩
theorem cnt_le {F : Bf} (k : F.Ok) {n : Int} (hn : 0 ≤ n) : (F.cnt n : Int) = min n (F.gap - F.read) ∧ F.read + F.cnt n ≤ F.gap := by
  have := gap_edge k
  unfold Bf.cnt
  omega
/-- What is left when all below x is gone. -/
theorem rem_below {F : Bf} (k : F.Ok) {x : Int} (y : Int) : mem (remL F.L (0, x)) y ↔ mem F.L y ∧ x ≤ y := by
  rw [remL_mem k.fit]
  constructor
  · rintro ⟨h1, h2⟩
    have := mem_le k.fit h1
    simp only at h2
    exact ⟨h1, by omega⟩
  · rintro ⟨h1, h2⟩
    exact ⟨h1, by simp only; omega⟩
theorem readOn_ok {F : Bf} (k : F.Ok) {n : Int} (hn : 0 ≤ n) (hm : F.read + F.room ≤ F.base + 2305843009213693952) : (F.readOn n).Ok := by
  obtain ⟨c1, c2⟩ := cnt_le k hn
  obtain ⟨g1, g2, g3⟩ := gap_edge k
  have hb := k.b0
  have hb1 := k.b1
  have hrd := k.rd
  have hfit := remL_fit k.fit (0, F.read + F.cnt n) (by simp) (by simp only; omega)
  have hmem := rem_below k (x := F.read + F.cnt n)
  have hgap : gapOf (remL F.L (0, F.read + F.cnt n)) (F.read + F.cnt n) = F.gap := by
    refine gap_unique hfit _ _ c2 (fun z h1 h2 => ?_) (fun e => ?_)
    · exact (hmem z).2 ⟨gap_all k.fit F.read z (by omega) h2, h1⟩
    · exact gap_not k.fit F.read ((hmem _).1 e).1
  have hin : ∀ r ∈ remL F.L (0, F.read + F.cnt n), F.read + F.cnt n ≤ r.1 ∧ r.2 ≤ F.read + F.room ∧ (F.ends = true → r.2 ≤ F.fin) := fun r hr => by
    have h1 := hfit.1 r hr
    have m1 := (hmem r.1).1 ⟨r, hr, Int.le_refl _, h1.2.1⟩
    have m2 := (hmem (r.2 - 1)).1 ⟨r, hr, by omega, by omega⟩
    obtain ⟨t, ht, a1, a2⟩ := m2.1
    have := k.inn t ht
    refine ⟨m1.2, by omega, fun e => ?_⟩
    have := (k.fin3 e).2 t ht
    omega
  refine ⟨hfit, k.b0, k.b1, k.r0, k.r1, k.g0, k.g1, ?_, ?_, ?_, fun r hr => ?_, ?_, k.fin0, ?_, k.fin2, fun e => ⟨?_, fun r hr => (hin r hr).2.2 e⟩⟩
  · show F.base ≤ F.read + F.cnt n; omega
  · show F.read + F.cnt n ≤ 9223372036854775807; omega
  · show F.read + F.cnt n ≤ F.base + 2305843009213693952; omega
  · have := hin r hr
    show F.read + F.cnt n ≤ r.1 ∧ r.2 ≤ F.read + F.cnt n + F.room
    omega
  · show ((remL F.L (0, F.read + F.cnt n)).length : Int) - (if gapOf (remL F.L (0, F.read + F.cnt n)) (F.read + F.cnt n) ≠ F.read + F.cnt n then 1 else 0) ≤ F.gaps
    rw [hgap]
    have hfew := k.few
    unfold Bf.apart at hfew
    by_cases hg : F.gap = F.read
    · have e0 : remL F.L (0, F.read + F.cnt n) = F.L := fit_ext _ _ hfit k.fit (fun y => by
        rw [hmem]
        constructor
        · exact fun h => h.1
        · intro h
          obtain ⟨t, ht, a1, a2⟩ := h
          have := k.inn t ht
          exact ⟨⟨t, ht, a1, a2⟩, by omega⟩)
      rw [e0]
      rw [if_neg (by simp [hg])] at hfew
      rw [if_neg (by simp; omega)]
      exact hfew
    · rw [if_pos hg] at hfew
      obtain ⟨hl, f1, f2⟩ := first_at k hg
      cases hL : F.L with
      | nil => rw [hL] at hl; simp at hl
      | cons r0 l =>
        simp only [hL, List.getElem_cons_zero] at f1 f2
        have hk := k.fit
        rw [hL] at hk
        have hl2 : Fit l := ⟨fun r hr => hk.1 r (by simp [hr]), (List.pairwise_cons.1 hk.2).2⟩
        have hpl := (List.pairwise_cons.1 hk.2).1
        rw [hL, List.length_cons] at hfew
        have hsplit : ∀ y, mem F.L y ↔ (F.read ≤ y ∧ y < F.gap) ∨ mem l y := fun y => by
          rw [hL]
          unfold mem
          simp only [List.mem_cons, exists_eq_or_imp, f1, f2]
        have hgt : ∀ y, mem l y → F.gap < y := fun y hy => by
          obtain ⟨t, ht, a1, a2⟩ := hy
          have := hpl t ht
          omega
        by_cases hx : F.read + F.cnt n = F.gap
        · have e0 : remL F.L (0, F.read + F.cnt n) = l := fit_ext _ _ hfit hl2 (fun y => by
            rw [hmem, hsplit]
            constructor
            · rintro ⟨h | h, h'⟩
              · omega
              · exact h
            · intro h
              exact ⟨.inr h, by have := hgt y h; omega⟩)
          rw [← hL, e0, if_neg (by simp; omega)]
          omega
        · have hfc : Fit ((F.read + F.cnt n, F.gap) :: l) := by
            have h1 := hk.1 r0 (by simp)
            refine ⟨fun r hr => ?_, List.pairwise_cons.2 ⟨fun t ht => ?_, hl2.2⟩⟩
            · rcases List.mem_cons.1 hr with rfl | hr
              · simp only; omega
              · exact hl2.1 r hr
            · have := hpl t ht
              simp only
              omega
          have e0 : remL F.L (0, F.read + F.cnt n) = (F.read + F.cnt n, F.gap) :: l := fit_ext _ _ hfit hfc (fun y => by
            rw [hmem, hsplit]
            unfold mem
            simp only [List.mem_cons, exists_eq_or_imp]
            constructor
            · rintro ⟨h | h, h'⟩
              · exact .inl ⟨by omega, by omega⟩
              · exact .inr h
            · rintro (h | h)
              · exact ⟨.inl ⟨by omega, by omega⟩, by omega⟩
              · exact ⟨.inr h, by have := hgt y h; omega⟩)
          rw [← hL, e0, if_pos (by omega), List.length_cons]
          omega
  · show F.fin ≤ F.read + F.cnt n + F.room
    have := k.fin1
    omega
  · show F.read + F.cnt n ≤ F.fin
    have := g3 e
    omega
end Go.Proofs.Ytimiokbnhneggaa
