import Derived.Test.YtnohammflhadpaaSb37
namespace Go.Proofs.Ytnohammflhadpaa
open Go.RowKit Go.Maps Go.Sort
set_option maxRecDepth 100000

/-- What the lowest chunk is. -/
theorem low_spec (F : Sb) (fr : Int) : ∀ (L : List Ck) (c : Ck), F.lowFrom fr L = some c → ∃ (k : Nat) (h : k < L.length), L[k] = c ∧ F.mayGo c = true ∧ c.free fr = true
  | [], c, h => by simp [Sb.lowFrom] at h
  | d :: r, c, h => by
    unfold Sb.lowFrom at h
    split at h
    · rename_i h1
      split at h
      · rename_i h2
        cases h
        exact ⟨0, by simp, rfl, h1, h2⟩
      · obtain ⟨k, hk, e, h3, h4⟩ := low_spec F fr r c h
        exact ⟨k + 1, by simpa using hk, by simpa using e, h3, h4⟩
    · cases h
/-- One that is free of more lies no higher. -/
theorem low_le (F : Sb) (fr fr' : Int) : ∀ (L : List Ck) (c : Ck), F.lowFrom fr L = some c → c.free fr' = true → L.Pairwise (fun c d => c.off < d.off) → ∃ d, F.lowFrom fr' L = some d ∧ d.off ≤ c.off
  | [], c, h, _, _ => by simp [Sb.lowFrom] at h
  | d :: r, c, h, hc, hp => by
    unfold Sb.lowFrom at h
    split at h
    · rename_i h1
      by_cases h3 : d.free fr' = true
      · refine ⟨d, by unfold Sb.lowFrom; rw [if_pos h1, if_pos h3], ?_⟩
        split at h
        · cases h
          exact Int.le_refl _
        · obtain ⟨k, hk, e, _⟩ := low_spec F fr r c h
          exact Int.le_of_lt ((List.pairwise_cons.1 hp).1 c (e ▸ List.getElem_mem hk))
      · split at h
        · cases h
          exact absurd hc h3
        · obtain ⟨e, he, hle⟩ := low_le F fr fr' r c h hc (List.pairwise_cons.1 hp).2
          exact ⟨e, by unfold Sb.lowFrom; rw [if_pos h1, if_neg h3]; exact he, hle⟩
    · cases h
theorem and_all (x : Int) (h0 : 0 ≤ x) (h1 : x ≤ 255) : bits BinOp.and IntKind.u8 x 255 = x := by
  show IntKind.u8.wrap ((BitVec.ofInt 8 x &&& BitVec.ofInt 8 255).toNat : Int) = x
  rw [show BitVec.ofInt 8 255 = BitVec.allOnes 8 from by decide, BitVec.and_allOnes, BitVec.toNat_ofInt, IntKind.wrap_u8']
  omega
theorem free_all {c : Ck} (h0 : 0 ≤ c.on) (h1 : c.on ≤ 255) (h : c.free 255 = true) : c.held = false ∧ c.on = 0 := by
  unfold Ck.free at h
  rw [Bool.and_eq_true] at h
  have h2 := h.2
  rw [and_all c.on h0 h1] at h2
  exact ⟨by simpa using h.1, by simpa using h2⟩
theorem free_zero {c : Ck} (hh : c.held = false) (ho : c.on = 0) {x : Nat} (hx : x < 8) : c.free (bit x) = true := by
  unfold Ck.free
  rw [hh, ho, (bit_or x hx).2.1]
  decide
theorem onUp_zero : onUp 0 8 = [] := by decide
theorem onUp_mem {on : Int} {p : Int} (h : p ∈ onUp on 8) : ∃ k : Nat, k < 8 ∧ p = k ∧ onB on k = true := by
  unfold onUp at h
  obtain ⟨k, hk, rfl⟩ := List.mem_map.1 h
  obtain ⟨h1, h2⟩ := List.mem_filter.1 hk
  exact ⟨k, by simpa using h1, rfl, h2⟩
theorem free_off {c : Ck} {x : Int} (h : c.free (bit x) = true) : c.held = false ∧ onB c.on x = false := by
  unfold Ck.free at h
  rw [Bool.and_eq_true] at h
  refine ⟨by simpa using h.1, ?_⟩
  unfold onB
  have := h.2
  simp only [beq_iff_eq] at this
  rw [this]
  decide
theorem mayOn_yes {F : Sb} {c : Ck} {x : Nat} (hx : x < 8) (hg : F.mayGo c = true) (hf : c.free (bit x) = true) : F.mayOn c (bit x) = true := by
  unfold Sb.mayOn
  rw [hg, hf]
  simp [(bit_or x hx).1]
theorem mayOn_bad (F : Sb) (c : Ck) {x : Int} (hx : x < 0 ∨ 8 ≤ x) : F.mayOn c (bit x) = false := by
  unfold Sb.mayOn bit
  rw [if_pos hx]
  simp
theorem nxt_bad (F : Sb) {x : Int} (hx : x < 0 ∨ 8 ≤ x) : F.nxt x = none := by
  unfold Sb.nxt bit
  rw [if_pos hx, if_pos rfl]
theorem nxt_low (F : Sb) {x : Nat} (hx : x < 8) : F.nxt x = F.low (bit x) := by
  unfold Sb.nxt
  rw [if_neg (bit_or x hx).1]
end Go.Proofs.Ytnohammflhadpaa
