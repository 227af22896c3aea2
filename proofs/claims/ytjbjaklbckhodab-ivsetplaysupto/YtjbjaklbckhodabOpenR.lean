import Derived.Test.YtjbjaklbckhodabOpen
import Derived.ChangeOld
namespace Go.Proofs.Ytjbjaklbckhodab
open Go.ChangeShapes Go.WideShapes Go.ChangeAt Go.RowKit Go.Deep
set_option maxRecDepth 100000

section
variable {H : Type} {enc : TypeId × Value → H} {W : World}
theorem open_rgsA {fuel len cap : Nat} {a : Option Addr} {x : DataW H × List MemPlace} (h : DataW.trod enc Try.prog W 0 (fun _ => true) true fuel 22 [.slice a len cap] = some x) :
    ∃ L : List Rg, L.length = len ∧ Cells W a L ∧ (∀ r ∈ L, (0 ≤ r.1 ∧ r.1 ≤ 18446744073709551615) ∧ (0 ≤ r.2 ∧ r.2 ≤ 18446744073709551615)) ∧ (len = 0 ∨ ∃ elems sp, x.1 = .slice elems sp ∧ elems.length = len) := by
  rcases open_slice Try.underlying22 h with ⟨hcs, _⟩ | ⟨ad, l, c, m, n, D, Pl, hcs, _, hl, hm, hmm, hx, hel⟩
  · simp at hcs
    obtain ⟨rfl, rfl, rfl⟩ := hcs
    exact ⟨[], rfl, ⟨fun h => absurd rfl h⟩, by simp, .inl rfl⟩
  · simp at hcs
    obtain ⟨rfl, rfl, rfl⟩ := hcs
    simp only [if_true] at hmm
    subst hmm
    have each : ∀ i, i < m → ∃ r : Rg, W.cell? (ad.add (i * 2)) = some (.int .u64 r.1) ∧ W.cell? (ad.add (i * 2 + 1)) = some (.int .u64 r.2) ∧ (0 ≤ r.1 ∧ r.1 ≤ 18446744073709551615) ∧ (0 ≤ r.2 ∧ r.2 ≤ 18446744073709551615) := by
      intro i hi
      obtain ⟨cs', h1, h2⟩ := hel i hi
      rw [cells29] at h1
      obtain ⟨_, hlen, hcell⟩ := World.cells?_some h1
      obtain ⟨lo, hi', rfl, w1, w2⟩ := open_rg h2
      have e0 := hcell 0 (by omega)
      have e1 := hcell 1 (by omega)
      rw [add_add] at e0 e1
      exact ⟨(lo, hi'), by simpa using e0, by simpa using e1, w1, w2⟩
    obtain ⟨f, hf⟩ := choose_lt each
    refine ⟨(List.range len).map f, by simp, ⟨fun hne => ⟨ad, rfl, fun j v hj => ?_⟩⟩, fun r hr => ?_, ?_⟩
    · have hjl : j < len * 2 := by have := (List.getElem?_eq_some_iff.1 hj).1; rw [length_flat] at this; simpa using this
      have hk : j / 2 < ((List.range len).map f).length := by simp; omega
      have hg := flat_get ((List.range len).map f) (j / 2) hk
      have hh := hf (j / 2) (by omega)
      have e : ((List.range len).map f)[j / 2] = f (j / 2) := by simp
      rw [e] at hg
      by_cases he : j % 2 = 0
      · rw [show j / 2 * 2 = j by omega] at hg hh
        rw [hg.1] at hj
        rw [hh.1, hj]
      · rw [show j / 2 * 2 + 1 = j by omega] at hg hh
        rw [hg.2] at hj
        rw [hh.2.1, hj]
    · simp only [List.mem_map, List.mem_range] at hr
      obtain ⟨i, hi, rfl⟩ := hr
      exact (hf i (by omega)).2.2
    · right
      exact ⟨_, _, by rw [hx], by simp⟩
theorem open_rgArgA {rc : Reach} {b0 : Nat} {v : Value} {d : DataW H} {ps : List MemPlace} (hval : Value.okWide Try.prog W rc b0 25 v) (hd : DataW.Trod enc Try.prog W 0 (fun _ => true) true 25 v d ps) :
    ∃ lo hi : Int, v = .agg #[.int .u64 lo, .int .u64 hi] ∧ (0 ≤ lo ∧ lo ≤ 18446744073709551615) ∧ (0 ≤ hi ∧ hi ≤ 18446744073709551615) := by
  unfold Value.okWide at hval
  rw [Try.underlying25] at hval
  obtain ⟨cs, rfl, _, _⟩ := hval
  obtain ⟨fuel, hf⟩ := hd
  obtain ⟨lo, hi, e, h1, h2⟩ := open_rg hf
  refine ⟨lo, hi, ?_, h1, h2⟩
  simp only [Value.cells] at e
  rw [show cs = #[.int .u64 lo, .int .u64 hi] from Array.toList_inj.1 e]
end
end Go.Proofs.Ytjbjaklbckhodab
