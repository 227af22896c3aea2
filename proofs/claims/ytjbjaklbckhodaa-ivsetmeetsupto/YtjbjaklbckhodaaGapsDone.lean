import Derived.Test.YtjbjaklbckhodaaGaps
import Derived.Test.YtjbjaklbckhodaaOpen
import Derived.ChangeOld
namespace Go.Proofs.Ytjbjaklbckhodaa
open Go.ChangeShapes Go.WideShapes Go.ChangeAt Go.RowKit Go.Deep

section
variable {H : Type} {enc : TypeId × Value → H} {W : World}
theorem open_rgs {fuel len cap : Nat} {a : Option Addr} {x : DataW H × List MemPlace} (h : DataW.trod enc Try.prog W 0 (fun _ => true) true fuel 22 [.slice a len cap] = some x) :
    ∃ L : List Rg, L.length = len ∧ Cells W a L ∧ (∀ r ∈ L, (0 ≤ r.1 ∧ r.1 ≤ 18446744073709551615) ∧ (0 ≤ r.2 ∧ r.2 ≤ 18446744073709551615)) ∧ (len = 0 ∨ ∃ elems sp, x.1 = .slice elems sp ∧ elems.length = len) := by
  rcases open_slice Try.underlying22 h with ⟨hcs, _⟩ | ⟨ad, l, c, m, n, D, Pl, hcs, _, hl, hm, hmm, hx, hel⟩
  · simp at hcs
    obtain ⟨rfl, rfl, rfl⟩ := hcs
    exact ⟨[], rfl, ⟨fun h => absurd rfl h⟩, by simp, .inl rfl⟩
  · simp at hcs
    obtain ⟨rfl, rfl, rfl⟩ := hcs
    simp only [if_true] at hmm
    subst hmm
    have each : ∀ i, i < m → ∃ r : Rg, W.cell? (ad.add (i * 2)) = some (.int .u64 r.1) ∧ W.cell? (ad.add (i * 2 + 1)) = some (.int .u64 r.2) ∧ (0 ≤ r.1 ∧ r.1 ≤ 18446744073709551615) ∧ (0 ≤ r.2 ∧ r.2 ≤ 18446744073709551615) := by
      intro i hi
      obtain ⟨cs', h1, h2⟩ := hel i hi
      rw [cells29] at h1
      obtain ⟨_, hlen, hcell⟩ := World.cells?_some h1
      obtain ⟨lo, hi', rfl, w1, w2⟩ := open_rg h2
      have e0 := hcell 0 (by omega)
      have e1 := hcell 1 (by omega)
      rw [add_add] at e0 e1
      exact ⟨(lo, hi'), by simpa using e0, by simpa using e1, w1, w2⟩
    obtain ⟨f, hf⟩ := choose_lt each
    refine ⟨(List.range len).map f, by simp, ⟨fun hne => ⟨ad, rfl, fun j v hj => ?_⟩⟩, fun r hr => ?_, ?_⟩
    · have hjl : j < len * 2 := by have := (List.getElem?_eq_some_iff.1 hj).1; rw [length_flat] at this; simpa using this
      have hk : j / 2 < ((List.range len).map f).length := by simp; omega
      have hg := flat_get ((List.range len).map f) (j / 2) hk
      have hh := hf (j / 2) (by omega)
      have e : ((List.range len).map f)[j / 2] = f (j / 2) := by simp
      rw [e] at hg
      by_cases he : j % 2 = 0
      · rw [show j / 2 * 2 = j by omega] at hg hh
        rw [hg.1] at hj
        rw [hh.1, hj]
      · rw [show j / 2 * 2 + 1 = j by omega] at hg hh
        rw [hg.2] at hj
        rw [hh.2.1, hj]
    · simp only [List.mem_map, List.mem_range] at hr
      obtain ⟨i, hi, rfl⟩ := hr
      exact (hf i (by omega)).2.2
    · right
      exact ⟨_, _, by rw [hx], by simp⟩
end

set_option maxRecDepth 100000 in
theorem gaps_lifted (os : Os) (started : os.Started) (H : Type) (enc : TypeId × Value → H) :
    ReturnsInHanded {} Try.checked os 6 .any (Rows.ivsetGapsSpec.pre6 enc Try.prog Try.f6 Rows.ivsetGapsRow.domain false) (Rows.ivsetGapsSpec.post enc Try.prog Try.f6 false true false false) := by
  refine returnsInHanded_of_change_sized (C := Try.checked) own started (by kernel_rfl) Try.func6
    (ChangeSpec.witness6 (enc := enc) (C := Try.checked) false ⟨#[], #[.slice none 0 0, .int .u64 0, .int .u64 0], []⟩ 8 (by kernel_rfl) (by kernel_rfl) (by kernel_rfl) (by kernel_rfl)) ?_
  intro W base args ds gs before hval0 hW _ hsz0 _
  have hsz : (DataW.weightsEach Try.prog (Try.f6.params.toList ++ Rows.ivsetGapsSpec.plain.varTypes Try.prog) (ds ++ gs)).all (· ≤ reachBytes) = true := hsz0
  clear hsz0
  have hval : ∀ (j : Nat) t v, Try.f6.params[j]? = some t → args[j]? = some v → Value.okWide Try.prog W .any base t v := hval0
  have hW' := hW
  obtain ⟨p, q, hA0, hV, rfl, _, _⟩ := hW
  have hA : DataW.TrodAll enc Try.prog W 0 (fun _ => true) true Try.f6.params.toList args.toList ds p := hA0
  rw [Try.params6] at hA hval hsz
  obtain ⟨v0, v1, v2, d0, d1, d2, p0, p1, p2, rfl, rfl, rfl, h0, h1, h2⟩ := trodAll_three hA
  obtain ⟨rfl, rfl⟩ := trodVars_none hV
  obtain ⟨a0, len, cap, rfl⟩ := okWide_slice Try.underlying22 (hval 0 22 v0 rfl rfl)
  obtain ⟨x, rfl, rfl, rfl, wx⟩ := open_int Try.underlying27 (hval 1 27 v1 rfl rfl) h1
  obtain ⟨y, rfl, rfl, rfl, wy⟩ := open_int Try.underlying27 (hval 2 27 v2 rfl rfl) h2
  have k0 := h0
  have lt0 : ∀ x ∈ p0, x.block < W.heap.size := by obtain ⟨m, hm⟩ := k0; exact DataW.trod_lt m _ _ _ hm
  obtain ⟨L, rfl, hC, hwf, hsl⟩ : ∃ L : List Rg, L.length = len ∧ Cells W a0 L ∧ (∀ r ∈ L, (0 ≤ r.1 ∧ r.1 ≤ 18446744073709551615) ∧ (0 ≤ r.2 ∧ r.2 ≤ 18446744073709551615)) ∧ (len = 0 ∨ ∃ elems sp, d0 = .slice elems sp ∧ elems.length = len) := by
    obtain ⟨fuel, hf⟩ := h0
    exact open_rgs hf
  have hlen : (L.length + 2) * 16 ≤ 140737488355328 := by
    rcases hsl with h | ⟨elems, sp, rfl, he⟩
    · omega
    · have := sized_slice hsz (j := 0) (t := 22) (e := 29) rfl rfl Try.underlying22
      rw [bytes29] at this
      simp only [reachBytes] at this
      omega
  clear hA0 hval0
  refine (gaps_any (cap := cap) hC hlen (fun r hr => ⟨(hwf r hr).1.1, (hwf r hr).2.2⟩) x y (wf_u64 wx).1 (wf_u64 wx).2).mono fun e W' ⟨he, bel⟩ => ?_
  subst he
  exact ⟨_, rfl, _, _, _, [], _, [], hW', trodAll_mk1 (shut_bool Try.underlying4 _), (trodAll_cons_mk (Below.trod laidOut (by kernel_rfl) (of_decide_eq_true (by kernel_rfl)) k0 bel lt0) (trodAll_cons_mk (shut_int Try.underlying27 wx) (trodAll_cons_mk (shut_int Try.underlying27 wy) trodAll_mk0))), rfl, bel.frame _, fun h => by cases h⟩

theorem gaps_over : Rows.ivsetGapsRow.holds Try.pinned (OpenSpec.ofChange Rows.ivsetGapsSpec) :=
  OpenClaim.holds_of_wide 6 Try.f6 rfl rfl rfl rfl rfl rfl rfl ⟨rfl, rfl, rfl, rfl, rfl⟩ rfl rfl rfl rfl rfl (by kernel_rfl) Try.func6 (by kernel_rfl)
    (of_decide_eq_true (by kernel_rfl)) (by unfold Func.isWrapper; first | (rw [if_pos (by decide +kernel)]; kernel_rfl) | (rw [if_neg (by decide +kernel)]; exact ⟨rfl, rfl⟩))
    (fun os started H enc _ => gaps_lifted os started H enc)

/-- Gap is not there, and all ahead of it is; behind Below nothing below is there. -/
theorem gaps_holds : Rows.IvsetGapsSaid := gaps_over
#print axioms gaps_holds
end Go.Proofs.Ytjbjaklbckhodaa
