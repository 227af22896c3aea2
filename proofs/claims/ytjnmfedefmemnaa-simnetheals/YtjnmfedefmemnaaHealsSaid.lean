import Derived.Test.YtjnmfedefmemnaaOpen1
import Derived.Test.YtjnmfedefmemnaaHeals2
namespace Go.Proofs.Ytjnmfedefmemnaa
open Go.ChangeShapes Go.WideShapes Go.ChangeAt Go.RowKit Go.Deep

theorem bytes3 : Try.prog.bytesOf 3 = 8 := by kernel_rfl
theorem ints_slice {H : Type} {enc : TypeId × Value → H} {W : World} {sp : Nat → Bool} {held : Bool} {fuel len cap : Nat} {a : Option Addr} {x : DataW H × List MemPlace} (h : DataW.trod enc Try.prog W 0 sp held fuel 27 [.slice a len cap] = some x) : len = 0 ∨ ∃ elems sp, x.1 = .slice elems sp ∧ elems.length = len := by
  rcases open_slice Try.underlying27 h with ⟨hcs, _⟩ | ⟨ad, l, c, m, n, D, Pl, hcs, _, hl, hm, hmm, hx, hel⟩
  · simp at hcs
    exact .inl hcs.2.1
  · simp at hcs
    exact .inr ⟨_, _, by rw [hx], by simp [hcs.2.1]⟩
set_option maxRecDepth 100000 in
theorem heals_lifted (os : Os) (started : os.Started) (H : Type) (enc : TypeId × Value → H) :
    ReturnsInHanded {} Try.checked os 5 .any (Rows.simnetHealsSpec.pre6 enc Try.prog Try.f5 Rows.simnetHealsRow.domain false) (Rows.simnetHealsSpec.post enc Try.prog Try.f5 false true false false) := by
  refine returnsInHanded_of_change_sized (C := Try.checked) own started (by kernel_rfl) Try.func5
    (ChangeSpec.witness6 (enc := enc) (C := Try.checked) false ⟨#[], #[.slice none 0 0, .slice none 0 0, .slice none 0 0, .int .i64 0], []⟩ 8 (by kernel_rfl) (by kernel_rfl) (by kernel_rfl) (by kernel_rfl)) ?_
  intro W base args ds gs before hval0 hW _ hsz0 _
  have hsz : (DataW.weightsEach Try.prog (Try.f5.params.toList ++ Rows.simnetHealsSpec.plain.varTypes Try.prog) (ds ++ gs)).all (· ≤ reachBytes) = true := hsz0
  clear hsz0
  have hval : ∀ (j : Nat) t v, Try.f5.params[j]? = some t → args[j]? = some v → Value.okWide Try.prog W .any base t v := hval0
  have hW' := hW
  obtain ⟨p, q, hA0, hV, rfl, _, _⟩ := hW
  have hA : DataW.TrodAll enc Try.prog W 0 (fun _ => true) true Try.f5.params.toList args.toList ds p := hA0
  rw [Try.params5] at hA hval hsz
  obtain ⟨v0, v1, v2, v3, d0, d1, d2, d3, p0, p1, p2, p3, rfl, rfl, rfl, h0, h1, h2, h3⟩ := trodAll_four hA
  obtain ⟨rfl, rfl⟩ := trodVars_none hV
  obtain ⟨a0, len, cap, rfl⟩ := okWide_slice Try.underlying22 (hval 0 22 v0 rfl rfl)
  obtain ⟨a1, lenb, capb, rfl⟩ := okWide_slice Try.underlying27 (hval 1 27 v1 rfl rfl)
  obtain ⟨a2, lenp, capp, rfl⟩ := okWide_slice Try.underlying22 (hval 2 22 v2 rfl rfl)
  obtain ⟨x, rfl, rfl, rfl, wx⟩ := open_int Try.underlying3 (hval 3 3 v3 rfl rfl) h3
  have k0 := h0
  have k1 := h1
  have k2 := h2
  have lt0 : ∀ x ∈ p0, x.block < W.heap.size := by obtain ⟨m, hm⟩ := k0; exact DataW.trod_lt m _ _ _ hm
  have lt1 : ∀ x ∈ p1, x.block < W.heap.size := by obtain ⟨m, hm⟩ := k1; exact DataW.trod_lt m _ _ _ hm
  have lt2 : ∀ x ∈ p2, x.block < W.heap.size := by obtain ⟨m, hm⟩ := k2; exact DataW.trod_lt m _ _ _ hm
  obtain ⟨f, hfl, hF, hs0⟩ : ∃ f : List (BitVec 8), f.length = len ∧ BytesAt W a0 f ∧ (len = 0 ∨ ∃ elems rest, d0 = .slice elems rest ∧ elems.length = len) := by
    obtain ⟨fuel, hf⟩ := h0
    obtain ⟨f, e, hB, _, hs⟩ := open_bytes hf
    exact ⟨f, e, hB, hs⟩
  have hb0 : len ≤ 140737488351232 := by
    rcases hs0 with h | ⟨elems, sp, rfl, he⟩
    · omega
    · have := sized_slice hsz (j := 0) (t := 22) (e := 5) rfl rfl Try.underlying22
      rw [bytes5] at this
      simp only [reachBytes] at this
      omega
  obtain ⟨ps, hpl, hP, _⟩ : ∃ ps : List Int, ps.length = lenb ∧ CellsAt W a1 (ps.map (Value.int .i64)) ∧ lenb ≤ Rows.uptoBulk d1 := by
    obtain ⟨fuel, hf⟩ := h1
    exact open_ints hf
  have hb1 : lenb ≤ 140737488351232 := by
    have hs1 : lenb = 0 ∨ ∃ elems sp, d1 = .slice elems sp ∧ elems.length = lenb := by
      obtain ⟨fuel, hf⟩ := h1
      exact ints_slice hf
    rcases hs1 with h | ⟨elems, sp, rfl, he⟩
    · omega
    · have := sized_slice hsz (j := 1) (t := 27) (e := 3) rfl rfl Try.underlying27
      rw [bytes3] at this
      simp only [reachBytes] at this
      omega
  obtain ⟨ms, hml, hM, hs2⟩ : ∃ f : List (BitVec 8), f.length = lenp ∧ BytesAt W a2 f ∧ (lenp = 0 ∨ ∃ elems rest, d2 = .slice elems rest ∧ elems.length = lenp) := by
    obtain ⟨fuel, hf⟩ := h2
    obtain ⟨f, e, hB, _, hs⟩ := open_bytes hf
    exact ⟨f, e, hB, hs⟩
  have hb2 : lenp ≤ 140737488351232 := by
    rcases hs2 with h | ⟨elems, sp, rfl, he⟩
    · omega
    · have := sized_slice hsz (j := 2) (t := 22) (e := 5) rfl rfl Try.underlying22
      rw [bytes5] at this
      simp only [reachBytes] at this
      omega
  clear hA0 hval0
  refine (heals_any (capF := cap) (capA := capb) (capM := capp) x hF hfl hP hpl hM hml hb0 hb1 hb2).mono fun e W' ⟨he, bel⟩ => ?_
  subst he
  exact ⟨_, rfl, _, _, _, [], _, [], hW', trodAll_mk1 (shut_bool Try.underlying4 _), (trodAll_cons_mk (Below.trod laidOut (by kernel_rfl) (of_decide_eq_true (by kernel_rfl)) k0 bel lt0) (trodAll_cons_mk (Below.trod laidOut (by kernel_rfl) (of_decide_eq_true (by kernel_rfl)) k1 bel lt1) (trodAll_cons_mk (Below.trod laidOut (by kernel_rfl) (of_decide_eq_true (by kernel_rfl)) k2 bel lt2) (trodAll_cons_mk (shut_int Try.underlying3 wx) trodAll_mk0)))), rfl, bel.frame _, fun h => by cases h⟩

/-- What is spoilt twice with the same masks is as it was. -/
theorem heals_holds : Rows.SimnetHealsSaid :=
  OpenClaim.holds_of_wide 5 Try.f5 rfl rfl rfl rfl rfl rfl rfl ⟨rfl, rfl, rfl, rfl, rfl⟩ rfl rfl rfl rfl rfl (by kernel_rfl) Try.func5 (by kernel_rfl)
    (of_decide_eq_true (by kernel_rfl)) (by unfold Func.isWrapper; first | (rw [if_pos (by decide +kernel)]; kernel_rfl) | (rw [if_neg (by decide +kernel)]; exact ⟨rfl, rfl⟩))
    (fun os started H enc _ => heals_lifted os started H enc)
#print axioms heals_holds
end Go.Proofs.Ytjnmfedefmemnaa
