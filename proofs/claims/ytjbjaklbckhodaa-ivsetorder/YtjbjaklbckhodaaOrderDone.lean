import Derived.Test.YtjbjaklbckhodaaOrder
import Derived.Test.YtjbjaklbckhodaaGapsDone
namespace Go.Proofs.Ytjbjaklbckhodaa
open Go.ChangeShapes Go.WideShapes Go.ChangeAt Go.RowKit Go.Deep

theorem bytes27 : Try.prog.bytesOf 27 = 8 := by kernel_rfl

section
variable {H : Type} {enc : TypeId × Value → H} {W : World}
theorem open_nums {fuel len cap : Nat} {a : Option Addr} {x : DataW H × List MemPlace} (h : DataW.trod enc Try.prog W 0 (fun _ => true) true fuel 23 [.slice a len cap] = some x) :
    ∃ Z : List Int, Z.length = len ∧ Nums W a Z ∧ (len = 0 ∨ ∃ elems sp, x.1 = .slice elems sp ∧ elems.length = len) := by
  rcases open_slice Try.underlying23 h with ⟨hcs, _⟩ | ⟨ad, l, c, m, n, D, Pl, hcs, _, hl, hm, hmm, hx, hel⟩
  · simp at hcs
    obtain ⟨rfl, rfl, rfl⟩ := hcs
    exact ⟨[], rfl, ⟨fun i h => by simp at h⟩, .inl rfl⟩
  · simp at hcs
    obtain ⟨rfl, rfl, rfl⟩ := hcs
    simp only [if_true] at hmm
    subst hmm
    have each : ∀ i, i < m → ∃ z : Int, W.cell? (ad.add i) = some (.int .u64 z) := by
      intro i hi
      obtain ⟨cs', h1, h2⟩ := hel i hi
      rw [cells27] at h1
      obtain ⟨_, hlen, hcell⟩ := World.cells?_some h1
      obtain ⟨z, e, _, _⟩ := DataW.trod_int Try.underlying27 h2
      subst e
      have e0 := hcell 0 (by omega)
      rw [add_add] at e0
      exact ⟨z, by simpa using e0⟩
    obtain ⟨f, hf⟩ := choose_lt each
    refine ⟨(List.range len).map f, by simp, ⟨fun i h => ?_⟩, ?_⟩
    · have hi : i < len := by simpa using h
      have h0 := hf 0 (by omega)
      have hs : ad.spot = none := World.cell?_spot (a := ad) (by simpa [Addr.add] using h0)
      have hh := hf i (by omega)
      have e : ((List.range len).map f)[i] = f i := by simp
      rw [e]
      refine ⟨ad.block, ad.off, by cases ad; simp only at hs; subst hs; rfl, ?_⟩
      rwa [addr_off hs] at hh
    · right
      exact ⟨_, _, by rw [hx], by simp⟩
end

set_option maxRecDepth 100000 in
theorem order_lifted (os : Os) (started : os.Started) (H : Type) (enc : TypeId × Value → H) :
    ReturnsInHanded {} Try.checked os 3 .any (Rows.ivsetOrderSpec.pre6 enc Try.prog Try.f3 Rows.ivsetOrderRow.domain false) (Rows.ivsetOrderSpec.post enc Try.prog Try.f3 false true false false) := by
  refine returnsInHanded_of_change_sized (C := Try.checked) own started (by kernel_rfl) Try.func3
    (ChangeSpec.witness6 (enc := enc) (C := Try.checked) false ⟨#[], #[.slice none 0 0, .slice none 0 0, .int .i64 0], []⟩ 8 (by kernel_rfl) (by kernel_rfl) (by kernel_rfl) (by kernel_rfl)) ?_
  intro W base args ds gs before hval0 hW _ hsz0 _
  have hsz : (DataW.weightsEach Try.prog (Try.f3.params.toList ++ Rows.ivsetOrderSpec.plain.varTypes Try.prog) (ds ++ gs)).all (· ≤ reachBytes) = true := hsz0
  clear hsz0
  have hval : ∀ (j : Nat) t v, Try.f3.params[j]? = some t → args[j]? = some v → Value.okWide Try.prog W .any base t v := hval0
  have hW' := hW
  obtain ⟨p, q, hA0, hV, rfl, _, _⟩ := hW
  have hA : DataW.TrodAll enc Try.prog W 0 (fun _ => true) true Try.f3.params.toList args.toList ds p := hA0
  rw [Try.params3] at hA hval hsz
  obtain ⟨v0, v1, v2, d0, d1, d2, p0, p1, p2, rfl, rfl, rfl, h0, h1, h2⟩ := trodAll_three hA
  obtain ⟨rfl, rfl⟩ := trodVars_none hV
  obtain ⟨a0, len, cap, rfl⟩ := okWide_slice Try.underlying22 (hval 0 22 v0 rfl rfl)
  obtain ⟨a1, lenz, capz, rfl⟩ := okWide_slice Try.underlying23 (hval 1 23 v1 rfl rfl)
  obtain ⟨x, rfl, rfl, rfl, wx⟩ := open_int Try.underlying3 (hval 2 3 v2 rfl rfl) h2
  have k0 := h0
  have k1 := h1
  have lt0 : ∀ x ∈ p0, x.block < W.heap.size := by obtain ⟨m, hm⟩ := k0; exact DataW.trod_lt m _ _ _ hm
  have lt1 : ∀ x ∈ p1, x.block < W.heap.size := by obtain ⟨m, hm⟩ := k1; exact DataW.trod_lt m _ _ _ hm
  obtain ⟨L, rfl, hC, hwf, hsl⟩ : ∃ L : List Rg, L.length = len ∧ Cells W a0 L ∧ (∀ r ∈ L, (0 ≤ r.1 ∧ r.1 ≤ 18446744073709551615) ∧ (0 ≤ r.2 ∧ r.2 ≤ 18446744073709551615)) ∧ (len = 0 ∨ ∃ elems sp, d0 = .slice elems sp ∧ elems.length = len) := by
    obtain ⟨fuel, hf⟩ := h0
    exact open_rgs hf
  obtain ⟨Z, rfl, hZ, hsz1⟩ : ∃ Z : List Int, Z.length = lenz ∧ Nums W a1 Z ∧ (lenz = 0 ∨ ∃ elems sp, d1 = .slice elems sp ∧ elems.length = lenz) := by
    obtain ⟨fuel, hf⟩ := h1
    exact open_nums hf
  have hlen : (L.length + 1) * 16 ≤ 140737488355328 := by
    rcases hsl with h | ⟨elems, sp, rfl, he⟩
    · omega
    · have := sized_slice hsz (j := 0) (t := 22) (e := 29) rfl rfl Try.underlying22
      rw [bytes29] at this
      simp only [reachBytes] at this
      omega
  have hlz : Z.length * 8 ≤ 140737488355328 := by
    rcases hsz1 with h | ⟨elems, sp, rfl, he⟩
    · omega
    · have := sized_slice hsz (j := 1) (t := 23) (e := 27) rfl rfl Try.underlying23
      rw [bytes27] at this
      simp only [reachBytes] at this
      omega
  clear hA0 hval0
  refine (order_any (cap := cap) (cb := capz) hC hZ hlen hlz (fun r hr => ⟨(hwf r hr).1.1, (hwf r hr).2.2⟩) x).mono fun e W' ⟨he, bel⟩ => ?_
  subst he
  exact ⟨_, rfl, _, _, _, [], _, [], hW', trodAll_mk1 (shut_bool Try.underlying4 _), (trodAll_cons_mk (Below.trod laidOut (by kernel_rfl) (of_decide_eq_true (by kernel_rfl)) k0 bel lt0) (trodAll_cons_mk (Below.trod laidOut (by kernel_rfl) (of_decide_eq_true (by kernel_rfl)) k1 bel lt1) (trodAll_cons_mk (shut_int Try.underlying3 wx) trodAll_mk0))), rfl, bel.frame _, fun h => by cases h⟩

theorem order_over : Rows.ivsetOrderRow.holds Try.pinned (OpenSpec.ofChange Rows.ivsetOrderSpec) :=
  OpenClaim.holds_of_wide 3 Try.f3 rfl rfl rfl rfl rfl rfl rfl ⟨rfl, rfl, rfl, rfl, rfl⟩ rfl rfl rfl rfl rfl (by kernel_rfl) Try.func3 (by kernel_rfl)
    (of_decide_eq_true (by kernel_rfl)) (by unfold Func.isWrapper; first | (rw [if_pos (by decide +kernel)]; kernel_rfl) | (rw [if_neg (by decide +kernel)]; exact ⟨rfl, rfl⟩))
    (fun os started H enc _ => order_lifted os started H enc)

/-- The same ranges in any other order, and cut in two each, make the same set. -/
theorem order_holds : Rows.IvsetOrderSaid := order_over
#print axioms order_holds
end Go.Proofs.Ytjbjaklbckhodaa
