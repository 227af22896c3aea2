import Derived.Test.YtnohammflhadpaaOw2
import Derived.Test.YtnohammflhadpaaSOpen
namespace Go.Proofs.Ytnohammflhadpaa
open Go.ChangeShapes Go.WideShapes Go.ChangeAt Go.RowKit Go.Deep
set_option maxRecDepth 100000

section
variable {H : Type} {enc : TypeId × Value → H} {W : World}
/-- Ints that were handed in. -/
theorem open_ints {sp : Nat → Bool} {held : Bool} {fuel len cap : Nat} {a : Option Addr} {x : DataW H × List MemPlace} (h : DataW.trod enc Try.prog W 0 sp held fuel 30 [.slice a len cap] = some x) (hw : ∀ k ∈ x.1.weights Try.prog 30, k ≤ reachBytes) :
    ∃ l : List Int, l.length = len ∧ Ix.IntsIn W a l ∧ len ≤ 140737488355328 := by
  rcases open_slice Try.underlying30 h with ⟨hcs, _⟩ | ⟨ad, l, c, m, n, D, Pl, hcs, _, hl, hm, hmm, hx, hel⟩
  · simp at hcs
    obtain ⟨rfl, rfl, rfl⟩ := hcs
    exact ⟨[], rfl, fun i h => by simp at h, Nat.zero_le _⟩
  · simp at hcs
    obtain ⟨rfl, rfl, rfl⟩ := hcs
    have hlm : len ≤ m := by rw [hmm]; split <;> omega
    have each : ∀ i, i < m → ∃ z : Int, W.cell? (ad.add i) = some (.int .i64 z) := by
      intro i hi
      obtain ⟨cs', h1, h2⟩ := hel i hi
      rw [cells3] at h1
      obtain ⟨_, hlen, hcell⟩ := World.cells?_some h1
      obtain ⟨z, e, _, _⟩ := DataW.trod_int Try.underlying3 h2
      have := hcell 0 (by omega)
      rw [add_add, e] at this
      exact ⟨z, by simpa using this⟩
    obtain ⟨f, hf⟩ := choose_lt each
    have hle : len ≤ 140737488355328 := by
      have h1 := hw ((((List.range len).map D).length + _) * Try.prog.bytesOf 3) (by
        rw [hx]
        simp only [DataW.weights, Try.underlying30]
        exact List.mem_cons_self)
      rw [show Try.prog.bytesOf 3 = 8 by kernel_rfl] at h1
      simp only [reachBytes, List.length_map, List.length_range] at h1
      omega
    refine ⟨(List.range len).map f, by simp, fun i h => ?_, hle⟩
    have hi : i < len := by simpa using h
    have h0 := hf 0 (by omega)
    have hs : ad.spot = none := World.cell?_spot (a := ad) (v := .int .i64 (f 0)) (by simpa [Addr.add] using h0)
    have hh := hf i (by omega)
    refine ⟨ad.block, ad.off, ?_, ?_⟩
    · cases ad; simp only at hs; subst hs; rfl
    · rw [addr_off hs] at hh; simpa using hh
end
theorem own_lifted (os : Os) (started : os.Started) (H : Type) (enc : TypeId × Value → H) :
    ReturnsInHanded {} Try.checked os 5 .any (Rows.sendbufOwnSpec.pre6 enc Try.prog Try.f5 Rows.sendbufOwnRow.domain false) (Rows.sendbufOwnSpec.post enc Try.prog Try.f5 false true false false) := by
  refine returnsInHanded_of_change_sized (C := Try.checked) own started (by kernel_rfl) Try.func5
    (ChangeSpec.witness6 (enc := enc) (C := Try.checked) false ⟨#[], #[.agg #[.int .u64 0, .int .i64 0, .int .i64 0, .int .u64 0], .slice none 0 0, .slice none 0 0], []⟩ 8 (by kernel_rfl) (by kernel_rfl) (by kernel_rfl) (by kernel_rfl)) ?_
  intro W base args ds gs before hval0 hW _ hsz0 _
  have hsz : (DataW.weightsEach Try.prog (Try.f5.params.toList ++ Rows.sendbufOwnSpec.plain.varTypes Try.prog) (ds ++ gs)).all (· ≤ reachBytes) = true := hsz0
  clear hsz0
  have hval : ∀ (j : Nat) t v, Try.f5.params[j]? = some t → args[j]? = some v → Value.okWide Try.prog W .any base t v := hval0
  have hW' := hW
  obtain ⟨p, q, hA0, hV, rfl, _, _⟩ := hW
  have hA : DataW.TrodAll enc Try.prog W 0 (fun _ => true) true Try.f5.params.toList args.toList ds p := hA0
  rw [Try.params5] at hA hval hsz
  obtain ⟨v0, v1, v2, d0, d1, d2, p0, p1, p2, rfl, rfl, rfl, h0, h1, h2⟩ := trodAll_three hA
  obtain ⟨rfl, rfl⟩ := trodVars_none hV
  obtain ⟨b, r, m, e, rfl, wb, _, _⟩ := open_setup (hval 0 24 v0 rfl rfl) h0
  obtain ⟨a1, len1, cap1, rfl⟩ := okWide_slice Try.underlying25 (hval 1 25 v1 rfl rfl)
  obtain ⟨a2, len2, cap2, rfl⟩ := okWide_slice Try.underlying30 (hval 2 30 v2 rfl rfl)
  have k1 := h1
  have k2 := h2
  have lt0 : ∀ x ∈ p0, x.block < W.heap.size := by obtain ⟨m, hm⟩ := h0; exact DataW.trod_lt m _ _ _ hm
  have lt1 : ∀ x ∈ p1, x.block < W.heap.size := by obtain ⟨m, hm⟩ := k1; exact DataW.trod_lt m _ _ _ hm
  have lt2 : ∀ x ∈ p2, x.block < W.heap.size := by obtain ⟨m, hm⟩ := k2; exact DataW.trod_lt m _ _ _ hm
  obtain ⟨yd, eyd, hyd⟩ : ∃ y : Wt, Value.slice a1 len1 cap1 = .slice y.a y.bs.length y.cap ∧ y.Ok W := by
    obtain ⟨fuel, hf⟩ := h1
    exact open_wt hf (fun k hk => by simpa using List.all_eq_true.1 hsz k (DataW.weights_mem_each (j := 1) (t := 25) (d := d1) rfl rfl k hk))
  simp only [Value.slice.injEq] at eyd
  obtain ⟨rfl, rfl, rfl⟩ := eyd
  obtain ⟨l2, rfl, hP, hl2⟩ : ∃ l : List Int, l.length = len2 ∧ Ix.IntsIn W a2 l ∧ len2 ≤ 140737488355328 := by
    obtain ⟨fuel, hf⟩ := h2
    exact open_ints hf (fun k hk => by simpa using List.all_eq_true.1 hsz k (DataW.weights_mem_each (j := 2) (t := 30) (d := d2) rfl rfl k hk))
  clear hA0 hval0
  refine (own_law wb rfl rfl rfl hyd cap2 hP hl2).mono fun e W' ⟨he, bel⟩ => ?_
  subst he
  exact ⟨_, rfl, _, _, _, [], _, [], hW', trodAll_mk1 (shut_bool Try.underlying4 _), (trodAll_cons_mk (Below.trod laidOut (by kernel_rfl) (of_decide_eq_true (by kernel_rfl)) h0 bel lt0) (trodAll_cons_mk (Below.trod laidOut (by kernel_rfl) (of_decide_eq_true (by kernel_rfl)) k1 bel lt1) (trodAll_cons_mk (Below.trod laidOut (by kernel_rfl) (of_decide_eq_true (by kernel_rfl)) k2 bel lt2) trodAll_mk0))), rfl, bel.frame _, fun h => by cases h⟩

/-- Bytes, Chunks and their lists are new memory. -/
theorem own_holds : Rows.SendbufOwnSaid :=
  OpenClaim.holds_of_wide 5 Try.f5 rfl rfl rfl rfl rfl rfl rfl ⟨rfl, rfl, rfl, rfl, rfl⟩ rfl rfl rfl rfl rfl (by kernel_rfl) Try.func5 (by kernel_rfl)
    (of_decide_eq_true (by kernel_rfl)) (by unfold Func.isWrapper; first | (rw [if_pos (by decide +kernel)]; kernel_rfl) | (rw [if_neg (by decide +kernel)]; exact ⟨rfl, rfl⟩))
    (fun os started H enc _ => own_lifted os started H enc)
#print axioms own_holds
end Go.Proofs.Ytnohammflhadpaa
