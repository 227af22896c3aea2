import Derived.Test.YtjbjaklbckhodabPlays
import Derived.Test.YtjbjaklbckhodabOpenR
import Derived.JoinedCond
namespace Go.Proofs.Ytjbjaklbckhodab
open Go.ChangeShapes Go.WideShapes Go.ChangeAt Go.RowKit Go.Deep

/-- A list has no more members than bulk. -/
theorem bulk_members {H : Type} : ∀ l : List (DataW H), l.length ≤ Rows.uptoBulkAll l
  | [] => Nat.zero_le _
  | d :: r => by
    have h1 : 1 ≤ Rows.uptoBulk d := by
      match d with
      | .lit l => cases l <;> simp [Rows.uptoBulk]
      | .nil | .ptr _ | .slice _ _ | .agg _ | .iface _ _ | .map _ | .held _ => simp [Rows.uptoBulk]
    have h2 := bulk_members r
    simp only [Rows.uptoBulkAll, List.length_cons]
    omega
theorem bulk_slice {H : Type} {n : Nat} {d : DataW H} (h : n = 0 ∨ ∃ elems sp, d = .slice elems sp ∧ elems.length = n) : n ≤ Rows.uptoBulk d := by
  rcases h with rfl | ⟨elems, sp, rfl, rfl⟩
  · exact Nat.zero_le _
  · have := bulk_members elems
    simp only [Rows.uptoBulk]
    omega
section
variable {H : Type} {enc : TypeId × Value → H} {W : World}
theorem open_opsB {fuel len cap : Nat} {a : Option Addr} {x : DataW H × List MemPlace} (h : DataW.trod enc Try.prog W 0 (fun _ => true) true fuel 42 [.slice a len cap] = some x) :
    ∃ S : List OpV, S.length = len ∧ OpsAt W a S ∧ (∀ o ∈ S, o.Ok) ∧ (len = 0 ∨ ∃ elems sp, x.1 = .slice elems sp ∧ elems.length = len) := by
  rcases open_slice Try.underlying42 h with ⟨hcs, _⟩ | ⟨ad, l, c, m, n, D, Pl, hcs, _, hl, hm, hmm, hx, hel⟩
  · simp at hcs
    obtain ⟨rfl, rfl, rfl⟩ := hcs
    exact ⟨[], rfl, ⟨fun i h => by simp at h, by simp⟩, by simp, .inl rfl⟩
  · simp at hcs
    obtain ⟨rfl, rfl, rfl⟩ := hcs
    simp only [if_true] at hmm
    subst hmm
    have each : ∀ i, i < m → ∃ o : OpV, (∀ j, j < 5 → W.cell? (ad.add (i * 5 + j)) = o.cells[j]?) ∧ o.Ok := by
      intro i hi
      obtain ⟨cs', h1, h2⟩ := hel i hi
      rw [cells47] at h1
      obtain ⟨_, hlen, hcell⟩ := World.cells?_some h1
      obtain ⟨o, rfl, w1, w2, w3, _⟩ := open_op h2
      refine ⟨o, fun j hj => ?_, w1.1, w1.2, w2.2, w3.2⟩
      have := hcell j hj
      rwa [add_add] at this
    have hinst : Inhabited OpV := ⟨⟨0, false, (0, 0), 0⟩⟩
    obtain ⟨f, hf⟩ := choose_lt each
    have hall : ∀ o ∈ (List.range len).map f, o.Ok := by
      intro o ho
      simp only [List.mem_map, List.mem_range] at ho
      obtain ⟨i, hi, rfl⟩ := ho
      exact (hf i (by omega)).2
    refine ⟨(List.range len).map f, by simp, ⟨fun i h => ?_, fun o ho => ⟨(hall o ho).1, (hall o ho).2.2.1⟩⟩, hall, ?_⟩
    · have hi : i < len := by simpa using h
      have h0 := (hf 0 (by omega)).1 0 (by omega)
      have hs : ad.spot = none := World.cell?_spot (a := ad) (v := .int .i64 (f 0).kind) (by simpa [Addr.add, OpV.cells] using h0)
      have hh := (hf i (by omega)).1
      have e : ((List.range len).map f)[i] = f i := by simp
      rw [e]
      refine ⟨ad.block, ad.off, ?_, ?_, ?_, ?_, ?_, ?_⟩
      · cases ad; simp only at hs; subst hs; rfl
      · have := hh 0 (by omega); rw [addr_off hs] at this; simpa [OpV.cells] using this
      · have := hh 1 (by omega); rw [addr_off hs] at this; simpa [OpV.cells, Nat.add_assoc] using this
      · have := hh 2 (by omega); rw [addr_off hs] at this; simpa [OpV.cells, Nat.add_assoc] using this
      · have := hh 3 (by omega); rw [addr_off hs] at this; simpa [OpV.cells, Nat.add_assoc] using this
      · have := hh 4 (by omega); rw [addr_off hs] at this; simpa [OpV.cells, Nat.add_assoc] using this
    · right
      exact ⟨_, _, by rw [hx], by simp⟩
end

set_option maxRecDepth 100000 in
theorem plays_lifted (os : Os) (started : os.Started) (H : Type) (enc : TypeId × Value → H) (F : Stop.Interp) :
    ReturnsInHanded {} Try.checked os 5 .any ((Rows.OpenSpec.upto Rows.ivsetPlaysSpec).pre6 enc Try.prog Try.f5 Rows.ivsetPlaysUptoRow.domain false) (((Rows.OpenSpec.upto Rows.ivsetPlaysSpec).at F).post enc Try.prog Try.f5 false true false false) := by
  refine returnsInHanded_of_cond (C := Try.checked) (s := Rows.OpenSpec.upto Rows.ivsetPlaysSpec) (k := Rows.uptoSmall) rfl own started (by kernel_rfl) Try.func5
    (OpenSpec.witness (enc := enc) (C := Try.checked) (s := Rows.OpenSpec.upto Rows.ivsetPlaysSpec) (k := Rows.uptoSmall) rfl false ⟨#[], #[.slice none 0 0, .slice none 0 0], []⟩ 8 (by kernel_rfl) (by kernel_rfl) (by kernel_rfl)
      (x := ([.nil, .nil], [], [])) (by kernel_rfl) rfl (by kernel_rfl)) ?_
  intro W base args ds gs before hval0 hW _ hk _
  have hval : ∀ (j : Nat) t v, Try.f5.params[j]? = some t → args[j]? = some v → Value.okWide Try.prog W .any base t v := hval0
  have hW' := hW
  obtain ⟨p, q, hA0, hV, rfl, _, _⟩ := hW
  have hA : DataW.TrodAll enc Try.prog W 0 (fun _ => true) true Try.f5.params.toList args.toList ds p := hA0
  rw [Try.params5] at hA hval
  obtain ⟨v0, v1, d0, d1, p0, p1, rfl, rfl, rfl, h0, h1⟩ := trodAll_two hA
  obtain ⟨rfl, rfl⟩ := trodVars_none hV
  obtain ⟨a0, len, cap, rfl⟩ := okWide_slice Try.underlying22 (hval 0 22 v0 rfl rfl)
  obtain ⟨a1, lenb, capb, rfl⟩ := okWide_slice Try.underlying42 (hval 1 42 v1 rfl rfl)
  have k0 := h0
  have k1 := h1
  have lt0 : ∀ x ∈ p0, x.block < W.heap.size := by obtain ⟨m, hm⟩ := k0; exact DataW.trod_lt m _ _ _ hm
  have lt1 : ∀ x ∈ p1, x.block < W.heap.size := by obtain ⟨m, hm⟩ := k1; exact DataW.trod_lt m _ _ _ hm
  obtain ⟨A, rfl, hC, hwf, hsl⟩ : ∃ L : List Rg, L.length = len ∧ Cells W a0 L ∧ (∀ r ∈ L, (0 ≤ r.1 ∧ r.1 ≤ 18446744073709551615) ∧ (0 ≤ r.2 ∧ r.2 ≤ 18446744073709551615)) ∧ (len = 0 ∨ ∃ elems sp, d0 = .slice elems sp ∧ elems.length = len) := by
    obtain ⟨fuel, hf⟩ := h0
    exact open_rgsA hf
  obtain ⟨Z, rfl, hO, hok, hsl1⟩ : ∃ S : List OpV, S.length = lenb ∧ OpsAt W a1 S ∧ (∀ o ∈ S, o.Ok) ∧ (lenb = 0 ∨ ∃ elems sp, d1 = .slice elems sp ∧ elems.length = lenb) := by
    obtain ⟨fuel, hf⟩ := h1
    exact open_opsB hf
  have hn : A.length + Z.length ≤ 1048576 := by
    have h : Rows.uptoBulkAll ([d0, d1] ++ []) ≤ 1048576 := of_decide_eq_true hk
    simp only [List.append_nil, Rows.uptoBulkAll] at h
    have := bulk_slice hsl
    have := bulk_slice hsl1
    omega
  clear hA0 hval0 hk
  refine (plays_any (cap := cap) (sc := capb) hC hO hok hn (fun r hr => ⟨(hwf r hr).1.1, (hwf r hr).2.2⟩)).mono fun e W' ⟨he, bel⟩ => ?_
  subst he
  exact ⟨_, rfl, _, _, _, [], _, [], hW', trodAll_mk1 (shut_bool Try.underlying4 _), (trodAll_cons_mk (Below.trod laidOut (by kernel_rfl) (of_decide_eq_true (by kernel_rfl)) k0 bel lt0) (trodAll_cons_mk (Below.trod laidOut (by kernel_rfl) (of_decide_eq_true (by kernel_rfl)) k1 bel lt1) trodAll_mk0)), rfl, bel.frame _, fun h => by cases h⟩

/-- Two sets in turns, any calls: every answer, and at the end both sets. -/
theorem plays_holds : Rows.IvsetPlaysUptoSaid :=
  OpenClaim.holds_of_cond 5 Try.f5 rfl rfl rfl rfl rfl rfl rfl ⟨rfl, rfl, rfl, rfl, rfl⟩ rfl rfl rfl rfl rfl (by kernel_rfl) Try.func5 (by kernel_rfl)
    (of_decide_eq_true (by kernel_rfl)) (by unfold Func.isWrapper; first | (rw [if_pos (by decide +kernel)]; kernel_rfl) | (rw [if_neg (by decide +kernel)]; exact ⟨rfl, rfl⟩))
    (fun os started H enc _ F => plays_lifted os started H enc F)
#print axioms plays_holds
end Go.Proofs.Ytjbjaklbckhodab
