import Derived.Test.YtjeokomocopjhaaFOpen
import Derived.Test.YtjeokomocopjhaaPf6
namespace Go.Proofs.Ytjeokomocopjhaa
open Go.ChangeShapes Go.WideShapes Go.ChangeAt Go.RowKit Go.Deep
set_option maxRecDepth 100000

theorem cells38 : Try.prog.cellsOf 38 = 6 := by kernel_rfl
section
variable {H : Type} {enc : TypeId × Value → H} {W : World}
theorem open_opf {sp : Nat → Bool} {held : Bool} {n : Nat} {cs : List Value} {y : DataW H × List MemPlace} (h : DataW.trod enc Try.prog W 0 sp held n 38 cs = some y) :
    ∃ o : OpF, cs = o.cells ∧ 0 ≤ o.id ∧ o.id ≤ 18446744073709551615 := by
  obtain ⟨xs, k, _, _, hl, hxl, hf⟩ := DataW.trod_struct Try.underlying38 h
  rw [cells38] at hl
  match cs, hl with
  | [v0, v1, v2, v3, v4, v5], _ =>
    have g0 := hf 0 _ rfl
    have g1 := hf 1 _ rfl
    have g2 := hf 2 _ rfl
    have g3 := hf 3 _ rfl
    have g4 := hf 4 _ rfl
    have g5 := hf 5 _ rfl
    have hx : xs.length = 6 := hxl
    match xs, hx with
    | [y0, y1, y2, y3, y4, y5], _ =>
      simp [cells3, cells4, cells26] at g0 g1 g2 g3 g4 g5
      obtain ⟨kd, e0, _, _⟩ := DataW.trod_int Try.underlying3 g0
      obtain ⟨ot, e1, _⟩ := DataW.trod_bool Try.underlying4 g1
      obtain ⟨id, e2, _, w2⟩ := DataW.trod_int Try.underlying26 g2
      obtain ⟨cl, e3, _, _⟩ := DataW.trod_int Try.underlying3 g3
      obtain ⟨sh, e4, _, _⟩ := DataW.trod_int Try.underlying3 g4
      obtain ⟨nn, e5, _, _⟩ := DataW.trod_int Try.underlying3 g5
      simp at e0 e1 e2 e3 e4 e5
      subst e0 e1 e2 e3 e4 e5
      have hb := bounds_u64 w2
      exact ⟨⟨kd, ot, id, cl, sh, nn⟩, rfl, hb.1, by have := hb.2; omega⟩
theorem open_opfs {sp : Nat → Bool} {held : Bool} {fuel len cap : Nat} {a : Option Addr} {x : DataW H × List MemPlace} (h : DataW.trod enc Try.prog W 0 sp held fuel 36 [.slice a len cap] = some x) (hw : ∀ k ∈ x.1.weights Try.prog 36, k ≤ reachBytes) :
    ∃ S : List OpF, S.length = len ∧ OpsAt W a S ∧ len ≤ 2932031007402 := by
  rcases open_slice Try.underlying36 h with ⟨hcs, _⟩ | ⟨ad, l, c, m, n, D, Pl, hcs, _, hl, hm, hmm, hx, hel⟩
  · simp at hcs
    obtain ⟨rfl, rfl, rfl⟩ := hcs
    exact ⟨[], rfl, ⟨fun i h => by simp at h, by simp⟩, Nat.zero_le _⟩
  · simp at hcs
    obtain ⟨rfl, rfl, rfl⟩ := hcs
    have hlm : len ≤ m := by rw [hmm]; split <;> omega
    have each : ∀ i, i < m → ∃ o : OpF, (∀ j, j < 6 → W.cell? (ad.add (i * 6 + j)) = o.cells[j]?) ∧ 0 ≤ o.id ∧ o.id ≤ 18446744073709551615 := by
      intro i hi
      obtain ⟨cs', h1, h2⟩ := hel i hi
      rw [cells38] at h1
      obtain ⟨_, hlen, hcell⟩ := World.cells?_some h1
      obtain ⟨o, rfl, w1⟩ := open_opf h2
      refine ⟨o, fun j hj => ?_, w1⟩
      have := hcell j hj
      rwa [add_add] at this
    have hle : len ≤ 2932031007402 := by
      have h1 := hw ((((List.range len).map D).length + _) * Try.prog.bytesOf 38) (by
        rw [hx]
        simp only [DataW.weights, Try.underlying36]
        exact List.mem_cons_self)
      rw [show Try.prog.bytesOf 38 = 48 by kernel_rfl] at h1
      simp only [reachBytes, List.length_map, List.length_range] at h1
      omega
    have hinst : Inhabited OpF := ⟨⟨0, false, 0, 0, 0, 0⟩⟩
    obtain ⟨f, hf⟩ := choose_lt each
    refine ⟨(List.range len).map f, by simp, ⟨fun i h => ?_, fun o ho => ?_⟩, hle⟩
    · have hi : i < len := by simpa using h
      have h0 := (hf 0 (by omega)).1 0 (by omega)
      have hs : ad.spot = none := World.cell?_spot (a := ad) (v := .int .i64 (f 0).kind) (by simpa [Addr.add, OpF.cells] using h0)
      have hh := (hf i (by omega)).1
      have e : ((List.range len).map f)[i] = f i := by simp
      rw [e]
      refine ⟨ad.block, ad.off, ?_, fun j v hv => ?_⟩
      · cases ad; simp only at hs; subst hs; rfl
      · have hj : j < 6 := (List.getElem?_eq_some_iff.1 hv).1
        have := hh j hj
        rw [addr_off hs, hv] at this
        rw [← this]
        congr 2
        omega
    · simp only [List.mem_map, List.mem_range] at ho
      obtain ⟨i, hi, rfl⟩ := ho
      exact (hf i (by omega)).2
end
theorem plays_lifted (os : Os) (started : os.Started) (H : Type) (enc : TypeId × Value → H) :
    ReturnsInHanded {} Try.checked os 6 .any (Rows.fairPlaysSpec.pre6 enc Try.prog Try.f6 Rows.fairPlaysRow.domain false) (Rows.fairPlaysSpec.post enc Try.prog Try.f6 false true false false) := by
  refine returnsInHanded_of_change_sized (C := Try.checked) own started (by kernel_rfl) Try.func6
    (ChangeSpec.witness6 (enc := enc) (C := Try.checked) false ⟨#[], #[.int .i64 0, .int .i64 0, .slice none 0 0], []⟩ 8 (by kernel_rfl) (by kernel_rfl) (by kernel_rfl) (by kernel_rfl)) ?_
  intro W base args ds gs before hval0 hW _ hsz0 _
  have hsz : (DataW.weightsEach Try.prog (Try.f6.params.toList ++ Rows.fairPlaysSpec.plain.varTypes Try.prog) (ds ++ gs)).all (· ≤ reachBytes) = true := hsz0
  clear hsz0
  have hval : ∀ (j : Nat) t v, Try.f6.params[j]? = some t → args[j]? = some v → Value.okWide Try.prog W .any base t v := hval0
  have hW' := hW
  obtain ⟨p, q, hA0, hV, rfl, _, _⟩ := hW
  have hA : DataW.TrodAll enc Try.prog W 0 (fun _ => true) true Try.f6.params.toList args.toList ds p := hA0
  rw [Try.params6] at hA hval hsz
  obtain ⟨v0, v1, v2, d0, d1, d2, p0, p1, p2, rfl, rfl, rfl, h0, h1, h2⟩ := trodAll_three hA
  obtain ⟨rfl, rfl⟩ := trodVars_none hV
  obtain ⟨x, rfl, rfl, rfl, wx⟩ := open_int Try.underlying3 (hval 0 3 v0 rfl rfl) h0
  obtain ⟨y, rfl, rfl, rfl, wy⟩ := open_int Try.underlying3 (hval 1 3 v1 rfl rfl) h1
  obtain ⟨a1, len1, cap1, rfl⟩ := okWide_slice Try.underlying36 (hval 2 36 v2 rfl rfl)
  have lt1 : ∀ x ∈ p2, x.block < W.heap.size := by obtain ⟨m, hm⟩ := h2; exact DataW.trod_lt m _ _ _ hm
  have k1 := h2
  obtain ⟨S, rfl, hS, hl1⟩ : ∃ S : List OpF, S.length = len1 ∧ OpsAt W a1 S ∧ len1 ≤ 2932031007402 := by
    obtain ⟨fuel, hf⟩ := h2
    exact open_opfs hf (fun k hk => by simpa using List.all_eq_true.1 hsz k (DataW.weights_mem_each (j := 2) (t := 36) (d := d2) rfl rfl k hk))
  clear hA0 hval0
  refine (plays_law x y cap1 hS hl1).mono fun e W' ⟨he, bel⟩ => ?_
  subst he
  exact ⟨_, rfl, _, _, _, [], _, [], hW', trodAll_mk1 (shut_bool Try.underlying4 _), (trodAll_cons_mk (shut_int Try.underlying3 wx) (trodAll_cons_mk (shut_int Try.underlying3 wy) (trodAll_cons_mk (Below.trod laidOut (by kernel_rfl) (of_decide_eq_true (by kernel_rfl)) k1 bel lt1) trodAll_mk0))), rfl, bel.frame _, fun h => by cases h⟩

/-- Two in turns, any calls: every answer, and at the end all streams, as the document has them. -/
theorem plays_holds : Rows.FairPlaysSaid :=
  OpenClaim.holds_of_wide 6 Try.f6 rfl rfl rfl rfl rfl rfl rfl ⟨rfl, rfl, rfl, rfl, rfl⟩ rfl rfl rfl rfl rfl (by kernel_rfl) Try.func6 (by kernel_rfl)
    (of_decide_eq_true (by kernel_rfl)) (by unfold Func.isWrapper; first | (rw [if_pos (by decide +kernel)]; kernel_rfl) | (rw [if_neg (by decide +kernel)]; exact ⟨rfl, rfl⟩))
    (fun os started H enc _ => plays_lifted os started H enc)
#print axioms plays_holds
end Go.Proofs.Ytjeokomocopjhaa
