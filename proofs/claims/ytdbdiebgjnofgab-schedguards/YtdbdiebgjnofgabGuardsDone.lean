import Derived.Test.YtdbdiebgjnofgabGu3
import Derived.Test.YtdbdiebgjnofgabOpen2
namespace Go.Proofs.Ytdbdiebgjnofgab
open Go.ChangeShapes Go.WideShapes Go.ChangeAt Go.RowKit Go.Deep
set_option maxRecDepth 100000

theorem cellsU5 : Try.prog.cellsOf 5 = 1 := by kernel_rfl
theorem bytesU5 : Try.prog.bytesOf 5 = 1 := by kernel_rfl
theorem cellsB58 : Try.prog.cellsOf 58 = 1 := by kernel_rfl
section
variable {H : Type} {enc : TypeId × Value → H} {W : World}
theorem open_gw {sp : Nat → Bool} {held : Bool} {fuel : Nat} {v : Value} {x : DataW H × List MemPlace} (h : DataW.trod enc Try.prog W 0 sp held fuel 58 [v] = some x) (hw : ∀ k ∈ x.1.weights Try.prog 58, k ≤ reachBytes) :
    ∃ y : Gw, v = .slice y.a y.bs.length y.cap ∧ y.Ok W := by
  rcases open_slice Try.underlying58 h with ⟨hcs, _⟩ | ⟨ad, len, cap, m, n, D, Pl, hcs, _, hl, hm, hmm, hx, hel⟩
  · simp at hcs
    exact ⟨⟨none, 0, []⟩, hcs, ⟨fun i h => by simp at h, Nat.le_refl _, Nat.zero_le _, fun _ => rfl⟩⟩
  · simp at hcs
    have hlm : len ≤ m := by rw [hmm]; split <;> omega
    have each : ∀ i, i < m → ∃ b : BitVec 8, W.cell? (ad.add i) = some (.int .u8 (Snd.ub b)) := by
      intro i hi
      obtain ⟨cs', h1, h2⟩ := hel i hi
      rw [cellsU5] at h1
      obtain ⟨_, hlen, hcell⟩ := World.cells?_some h1
      obtain ⟨z, e, _, wz⟩ := DataW.trod_int Try.underlying5 h2
      have := hcell 0 (by omega)
      rw [add_add, e] at this
      have bd := bounds_u8 wz
      refine ⟨BitVec.ofNat 8 z.toNat, ?_⟩
      rw [← Snd.ub_of z bd.1 (by omega)]
      simpa using this
    obtain ⟨f, hf⟩ := choose_lt each
    have hle : len ≤ 140737488355328 := by
      have h1 := hw ((((List.range len).map D).length + _) * Try.prog.bytesOf 5) (by
        rw [hx]
        simp only [DataW.weights, Try.underlying58]
        exact List.mem_cons_self)
      rw [bytesU5] at h1
      simp only [reachBytes, List.length_map, List.length_range] at h1
      omega
    refine ⟨⟨some ad, cap, (List.range len).map f⟩, by rw [hcs]; simp, ⟨fun i h => ?_, by simpa using hl, by simpa using hle, fun e => by cases e⟩⟩
    have hi : i < len := by simpa using h
    have h0 := hf 0 (by omega)
    have hs : ad.spot = none := World.cell?_spot (a := ad) (v := .int .u8 (Snd.ub (f 0))) (by simpa [Addr.add] using h0)
    have hh := hf i (by omega)
    refine ⟨ad.block, ad.off, ?_, ?_⟩
    · cases ad; simp only at hs; subst hs; rfl
    · rw [addr_off hs] at hh; simpa using hh
theorem open_opg {held : Bool} {n : Nat} {cs : List Value} {y : DataW H × List MemPlace} (h : DataW.trod enc Try.prog W 0 (fun _ => true) held n 60 cs = some y) (hw : ∀ k ∈ y.1.weights Try.prog 60, k ≤ reachBytes) : ∃ o : Opg, cs = o.cells ∧ (0 ≤ o.edge ∧ o.edge ≤ 18446744073709551615) ∧ o.y.Ok W := by
  obtain ⟨xs, k, _, hy, hl, hxl, hf⟩ := DataW.trod_struct Try.underlying60 h
  rw [show Try.prog.cellsOf 60 = 5 by kernel_rfl] at hl
  match cs, hl with
  | [v0, v1, v2, v3, v4], _ =>
    have hx : xs.length = 5 := hxl
    match xs, hx with
    | [y0, y1, y2, y3, y4], _ =>
      have g0 := hf 0 _ rfl
      have g1 := hf 1 _ rfl
      have g2 := hf 2 _ rfl
      have g3 := hf 3 _ rfl
      have g4 := hf 4 _ rfl
      simp [cells3, cells23, cellsB58] at g0 g1 g2 g3 g4
      obtain ⟨x0, e0, _, _⟩ := DataW.trod_int Try.underlying3 g0
      obtain ⟨x1, e1, _, _⟩ := DataW.trod_int Try.underlying3 g1
      obtain ⟨x2, e2, _, _⟩ := DataW.trod_int Try.underlying23 g2
      obtain ⟨x3, e3, _, w3⟩ := DataW.trod_int Try.underlying23 g3
      simp at e0 e1 e2 e3
      subst e0 e1 e2 e3
      have b3 := bounds_u64 w3
      obtain ⟨z, hz, hzo⟩ := open_gw g4 (fun k hk => hw k (by
        rw [hy]
        simp only [DataW.weights, Try.underlying60]
        exact DataW.weights_mem_each (j := 4) (t := 58) (d := y4.1) rfl rfl _ hk))
      subst hz
      exact ⟨⟨x0, x1, x2, x3, z⟩, rfl, b3, hzo⟩
end
theorem guards_lifted (os : Os) (started : os.Started) (H : Type) (enc : TypeId × Value → H) :
    ReturnsInHanded {} Try.checked os 5 .any (Rows.schedGuardsSpec.pre6 enc Try.prog Try.f5 Rows.schedGuardsRow.domain false) (Rows.schedGuardsSpec.post enc Try.prog Try.f5 false true false false) := by
  refine returnsInHanded_of_change_sized (C := Try.checked) own started (by kernel_rfl) Try.func5
    (ChangeSpec.witness6 (enc := enc) (C := Try.checked) false ⟨#[], #[.int .u64 0, .int .i64 0, .int .i64 0, .int .u64 0, .slice none 0 0, .agg #[.slice none 0 0, .bool false, .int .u64 0, .int .i64 0, .bool false, .slice none 0 0, .bool false, .int .u64 0, .int .i64 0], .slice none 0 0], []⟩ 8 (by kernel_rfl) (by kernel_rfl) (by kernel_rfl) (by kernel_rfl)) ?_
  intro W base args ds gs before hval0 hW _ hsz0 _
  have hsz : (DataW.weightsEach Try.prog (Try.f5.params.toList ++ Rows.schedGuardsSpec.plain.varTypes Try.prog) (ds ++ gs)).all (· ≤ reachBytes) = true := hsz0
  clear hsz0
  have hval : ∀ (j : Nat) t v, Try.f5.params[j]? = some t → args[j]? = some v → Value.okWide Try.prog W .any base t v := hval0
  have hW' := hW
  obtain ⟨p, q, hA0, hV, rfl, _, _⟩ := hW
  have hA : DataW.TrodAll enc Try.prog W 0 (fun _ => true) true Try.f5.params.toList args.toList ds p := hA0
  rw [Try.params5] at hA hval hsz
  obtain ⟨v0, vs0, d0, ds0, p0, q0, hargs, rfl, rfl, h0, hr0⟩ := trodAll_cons hA
  obtain ⟨v1, vs1, d1, ds1, p1, q1, rfl, rfl, rfl, h1, hr1⟩ := trodAll_cons hr0
  obtain ⟨v2, vs2, d2, ds2, p2, q2, rfl, rfl, rfl, h2, hr2⟩ := trodAll_cons hr1
  obtain ⟨v3, vs3, d3, ds3, p3, q3, rfl, rfl, rfl, h3, hr3⟩ := trodAll_cons hr2
  obtain ⟨v4, vs4, d4, ds4, p4, q4, rfl, rfl, rfl, h4, hr4⟩ := trodAll_cons hr3
  obtain ⟨v5, vs5, d5, ds5, p5, q5, rfl, rfl, rfl, h5, hr5⟩ := trodAll_cons hr4
  obtain ⟨v6, vs6, d6, ds6, p6, q6, rfl, rfl, rfl, h6, hr6⟩ := trodAll_cons hr5
  obtain ⟨rfl, rfl, rfl⟩ := trodAll_nil hr6
  obtain rfl : args = #[v0, v1, v2, v3, v4, v5, v6] := by cases args; simp_all
  obtain ⟨rfl, rfl⟩ := trodVars_none hV
  have k0 := h0
  have k1 := h1
  have k2 := h2
  have k3 := h3
  have k4 := h4
  have k5 := h5
  have k6 := h6
  have lt0 : ∀ x ∈ p0, x.block < W.heap.size := by obtain ⟨m, hm⟩ := k0; exact DataW.trod_lt m _ _ _ hm
  have lt1 : ∀ x ∈ p1, x.block < W.heap.size := by obtain ⟨m, hm⟩ := k1; exact DataW.trod_lt m _ _ _ hm
  have lt2 : ∀ x ∈ p2, x.block < W.heap.size := by obtain ⟨m, hm⟩ := k2; exact DataW.trod_lt m _ _ _ hm
  have lt3 : ∀ x ∈ p3, x.block < W.heap.size := by obtain ⟨m, hm⟩ := k3; exact DataW.trod_lt m _ _ _ hm
  have lt4 : ∀ x ∈ p4, x.block < W.heap.size := by obtain ⟨m, hm⟩ := k4; exact DataW.trod_lt m _ _ _ hm
  have lt5 : ∀ x ∈ p5, x.block < W.heap.size := by obtain ⟨m, hm⟩ := k5; exact DataW.trod_lt m _ _ _ hm
  have lt6 : ∀ x ∈ p6, x.block < W.heap.size := by obtain ⟨m, hm⟩ := k6; exact DataW.trod_lt m _ _ _ hm
  obtain ⟨x0, rfl, _, _, wx0⟩ := open_int Try.underlying23 (hval 0 23 v0 rfl rfl) h0
  obtain ⟨x1, rfl, _, _, _⟩ := open_int Try.underlying3 (hval 1 3 v1 rfl rfl) h1
  obtain ⟨x2, rfl, _, _, _⟩ := open_int Try.underlying3 (hval 2 3 v2 rfl rfl) h2
  obtain ⟨x3, rfl, _, _, wx3⟩ := open_int Try.underlying23 (hval 3 23 v3 rfl rfl) h3
  have b0 := bounds_u64 wx0
  have b3 := bounds_u64 wx3
  have hinst : Inhabited Opg := ⟨⟨0, 0, 0, 0, ⟨none, 0, []⟩⟩⟩
  obtain ⟨a4, len4, cap4, rfl⟩ := okWide_slice Try.underlying55 (hval 4 55 v4 rfl rfl)
  obtain ⟨Os, ao, co, eo, hlo, hro, hoo, hbo, _⟩ : ∃ (L : List Opg) (a : Option Addr) (cap : Nat), Value.slice a4 len4 cap4 = .slice a L.length cap ∧ L.length ≤ cap ∧ RowsAt Opg.cells 5 W a L ∧ (∀ o ∈ L, (0 ≤ o.edge ∧ o.edge ≤ 18446744073709551615) ∧ o.y.Ok W) ∧ L.length * 56 ≤ reachBytes ∧ ((a = none ∧ L.length = 0 ∧ cap = 0) ∨ ∃ ad, a = some ad) := by
    obtain ⟨fuel, hf⟩ := h4
    exact open_rows Opg.cells _ Try.underlying55 (by kernel_rfl) (by kernel_rfl) (fun _ => rfl) (by decide) (fun h hw => open_opg h hw) hf (fun k hk => by simpa using List.all_eq_true.1 hsz k (DataW.weights_mem_each (j := 4) (t := 55) (d := d4) rfl rfl k hk))
  simp only [Value.slice.injEq] at eo
  obtain ⟨rfl, rfl, rfl⟩ := eo
  have hOg : OpgAt W a4 Os := fun k hk => by
    obtain ⟨g, o, e, hc⟩ := hro k hk
    have := hoo _ (List.getElem_mem hk)
    exact ⟨g, o, e, hc, this.1, this.2⟩
  have hv5 := hval 5 28 v5 rfl rfl
  unfold Value.okWide at hv5
  rw [Try.underlying28] at hv5
  obtain ⟨cs5, rfl, _, _⟩ := hv5
  obtain ⟨V5, ev5, hV5⟩ : ∃ V : Vw, cs5.toList = V.cells ∧ VwIn W V := by
    obtain ⟨fuel, hf⟩ := h5
    exact open_view hf (fun k hk => by simpa using List.all_eq_true.1 hsz k (DataW.weights_mem_each (j := 5) (t := 28) (d := d5) rfl rfl k hk))
  obtain rfl : cs5 = V5.cells.toArray := by rw [← ev5]
  obtain ⟨a6, len6, cap6, rfl⟩ := okWide_slice Try.underlying42 (hval 6 42 v6 rfl rfl)
  obtain ⟨Ps, ap, cp, ep, hlp, hrp, _, hbp, hap⟩ : ∃ (L : List Pk) (a : Option Addr) (cap : Nat), Value.slice a6 len6 cap6 = .slice a L.length cap ∧ L.length ≤ cap ∧ RowsAt Pk.cells 3 W a L ∧ (∀ x ∈ L, 0 ≤ x.off ∧ x.off ≤ 18446744073709551615) ∧ L.length * 24 ≤ reachBytes ∧ ((a = none ∧ L.length = 0 ∧ cap = 0) ∨ ∃ ad, a = some ad) := by
    obtain ⟨fuel, hf⟩ := h6
    exact open_picks hf (fun k hk => by simpa using List.all_eq_true.1 hsz k (DataW.weights_mem_each (j := 6) (t := 42) (d := d6) rfl rfl k hk))
  simp only [Value.slice.injEq] at ep
  obtain ⟨rfl, rfl, rfl⟩ := ep
  have hsrc := rows_src (cells := Pk.cells) (sz := 3) (fun _ => rfl) pick_one hrp hap
  clear hA0 hval0
  refine (guards_law b0.1 b3.1 b3.2 rfl rfl rfl cap4 hOg (by simp only [reachBytes] at hbo; omega) hV5.at_ hsrc (by simp only [reachBytes] at hbp; omega)).mono fun e W' ⟨he, bel⟩ => ?_
  subst he
  exact ⟨_, rfl, _, _, _, [], _, [], hW', trodAll_mk1 (shut_bool Try.underlying4 _), (trodAll_cons_mk (Below.trod laidOut (by kernel_rfl) (of_decide_eq_true (by kernel_rfl)) k0 bel lt0) (trodAll_cons_mk (Below.trod laidOut (by kernel_rfl) (of_decide_eq_true (by kernel_rfl)) k1 bel lt1) (trodAll_cons_mk (Below.trod laidOut (by kernel_rfl) (of_decide_eq_true (by kernel_rfl)) k2 bel lt2) (trodAll_cons_mk (Below.trod laidOut (by kernel_rfl) (of_decide_eq_true (by kernel_rfl)) k3 bel lt3) (trodAll_cons_mk (Below.trod laidOut (by kernel_rfl) (of_decide_eq_true (by kernel_rfl)) k4 bel lt4) (trodAll_cons_mk (Below.trod laidOut (by kernel_rfl) (of_decide_eq_true (by kernel_rfl)) k5 bel lt5) (trodAll_cons_mk (Below.trod laidOut (by kernel_rfl) (of_decide_eq_true (by kernel_rfl)) k6 bel lt6) trodAll_mk0))))))), rfl, bel.frame _, fun h => by cases h⟩

/-- A decision passes just if its path has room and the buffer says that the chunk may go out there. -/
theorem guards_holds : Rows.SchedGuardsSaid :=
  OpenClaim.holds_of_wide 5 Try.f5 rfl rfl rfl rfl rfl rfl rfl ⟨rfl, rfl, rfl, rfl, rfl⟩ rfl rfl rfl rfl rfl (by kernel_rfl) Try.func5 (by kernel_rfl)
    (of_decide_eq_true (by kernel_rfl)) (by unfold Func.isWrapper; first | (rw [if_pos (by decide +kernel)]; kernel_rfl) | (rw [if_neg (by decide +kernel)]; exact ⟨rfl, rfl⟩))
    (fun os started H enc _ => guards_lifted os started H enc)
#print axioms guards_holds
end Go.Proofs.Ytdbdiebgjnofgab
