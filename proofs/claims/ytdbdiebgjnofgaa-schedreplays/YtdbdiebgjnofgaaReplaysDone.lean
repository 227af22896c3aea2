import Derived.Test.YtdbdiebgjnofgaaReplays
import Derived.Test.YtdbdiebgjnofgaaOpen2
namespace Go.Proofs.Ytdbdiebgjnofgaa
open Go.ChangeShapes Go.WideShapes Go.ChangeAt Go.RowKit Go.Deep
set_option maxRecDepth 100000

theorem replays_lifted (os : Os) (started : os.Started) (H : Type) (enc : TypeId × Value → H) :
    ReturnsInHanded {} Try.checked os 6 .any (Rows.schedReplaysSpec.pre6 enc Try.prog Try.f6 Rows.schedReplaysRow.domain false) (Rows.schedReplaysSpec.post enc Try.prog Try.f6 false true false false) := by
  refine returnsInHanded_of_change_sized (C := Try.checked) own started (by kernel_rfl) Try.func6
    (ChangeSpec.witness6 (enc := enc) (C := Try.checked) false ⟨#[], #[.slice none 0 0, .agg #[.slice none 0 0, .bool false, .int .u64 0, .int .i64 0, .bool false, .slice none 0 0, .bool false, .int .u64 0, .int .i64 0]], []⟩ 8 (by kernel_rfl) (by kernel_rfl) (by kernel_rfl) (by kernel_rfl)) ?_
  intro W base args ds gs before hval0 hW _ hsz0 _
  have hsz : (DataW.weightsEach Try.prog (Try.f6.params.toList ++ Rows.schedReplaysSpec.plain.varTypes Try.prog) (ds ++ gs)).all (· ≤ reachBytes) = true := hsz0
  clear hsz0
  have hval : ∀ (j : Nat) t v, Try.f6.params[j]? = some t → args[j]? = some v → Value.okWide Try.prog W .any base t v := hval0
  have hW' := hW
  obtain ⟨p, q, hA0, hV, rfl, _, _⟩ := hW
  have hA : DataW.TrodAll enc Try.prog W 0 (fun _ => true) true Try.f6.params.toList args.toList ds p := hA0
  rw [Try.params6] at hA hval hsz
  obtain ⟨v0, vs0, d0, ds0, p0, q0, hargs, rfl, rfl, h0, hr0⟩ := trodAll_cons hA
  obtain ⟨v1, vs1, d1, ds1, p1, q1, rfl, rfl, rfl, h1, hr1⟩ := trodAll_cons hr0
  obtain ⟨rfl, rfl, rfl⟩ := trodAll_nil hr1
  obtain rfl : args = #[v0, v1] := by cases args; simp_all
  obtain ⟨rfl, rfl⟩ := trodVars_none hV
  have k0 := h0
  have lt0 : ∀ x ∈ p0, x.block < W.heap.size := by obtain ⟨m, hm⟩ := k0; exact DataW.trod_lt m _ _ _ hm
  obtain ⟨sa0, sl0, sc0, rfl⟩ := okWide_slice Try.underlying37 (hval 0 37 v0 rfl rfl)
  obtain ⟨L0, a0, c0, e0, hle0, hr0', hok0, hb0, ha0⟩ : ∃ (L : List Pk) (a : Option Addr) (cap : Nat), Value.slice sa0 sl0 sc0 = .slice a L.length cap ∧ L.length ≤ cap ∧ RowsAt Pk.cells 3 W a L ∧ (∀ x ∈ L, 0 ≤ x.off ∧ x.off ≤ 18446744073709551615) ∧ L.length * 24 ≤ reachBytes ∧ ((a = none ∧ L.length = 0 ∧ cap = 0) ∨ ∃ ad, a = some ad) := by
    obtain ⟨fuel, hf⟩ := h0
    exact open_picks hf (fun k hk => by simpa using List.all_eq_true.1 hsz k (DataW.weights_mem_each (j := 0) (t := 37) (d := d0) rfl rfl k hk))
  cases e0
  have k1 := h1
  have lt1 : ∀ x ∈ p1, x.block < W.heap.size := by obtain ⟨m, hm⟩ := k1; exact DataW.trod_lt m _ _ _ hm
  have hv1 := hval 1 28 v1 rfl rfl
  unfold Value.okWide at hv1
  rw [Try.underlying28] at hv1
  obtain ⟨cs1, rfl, _, _⟩ := hv1
  obtain ⟨V1, ev1, hV1⟩ : ∃ V : Vw, cs1.toList = V.cells ∧ VwIn W V := by
    obtain ⟨fuel, hf⟩ := h1
    exact open_view hf (fun k hk => by simpa using List.all_eq_true.1 hsz k (DataW.weights_mem_each (j := 1) (t := 28) (d := d1) rfl rfl k hk))
  obtain rfl : cs1 = V1.cells.toArray := by rw [← ev1]
  clear hA0 hval0
  refine (replays_any (cap := _) hr0' (rows_src (cells := Pk.cells) (sz := 3) (fun _ => rfl) pick_one hr0' ha0) (by simp only [reachBytes] at hb0; omega) V1).mono fun e W' ⟨he, bel⟩ => ?_
  subst he
  exact ⟨_, rfl, _, _, _, [], _, [], hW', trodAll_mk1 (shut_bool Try.underlying4 _), (trodAll_cons_mk (Below.trod laidOut (by kernel_rfl) (of_decide_eq_true (by kernel_rfl)) k0 bel lt0) (trodAll_cons_mk (Below.trod laidOut (by kernel_rfl) (of_decide_eq_true (by kernel_rfl)) k1 bel lt1) trodAll_mk0)), rfl, bel.frame _, fun h => by cases h⟩

theorem replays_over : Rows.schedReplaysRow.holds Try.pinned (OpenSpec.ofChange Rows.schedReplaysSpec) :=
  OpenClaim.holds_of_wide 6 Try.f6 rfl rfl rfl rfl rfl rfl rfl ⟨rfl, rfl, rfl, rfl, rfl⟩ rfl rfl rfl rfl rfl (by kernel_rfl) Try.func6 (by kernel_rfl)
    (of_decide_eq_true (by kernel_rfl)) (by unfold Func.isWrapper; first | (rw [if_pos (by decide +kernel)]; kernel_rfl) | (rw [if_neg (by decide +kernel)]; exact ⟨rfl, rfl⟩))
    (fun os started H enc _ => replays_lifted os started H enc)

/-- Replay gives its list, one by one. -/
theorem replays_holds : Rows.SchedReplaysSaid := replays_over
#print axioms replays_holds
end Go.Proofs.Ytdbdiebgjnofgaa
