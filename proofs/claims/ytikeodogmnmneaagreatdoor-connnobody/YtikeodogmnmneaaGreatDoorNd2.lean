import Derived.Test.YtikeodogmnmneaaGreatDoorNd1
namespace Go.Proofs.YtikeodogmnmneaaGreatDoor
open Go.ChangeShapes Go.WideShapes Go.ChangeAt Go.RowKit Go.Deep
set_option maxRecDepth 100000

theorem nobody_lifted (os : Os) (started : os.Started) (H : Type) (enc : TypeId × Value → H) :
    ReturnsInHanded {} Tryz.checked os 4 .any (fun w args => (Rows.connNobodySpec.pre enc Tryz.prog Tryz.f4 [] false w args ∧ laidMetH Tryz.prog Rows.connNobodyRow.laid w) ∧ sizedMet enc Tryz.prog Tryz.f4 (OpenSpec.ofChange Rows.connNobodySpec) false w args)
      (Rows.connNobodySpec.post enc Tryz.prog Tryz.f4 false true false false) := by
  refine returnsInHanded_of_change_and (C := Tryz.checked) (X := fun w _ => laidMetH Tryz.prog Rows.connNobodyRow.laid w) (fun _ _ _ hh h => h.of_heap hh) own started (by kernel_rfl) Tryz.func4
    (ChangeSpec.witness_shaped (enc := enc) (C := Tryz.checked) (os := os) (X := fun w _ => laidMetH Tryz.prog Rows.connNobodyRow.laid w) false (World.doorLaid Tryz.prog 400 os) #[.bool false, .agg #[.int .i64 0, .int .i64 0, .int .i64 0, .int .i64 0, .bool false, .slice none 0 0, .int .i64 0, .int .i64 0, .int .u64 0, .int .u64 0, .int .u64 0, .slice none 0 0, .slice none 0 0, .int .u32 0, .int .u32 0, .slice none 0 0, .bool false, .int .i64 0, .int .i64 0, .int .u8 0]] 8 rfl (World.shaped_of_RefB (by kernel_rfl) (by kernel_rfl)) (by kernel_rfl) (by kernel_rfl) (by kernel_rfl) (nobody_met os _)) ?_
  intro W base args ds gs before hval0 hW _ _ hL _
  have hval : ∀ (j : Nat) t v, Tryz.f4.params[j]? = some t → args[j]? = some v → Value.okWide Tryz.prog W .any base t v := hval0
  have hW' := hW
  obtain ⟨p, q, hA0, hV, rfl, _, _⟩ := hW
  have hA : DataW.TrodAll enc Tryz.prog W 0 (fun _ => true) true Tryz.f4.params.toList args.toList ds p := hA0
  rw [Tryz.params4] at hA hval
  obtain ⟨v0, v1, d0, d1, p0, p1, rfl, rfl, rfl, h0, h1⟩ := trodAll_two hA
  obtain ⟨rfl, rfl⟩ := trodVars_none hV
  have k0 := h0
  obtain ⟨x0, rfl, rfl, rfl⟩ := open_bool Tryz.underlying4 (hval 0 4 v0 rfl rfl) h0
  have hv1 := hval 1 55 v1 rfl rfl
  unfold Value.okWide at hv1
  rw [Tryz.underlying55] at hv1
  obtain ⟨cs, rfl, _, _⟩ := hv1
  have k1 := h1
  have lt1 : ∀ x ∈ p1, x.block < W.heap.size := by obtain ⟨m, hm⟩ := k1; exact DataW.trod_lt m _ _ _ hm
  obtain ⟨pa, n, on, v0, v1, b, f0, f1, f2, f3, f4, f5, f6, f7, f8, f9, f10, f11, v18, v19, hcs⟩ : ∃ (pa n : Int) (on : Bool) (v0 v1 b f0 f1 f2 f3 f4 f5 f6 f7 f8 f9 f10 f11 v18 v19 : Value), cs.toList = [v0, v1, .int .i64 pa, .int .i64 n, .bool on, b, f0, f1, f2, f3, f4, f5, f6, f7, f8, f9, f10, f11, v18, v19] := by
    obtain ⟨fuel, hf⟩ := h1
    exact open_act hf
  obtain rfl : cs = #[v0, v1, .int .i64 pa, .int .i64 n, .bool on, b, f0, f1, f2, f3, f4, f5, f6, f7, f8, f9, f10, f11, v18, v19] := by rw [← Array.toArray_toList (xs := cs), hcs]
  clear hA0 hval0 hL
  refine (nobody_any x0 v0 v1 pa n on b f0 f1 f2 f3 f4 f5 f6 f7 f8 f9 f10 f11 v18 v19).mono fun e W' ⟨he, bel⟩ => ?_
  subst he
  exact ⟨_, rfl, _, _, _, [], _, [], hW', trodAll_mk1 (shut_bool Tryz.underlying4 _), trodAll_cons_mk (Below.trod laidOut (by kernel_rfl) (of_decide_eq_true (by kernel_rfl)) k0 bel (by simp)) (trodAll_cons_mk (Below.trod laidOut (by kernel_rfl) (of_decide_eq_true (by kernel_rfl)) k1 bel lt1) trodAll_mk0), rfl, bel.frame _, fun h => by cases h⟩

end Go.Proofs.YtikeodogmnmneaaGreatDoor
