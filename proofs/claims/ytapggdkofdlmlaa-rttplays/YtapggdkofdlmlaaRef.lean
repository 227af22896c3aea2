import Derived.Test.YtapggdkofdlmlaaBounds
namespace Go.Proofs.Ytapggdkofdlmlaa
open Go.RowKit Go.Sort
set_option maxRecDepth 100000

/-- The document's own Est, as it lies: how many samples there were stands for whether there was one. -/
structure RefAt (w : World) (g : Nat) (E : Es) (n : Nat) : Prop where
  row : Row w g [.int .i64 E.t, .int .i64 E.v, .int .i64 (n : Int), .int .i64 E.b] 41
  s : E.s = decide (0 < n)
theorem RefAt.kept {w w' : World} {g n : Nat} {E : Es} (h : RefAt w g E n) (hb : Below w.heap.size w w') : RefAt w' g E n := ⟨h.row.kept hb h.row.lt, h.s⟩

theorem rcalm_any {w : World} {g n : Nat} {E : Es} (h : RefAt w g E n) :
    Calls Try.prog 20 #[.pointer (some ⟨g, 0, none⟩)] w fun e w' => e = .returned (.tuple #[]) ∧ RefAt w' g E.calm n ∧ Only [g] w w' := by
  have c3 := h.row.cell 3 _ rfl
  have f3 := h.row.frozen 3
  have H := hid h
  clear h
  go_enter Try.func20, Try.ntmps20
  go_wp2
  refine bodyPost_end (results_none Try.results20 _ _ _) rfl ?_
  exact ⟨rfl, ⟨H.out.row.set 3 _, H.out.s⟩, (Only.refl _ _).setCell _ _ _ (.inl (by simp))⟩
theorem rback_any {w : World} {g n : Nat} {E : Es} (h : RefAt w g E n) (hb : 0 ≤ E.b) (hb1 : E.b ≤ 16) :
    Calls Try.prog 19 #[.pointer (some ⟨g, 0, none⟩)] w fun e w' => e = .returned (.tuple #[]) ∧ RefAt w' g E.back n ∧ Only [g] w w' := by
  have c3 := h.row.cell 3 _ rfl
  have f3 := h.row.frozen 3
  have H := hid h
  clear h
  by_cases hlt : E.b < 16
  · have hm : E.back = { E with b := E.b + 1 } := by unfold Es.back; rw [show min (E.b + 1) 16 = E.b + 1 by omega]
    have HM := hid hm
    clear hm
    have ew : wrap64 (E.b + 1) = E.b + 1 := by unfold wrap64; omega
    go_enter Try.func19, Try.ntmps19
    go_wp2
    refine bodyPost_end (results_none Try.results19 _ _ _) rfl ?_
    refine ⟨rfl, ?_, (Only.refl _ _).setCell _ _ _ (.inl (by simp))⟩
    rw [HM.out]
    exact ⟨H.out.row.set 3 _, H.out.s⟩
  · have hm : E.back = E := by unfold Es.back; rw [show min (E.b + 1) 16 = E.b by omega]
    have HM := hid hm
    clear hm
    have q : decide (E.b < 16) = false := decide_eq_false hlt
    go_enter Try.func19, Try.ntmps19
    go_wp2
    refine bodyPost_end (results_none Try.results19 _ _ _) rfl ?_
    refine ⟨rfl, ?_, Only.refl _ _⟩
    rw [HM.out]
    exact H.out
theorem rsrtt_any {w : World} {g n : Nat} {E : Es} (h : RefAt w g E n) (ok : E.Ok) :
    Calls Try.prog 24 #[.pointer (some ⟨g, 0, none⟩)] w fun e w' => e = .returned (.tuple #[.int .u64 (E.t / 8), .bool E.s]) ∧ Below w.heap.size w w' := by
  have c0 := h.row.cell 0 _ rfl
  have c2 := h.row.cell 2 _ rfl
  have HS := hid h.s
  have ed : E.t.tdiv 8 = E.t / 8 := Int.tdiv_eq_ediv_of_nonneg ok.t0
  have e1 : IntKind.u64.wrap (E.t / 8) = E.t / 8 := by rw [IntKind.wrap_u64]; have := ok.t0; have := ok.t1; omega
  have e2 : wrap64 (E.t / 8) = E.t / 8 := by unfold wrap64; have := ok.t0; have := ok.t1; omega
  have es : decide ((0 : Int) < (n : Int)) = E.s := by rw [h.s]; by_cases hn : 0 < n <;> simp [hn]
  clear h ok
  go_enter Try.func24, Try.ntmps24
  go_upto_region 1 with (fail)
  go_region
  go_wp2
  go_ret2
  exact ⟨by rw [HS.out]; first | rfl | simp, below_drawn (Below.refl _ _) _⟩
theorem rvar_any {w : World} {g n : Nat} {E : Es} (h : RefAt w g E n) (ok : E.Ok) :
    Calls Try.prog 25 #[.pointer (some ⟨g, 0, none⟩)] w fun e w' => e = .returned (.tuple #[.int .u64 (E.v / 4), .bool E.s]) ∧ Below w.heap.size w w' := by
  have c0 := h.row.cell 1 _ rfl
  have c2 := h.row.cell 2 _ rfl
  have HS := hid h.s
  have ed : E.v.tdiv 4 = E.v / 4 := Int.tdiv_eq_ediv_of_nonneg ok.v0
  have e1 : IntKind.u64.wrap (E.v / 4) = E.v / 4 := by rw [IntKind.wrap_u64]; have := ok.v0; have := ok.v1; omega
  have e2 : wrap64 (E.v / 4) = E.v / 4 := by unfold wrap64; have := ok.v0; have := ok.v1; omega
  clear h ok
  go_enter Try.func25, Try.ntmps25
  go_upto_region 1 with (fail)
  go_region
  go_wp2
  go_ret2
  exact ⟨by rw [HS.out]; first | rfl | simp, below_drawn (Below.refl _ _) _⟩
end Go.Proofs.Ytapggdkofdlmlaa
