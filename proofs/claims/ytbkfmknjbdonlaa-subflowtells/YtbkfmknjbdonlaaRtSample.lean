import Derived.Test.YtbkfmknjbdonlaaRtEst
namespace Go.Proofs.Ytbkfmknjbdonlaa
open Go.RowKit
set_option maxRecDepth 100000

def Es.sample (E : Es) (ms : Int) : Es :=
  if E.s then ⟨E.t - E.t / 8 + min ms 60000, E.v - E.v / 4 + (max (min ms 60000) (E.t / 8) - min (min ms 60000) (E.t / 8)), E.b, true⟩ else ⟨8 * min ms 60000, 2 * min ms 60000, E.b, true⟩
theorem Es.Ok.sample {E : Es} (h : E.Ok) {ms : Int} (h0 : 0 ≤ ms) : (E.sample ms).Ok := by
  obtain ⟨t0, t1, v0, v1, b0, b1, no⟩ := h
  unfold Es.sample
  split
  · constructor <;> simp only <;> first | omega | (intro h; cases h)
  · constructor <;> simp only <;> first | omega | (intro h; cases h)
theorem sample_first {w : World} {g : Nat} {t v b : Int} (h : EstAt w g ⟨t, v, b, false⟩) (ok : Es.Ok ⟨t, v, b, false⟩) {ms : Int} (h0 : 0 ≤ ms) :
    Calls Try.prog 49 #[.pointer (some ⟨g, 0, none⟩), .int .u64 ms] w fun e w' => e = .returned (.tuple #[]) ∧ EstAt w' g (Es.sample ⟨t, v, b, false⟩ ms) ∧ Only [g] w w' := by
  have HK := hid (known_any h ok)
  have H := hid h
  obtain ⟨m, hm⟩ : ∃ m : Int, m = min ms 60000 := ⟨_, rfl⟩
  have m0 : 0 ≤ m := by omega
  have m1 : m ≤ 60000 := by omega
  have HE : Hid (Es.sample ⟨t, v, b, false⟩ ms = ⟨8 * m, 2 * m, b, true⟩) := by show _ = _; rw [hm]; rfl
  clear h ok
  go_enter Try.func49, Try.ntmps49
  go_upto_region 1 with (fail)
  rw [← hm]
  clear hm h0
  go_upto_region 2 with (go_at_call 67; refine Calls.mono HK.out ?_; rintro e w2 ⟨rfl, hb⟩; have HB := hid hb; clear hb)
  have R2 : Row w2 g [.int .u64 t, .int .u64 v, .int .i64 b, .bool false] 105 := EstAt.kept H.out HB.out
  clear HK H
  have a0 := R2.cell 0 _ rfl
  have a1 := R2.cell 1 _ rfl
  have a3 := R2.cell 3 _ rfl
  have f0 := R2.frozen 0
  have f1 := R2.frozen 1
  have f3 := R2.frozen 3
  have HR := hid R2
  clear R2
  have e8 : IntKind.u64.wrap (8 * m) = 8 * m := by rw [IntKind.wrap_u64]; omega
  have e2 : IntKind.u64.wrap (2 * m) = 2 * m := by rw [IntKind.wrap_u64]; omega
  go_wp2
  refine bodyPost_ret (results_none Try.results49 _ _ _) rfl ?_
  refine ⟨rfl, ?_, (((Only.of_below HB.out (Nat.le_refl _)).setCell _ _ _ (.inl (by simp))).setCell _ _ _ (.inl (by simp))).setCell _ _ _ (.inl (by simp))⟩
  rw [HE.out]
  exact ((HR.out.set 0 (.int .u64 (8 * m))).set 1 (.int .u64 (2 * m))).set 3 (.bool true)
theorem sample_more {w : World} {g : Nat} {t v b : Int} (h : EstAt w g ⟨t, v, b, true⟩) (ok : Es.Ok ⟨t, v, b, true⟩) {ms : Int} (h0 : 0 ≤ ms) :
    Calls Try.prog 49 #[.pointer (some ⟨g, 0, none⟩), .int .u64 ms] w fun e w' => e = .returned (.tuple #[]) ∧ EstAt w' g (Es.sample ⟨t, v, b, true⟩ ms) ∧ Only [g] w w' := by
  have HK := hid (known_any h ok)
  have H := hid h
  obtain ⟨m, hm⟩ : ∃ m : Int, m = min ms 60000 := ⟨_, rfl⟩
  have m0 : 0 ≤ m := by omega
  have m1 : m ≤ 60000 := by omega
  obtain ⟨t0, t1, v0, v1, b0, b1, no⟩ := ok
  simp only at t0 t1 v0 v1
  obtain ⟨q, hq⟩ : ∃ q : Int, q = t / 8 := ⟨_, rfl⟩
  obtain ⟨x, hx⟩ : ∃ x : Int, x = max m q - min m q := ⟨_, rfl⟩
  have HE : Hid (Es.sample ⟨t, v, b, true⟩ ms = ⟨t - q + m, v - v / 4 + x, b, true⟩) := by show _ = _; rw [hx, hm, hq]; rfl
  have ed : t.tdiv 8 = q := by rw [Int.tdiv_eq_ediv_of_nonneg t0]; exact hq.symm
  have ed2 : IntKind.u64.wrap q = q := by rw [IntKind.wrap_u64]; omega
  have ev : v.tdiv 4 = v / 4 := Int.tdiv_eq_ediv_of_nonneg v0
  have HA := hid (fun w => apart_any (w := w) m0 m1 (show 0 ≤ q by omega) (show q ≤ 60000 by omega))
  have e1 : IntKind.u64.wrap (t - q) = t - q := by rw [IntKind.wrap_u64]; omega
  have e2 : IntKind.u64.wrap (t - q + m) = t - q + m := by rw [IntKind.wrap_u64]; omega
  have e3 : IntKind.u64.wrap (v / 4) = v / 4 := by rw [IntKind.wrap_u64]; omega
  have e4 : IntKind.u64.wrap (v - v / 4) = v - v / 4 := by rw [IntKind.wrap_u64]; omega
  have e5 : IntKind.u64.wrap (v - v / 4 + x) = v - v / 4 + x := by rw [IntKind.wrap_u64]; omega
  rw [← hx] at HA
  clear h no b0 b1
  go_enter Try.func49, Try.ntmps49
  go_upto_region 1 with (fail)
  rw [← hm]
  clear hm h0 hq hx t0 t1 v0 v1 m0 m1
  go_upto_region 3 with (go_at_call 67; refine Calls.mono HK.out ?_; rintro e w2 ⟨rfl, hb⟩; have HB := hid hb; clear hb)
  have R2 : Row w2 g [.int .u64 t, .int .u64 v, .int .i64 b, .bool true] 105 := EstAt.kept H.out HB.out
  clear HK H
  have a0 := R2.cell 0 _ rfl
  have f0 := R2.frozen 0
  have HR := hid R2
  clear R2
  go_upto_region 4 with (fail)
  go_upto_region 5 with (fail)
  refine wp_world fun w3 HW => ?_
  have R3 : Row w3 g [.int .u64 (t - q + m), .int .u64 v, .int .i64 b, .bool true] 105 := by rw [HW.out]; exact HR.out.set 0 (.int .u64 (t - q + m))
  have HB3 : Hid (Only [g] w w3) := by show Only _ _ _; rw [HW.out]; exact (Only.of_below HB.out (Nat.le_refl _)).setCell _ _ _ (.inl (by simp))
  clear HW HR HB a0 f0
  have HR3 := hid (R3.drawn (w3.drawn + 1))
  have a1 := HR3.out.cell 1 _ rfl
  have f1 := HR3.out.frozen 1
  replace HB3 := hid (HB3.out.drawn (w3.drawn + 1))
  clear R3
  refine wp_region_still_tail 17 (by kernel_rfl) (by kernel_rfl) ?_
  generalize ({ w3 with drawn := w3.drawn + 1 } : World) = wq at *
  simp only [List.take_succ_cons, List.take_zero, List.drop_succ_cons, List.drop_zero]
  iterate 13 still_step
  still_call (HA.out _)
  iterate 3 still_step
  refine wpStill_nil ?_
  go_wp2
  refine bodyPost_end (results_none Try.results49 _ _ _) rfl ?_
  refine ⟨rfl, ?_, HB3.out.setCell _ _ _ (.inl (by simp))⟩
  rw [HE.out]
  exact HR3.out.set 1 (.int .u64 (v - v / 4 + x))
theorem sample_any {w : World} {g : Nat} {E : Es} (h : EstAt w g E) (ok : E.Ok) {ms : Int} (h0 : 0 ≤ ms) :
    Calls Try.prog 49 #[.pointer (some ⟨g, 0, none⟩), .int .u64 ms] w fun e w' => e = .returned (.tuple #[]) ∧ EstAt w' g (E.sample ms) ∧ Only [g] w w' := by
  obtain ⟨t, v, b, s⟩ := E
  cases s
  · exact sample_first h ok h0
  · exact sample_more h ok h0
end Go.Proofs.Ytbkfmknjbdonlaa
