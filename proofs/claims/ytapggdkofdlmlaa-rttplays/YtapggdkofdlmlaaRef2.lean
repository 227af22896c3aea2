import Derived.Test.YtapggdkofdlmlaaRef
namespace Go.Proofs.Ytapggdkofdlmlaa
open Go.RowKit Go.Sort
set_option maxRecDepth 100000

theorem rsample_first {w : World} {g : Nat} {E : Es} (h : RefAt w g E 0) {ms : Int} (h0 : 0 ≤ ms) :
    Calls Try.prog 18 #[.pointer (some ⟨g, 0, none⟩), .int .u64 ms] w fun e w' => e = .returned (.tuple #[]) ∧ RefAt w' g (E.sample ms) 1 ∧ Only [g] w w' := by
  have c0 := h.row.cell 0 _ rfl
  have c1 := h.row.cell 1 _ rfl
  have c2 := h.row.cell 2 _ rfl
  have f0 := h.row.frozen 0
  have f1 := h.row.frozen 1
  have f2 := h.row.frozen 2
  have H := hid h
  obtain ⟨m, hm⟩ : ∃ m : Int, min ms 60000 = m := ⟨_, rfl⟩
  have HE : Hid (E.sample ms = ⟨8 * m, 2 * m, E.b, true⟩) := by show _ = _; unfold Es.sample; rw [if_neg (by rw [h.s]; decide), hm]
  have m0 : 0 ≤ m := by omega
  have m1 : m ≤ 60000 := by omega
  have w1 : wrap64 (8 * m) = 8 * m := by unfold wrap64; omega
  have w2 : wrap64 (2 * m) = 2 * m := by unfold wrap64; omega
  have w3 : wrap64 m = m := by unfold wrap64; omega
  clear h
  by_cases hg : 60000 < ms
  · obtain rfl : 60000 = m := by omega
    go_enter Try.func18, Try.ntmps18
    go_wp2
    refine bodyPost_ret (results_none Try.results18 _ _ _) rfl ?_
    refine ⟨rfl, ⟨?_, by rw [HE.out]; rfl⟩, (((Only.refl _ _).setCell _ _ _ (.inl (by simp))).setCell _ _ _ (.inl (by simp))).setCell _ _ _ (.inl (by simp))⟩
    rw [HE.out]
    exact ((H.out.row.set 2 (.int .i64 1)).set 0 (.int .i64 480000)).set 1 (.int .i64 120000)
  · obtain rfl : ms = m := by omega
    have hg' : decide (60000 < ms) = false := decide_eq_false hg
    clear hm m1 hg
    go_enter Try.func18, Try.ntmps18
    go_wp2
    refine bodyPost_ret (results_none Try.results18 _ _ _) rfl ?_
    refine ⟨rfl, ⟨?_, by rw [HE.out]; rfl⟩, (((Only.refl _ _).setCell _ _ _ (.inl (by simp))).setCell _ _ _ (.inl (by simp))).setCell _ _ _ (.inl (by simp))⟩
    rw [HE.out]
    exact ((H.out.row.set 2 (.int .i64 1)).set 0 (.int .i64 (8 * ms))).set 1 (.int .i64 (2 * ms))
theorem rsample_more {w : World} {g n : Nat} {E : Es} (h : RefAt w g E (n + 1)) (ok : E.Ok) (hn : n ≤ 140737488355328) {ms : Int} (h0 : 0 ≤ ms) :
    Calls Try.prog 18 #[.pointer (some ⟨g, 0, none⟩), .int .u64 ms] w fun e w' => e = .returned (.tuple #[]) ∧ RefAt w' g (E.sample ms) (n + 2) ∧ Only [g] w w' := by
  have c0 := h.row.cell 0 _ rfl
  have c1 := h.row.cell 1 _ rfl
  have c2 := h.row.cell 2 _ rfl
  have f0 := h.row.frozen 0
  have f1 := h.row.frozen 1
  have f2 := h.row.frozen 2
  obtain ⟨m, hm⟩ : ∃ m : Int, min ms 60000 = m := ⟨_, rfl⟩
  obtain ⟨t, v, b, s⟩ := E
  have hs : s = true := by have := h.s; simp at this; exact this
  subst hs
  have H := hid h
  have HE : Hid (Es.sample ⟨t, v, b, true⟩ ms = ⟨t - t / 8 + m, v - v / 4 + (max m (t / 8) - min m (t / 8)), b, true⟩) := by show _ = _; unfold Es.sample; rw [if_pos rfl, hm]
  have m0 : 0 ≤ m := by omega
  have m1 : m ≤ 60000 := by omega
  obtain ⟨t0, t1, v0, v1, b0, b1, no⟩ := ok
  simp only at t0 t1 v0 v1 c0 c1 c2
  have w3 : wrap64 m = m := by unfold wrap64; omega
  have ed : t.tdiv 8 = t / 8 := Int.tdiv_eq_ediv_of_nonneg t0
  have ev : v.tdiv 4 = v / 4 := Int.tdiv_eq_ediv_of_nonneg v0
  have e1 : wrap64 (t / 8) = t / 8 := by unfold wrap64; omega
  have e2 : wrap64 (v / 4) = v / 4 := by unfold wrap64; omega
  obtain ⟨q, hq⟩ : ∃ q : Int, t / 8 = q := ⟨_, rfl⟩
  obtain ⟨p, hp⟩ : ∃ p : Int, v / 4 = p := ⟨_, rfl⟩
  rw [hq] at ed e1 HE
  rw [hp] at ev e2 HE
  have q0 : 0 ≤ q := by omega
  have q1 : q ≤ 60000 := by omega
  have p0 : 0 ≤ p := by omega
  have p1 : p ≤ 60000 := by omega
  have e3 : wrap64 (m - q) = m - q := by unfold wrap64; omega
  have e4 : wrap64 (t + (m - q)) = t + (m - q) := by unfold wrap64; omega
  have e5 : wrap64 (-(m - q)) = -(m - q) := by unfold wrap64; omega
  obtain ⟨c, hc⟩ : ∃ c : Int, ((n + 1 : Nat) : Int) = c := ⟨_, rfl⟩
  have hc1 : 1 ≤ c := by omega
  have hc2 : c ≤ 140737488355329 := by omega
  have HCC : Hid (((n + 2 : Nat) : Int) = c + 1) := by show _ = _; omega
  rw [hc] at c2
  have e6 : wrap64 (c + 1) = c + 1 := by unfold wrap64; omega
  have e7 : (c + 1 == 1) = false := by rw [beq_eq_false_iff_ne]; omega
  clear hq hp no b0 b1 t0 t1 h hn
  have key : ∀ (ms0 : Int), (60000 < ms0 ∧ m = 60000 ∨ decide (60000 < ms0) = false ∧ ms0 = m) → Calls Try.prog 18 #[.pointer (some ⟨g, 0, none⟩), .int .u64 ms0] w fun e w' => e = .returned (.tuple #[]) ∧ RefAt w' g ⟨t - q + m, v - p + (max m q - min m q), b, true⟩ (n + 2) ∧ Only [g] w w' := by
    intro ms0 hms
    have R : Row w g [.int .i64 t, .int .i64 v, .int .i64 c, .int .i64 b] 41 := by rw [← hc]; exact H.out.row
    have HR := hid R
    clear R H hc hc1 hc2
    obtain ⟨d, hdq⟩ : ∃ d : Int, m - q = d := ⟨_, rfl⟩
    rw [hdq] at e3 e4 e5
    have HT : Hid (t - q + m = t + d) := by show _ = _; omega
    have hd1 : d ≤ 60000 := by omega
    have hd2 : -60000 ≤ d := by omega
    by_cases hd : d < 0
    · have HV : Hid (v - p + (max m q - min m q) = v + -d - p) := by show _ = _; omega
      have e8 : wrap64 (v + -d) = v + -d := by unfold wrap64; omega
      have e9 : wrap64 (v + -d - p) = v + -d - p := by unfold wrap64; omega
      rcases hms with ⟨hg, rfl⟩ | ⟨hg, rfl⟩
      · omega
      · clear v0 v1
        go_enter Try.func18, Try.ntmps18
        go_upto_region 10 with (fail)
        refine wp_world fun w3 HW => ?_
        have R3 : Row w3 g [.int .i64 (t + d), .int .i64 v, .int .i64 (c + 1), .int .i64 b] 41 := by rw [HW.out]; exact (HR.out.set 2 (.int .i64 (c + 1))).set 0 (.int .i64 (t + d))
        have HB3 : Hid (Only [g] w w3) := by show Only _ _ _; rw [HW.out]; exact ((Only.refl _ _).setCell _ _ _ (.inl (by simp))).setCell _ _ _ (.inl (by simp))
        have a1 := R3.cell 1 _ rfl
        have g1 := R3.frozen 1
        have HR3 := hid R3
        clear R3 HW c0 c1 c2 f0 f1 f2 HR
        go_region
        go_wp2
        refine bodyPost_end (results_none Try.results18 _ _ _) rfl ?_
        refine ⟨rfl, ⟨?_, rfl⟩, (HB3.out.setCell g 1 _ (.inl (by simp))).drawn _⟩
        rw [HCC.out, HV.out, HT.out]
        exact (HR3.out.set 1 _).drawn _
    · have HV : Hid (v - p + (max m q - min m q) = v + d - p) := by show _ = _; omega
      have e8 : wrap64 (v + d) = v + d := by unfold wrap64; omega
      have e9 : wrap64 (v + d - p) = v + d - p := by unfold wrap64; omega
      have e10 : decide (d < 0) = false := decide_eq_false hd
      clear v0 v1
      rcases hms with ⟨hg, rfl⟩ | ⟨hg, rfl⟩
      · clear hd
        go_enter Try.func18, Try.ntmps18
        go_upto_region 10 with (fail)
        refine wp_world fun w3 HW => ?_
        have R3 : Row w3 g [.int .i64 (t + d), .int .i64 v, .int .i64 (c + 1), .int .i64 b] 41 := by rw [HW.out]; exact (HR.out.set 2 (.int .i64 (c + 1))).set 0 (.int .i64 (t + d))
        have HB3 : Hid (Only [g] w w3) := by show Only _ _ _; rw [HW.out]; exact ((Only.refl _ _).setCell _ _ _ (.inl (by simp))).setCell _ _ _ (.inl (by simp))
        have a1 := R3.cell 1 _ rfl
        have g1 := R3.frozen 1
        have HR3 := hid R3
        clear R3 HW c0 c1 c2 f0 f1 f2 HR
        go_region
        go_wp2
        refine bodyPost_end (results_none Try.results18 _ _ _) rfl ?_
        refine ⟨rfl, ⟨?_, rfl⟩, (HB3.out.setCell g 1 _ (.inl (by simp))).drawn _⟩
        rw [HCC.out, HV.out, HT.out]
        exact (HR3.out.set 1 _).drawn _
      · clear hd
        go_enter Try.func18, Try.ntmps18
        go_upto_region 10 with (fail)
        refine wp_world fun w3 HW => ?_
        have R3 : Row w3 g [.int .i64 (t + d), .int .i64 v, .int .i64 (c + 1), .int .i64 b] 41 := by rw [HW.out]; exact (HR.out.set 2 (.int .i64 (c + 1))).set 0 (.int .i64 (t + d))
        have HB3 : Hid (Only [g] w w3) := by show Only _ _ _; rw [HW.out]; exact ((Only.refl _ _).setCell _ _ _ (.inl (by simp))).setCell _ _ _ (.inl (by simp))
        have a1 := R3.cell 1 _ rfl
        have g1 := R3.frozen 1
        have HR3 := hid R3
        clear R3 HW c0 c1 c2 f0 f1 f2 HR
        go_region
        go_wp2
        refine bodyPost_end (results_none Try.results18 _ _ _) rfl ?_
        refine ⟨rfl, ⟨?_, rfl⟩, (HB3.out.setCell g 1 _ (.inl (by simp))).drawn _⟩
        rw [HCC.out, HV.out, HT.out]
        exact (HR3.out.set 1 _).drawn _
  rw [HE.out]
  refine key ms ?_
  by_cases hg : 60000 < ms
  · exact .inl ⟨hg, by omega⟩
  · exact .inr ⟨decide_eq_false hg, by omega⟩
theorem rsample_any {w : World} {g n : Nat} {E : Es} (h : RefAt w g E n) (ok : E.Ok) (hn : n ≤ 140737488355328) {ms : Int} (h0 : 0 ≤ ms) :
    Calls Try.prog 18 #[.pointer (some ⟨g, 0, none⟩), .int .u64 ms] w fun e w' => e = .returned (.tuple #[]) ∧ RefAt w' g (E.sample ms) (n + 1) ∧ Only [g] w w' := by
  cases n with
  | zero => exact rsample_first h h0
  | succ n => exact rsample_more h ok (by omega) h0
end Go.Proofs.Ytapggdkofdlmlaa
