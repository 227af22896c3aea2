import Derived.Test.YtkcoabjeaoigdaaFair
namespace Go.Proofs.Ytkcoabjeaoigdaa
open Go.RowKit Go.Sort
set_option maxRecDepth 100000

/-- A Group that New did not give. -/
def Nob (w : World) (v : Option Addr) : Prop := v = none ∨ ∃ g D, v = some ⟨g, 0, none⟩ ∧ GAt w g 0 D
theorem Nob.kept {w w' : World} {v : Option Addr} (h : Nob w v) (hb : Below w.heap.size w w') : Nob w' v := by
  rcases h with h | ⟨g, D, h, k⟩
  · exact .inl h
  · exact .inr ⟨g, D, h, k.kept hb⟩
theorem Nob.lane {w : World} {v : Option Addr} (h : Nob w v) (p : Int) : Calls Try.prog 20 #[.pointer v, .int .i64 p] w fun e w' => e = .returned (.pointer none) ∧ w' = w := by
  rcases h with rfl | ⟨g, D, rfl, k⟩
  · exact lane_nil
  · exact lane_out k (by omega)
section
variable {w : World} {v : Option Addr}
theorem take_no (h : Nob w v) {p : Int} {b : Bool} : Calls Try.prog 10 #[.pointer v, .int .i64 p, .bool b] w fun e w' => e = .returned (.tuple #[]) ∧ w' = w := by
  have HL := hid (h.lane p)
  clear h
  go_enter Try.func10, Try.ntmps10
  go_wp2_with (go_at_call 20; refine Calls.mono HL.out ?_; rintro e w2 ⟨rfl, rfl⟩)
  refine bodyPost_end (results_none Try.results10 _ _ _) rfl ?_
  exact ⟨rfl, rfl⟩
theorem rtt_no (h : Nob w v) {p ms : Int} : Calls Try.prog 11 #[.pointer v, .int .i64 p, .int .u64 ms] w fun e w' => e = .returned (.tuple #[]) ∧ w' = w := by
  have HL := hid (h.lane p)
  clear h
  go_enter Try.func11, Try.ntmps11
  go_wp2_with (go_at_call 20; refine Calls.mono HL.out ?_; rintro e w2 ⟨rfl, rfl⟩)
  refine bodyPost_end (results_none Try.results11 _ _ _) rfl ?_
  exact ⟨rfl, rfl⟩
theorem acked_no (h : Nob w v) {p F : Int} : Calls Try.prog 14 #[.pointer v, .int .i64 p, .int .i64 F] w fun e w' => e = .returned (.tuple #[]) ∧ w' = w := by
  have HL := hid (h.lane p)
  clear h
  go_enter Try.func14, Try.ntmps14
  go_wp2_with (go_at_call 20; refine Calls.mono HL.out ?_; rintro e w2 ⟨rfl, rfl⟩)
  refine bodyPost_ret (results_none Try.results14 _ _ _) rfl ?_
  exact ⟨rfl, rfl⟩
theorem lose_no (h : Nob w v) {p kd : Int} : Calls Try.prog 21 #[.pointer v, .int .i64 p, .int .i64 kd] w fun e w' => e = .returned (.tuple #[]) ∧ w' = w := by
  have HL := hid (h.lane p)
  clear h
  go_enter Try.func21, Try.ntmps21
  go_wp2_with (go_at_call 20; refine Calls.mono HL.out ?_; rintro e w2 ⟨rfl, rfl⟩)
  refine bodyPost_end (results_none Try.results21 _ _ _) rfl ?_
  exact ⟨rfl, rfl⟩
theorem cut_no (h : Nob w v) {p : Int} : Calls Try.prog 12 #[.pointer v, .int .i64 p] w fun e w' => e = .returned (.tuple #[]) ∧ w' = w := by
  have HL := hid (lose_no h (p := p) (kd := 0))
  clear h
  go_enter Try.func12, Try.ntmps12
  go_wp2_with (go_at_call 21; refine Calls.mono HL.out ?_; rintro e w2 ⟨rfl, rfl⟩)
  refine bodyPost_end (results_none Try.results12 _ _ _) rfl ?_
  exact ⟨rfl, rfl⟩
theorem timeout_no (h : Nob w v) {p : Int} : Calls Try.prog 23 #[.pointer v, .int .i64 p] w fun e w' => e = .returned (.tuple #[]) ∧ w' = w := by
  have HL := hid (lose_no h (p := p) (kd := 1))
  clear h
  go_enter Try.func23, Try.ntmps23
  go_wp2_with (go_at_call 21; refine Calls.mono HL.out ?_; rintro e w2 ⟨rfl, rfl⟩)
  refine bodyPost_end (results_none Try.results23 _ _ _) rfl ?_
  exact ⟨rfl, rfl⟩
theorem window_no (h : Nob w v) {p : Int} : Calls Try.prog 13 #[.pointer v, .int .i64 p] w fun e w' => e = .returned (.agg #[.int .i64 0, .int .i64 0]) ∧ Below w.heap.size w w' := by
  rcases h with rfl | ⟨g, D, rfl, k⟩
  · exact window_nil
  · have := window_any k p
    rwa [show winD D 0 p = (0, 0) by unfold winD; rw [if_neg (by omega)]] at this
theorem frames_no (h : Nob w v) {p : Int} : Calls Try.prog 17 #[.pointer v, .int .i64 p] w fun e w' => e = .returned (.int .i64 0) ∧ Below w.heap.size w w' := by
  rcases h with rfl | ⟨g, D, rfl, k⟩
  · exact frames_nil
  · have := frames_any k p
    rwa [show winD D 0 p = (0, 0) by unfold winD; rw [if_neg (by omega)]] at this
end
/-- The document's group without a path. -/
def REmp (w : World) (r : Nat) : Prop := Row w r [.slice none 0 0] 52
section
variable {w : World} {r : Nat}
theorem has_emp (h : REmp w r) {p : Int} : Calls Try.prog 29 #[.pointer (some ⟨r, 0, none⟩), .int .i64 p] w fun e w' => e = .returned (.bool false) ∧ w' = w := by
  have c0 := Row.cell h 0 _ rfl
  clear h
  by_cases h0 : 0 ≤ p
  · have d0 : decide (0 ≤ p) = true := decide_eq_true h0
    have d1 : decide (p < 0) = false := decide_eq_false (by omega)
    clear h0
    go_enter Try.func29, Try.ntmps29
    go_wp2
    go_ret
    exact ⟨rfl, rfl⟩
  · have d0 : decide (0 ≤ p) = false := decide_eq_false h0
    clear h0
    go_enter Try.func29, Try.ntmps29
    go_wp2
    go_ret
    exact ⟨rfl, rfl⟩
theorem rtake_emp (h : REmp w r) {p : Int} {b : Bool} : Calls Try.prog 24 #[.pointer (some ⟨r, 0, none⟩), .int .i64 p, .bool b] w fun e w' => e = .returned (.tuple #[]) ∧ w' = w := by
  have HL := hid (has_emp h (p := p))
  clear h
  go_enter Try.func24, Try.ntmps24
  go_wp2_with (go_at_call 29; refine Calls.mono HL.out ?_; rintro e w2 ⟨rfl, rfl⟩)
  refine bodyPost_end (results_none Try.results24 _ _ _) rfl ?_
  exact ⟨rfl, rfl⟩
theorem rrtt_emp (h : REmp w r) {p ms : Int} : Calls Try.prog 25 #[.pointer (some ⟨r, 0, none⟩), .int .i64 p, .int .u64 ms] w fun e w' => e = .returned (.tuple #[]) ∧ w' = w := by
  have HL := hid (has_emp h (p := p))
  clear h
  go_enter Try.func25, Try.ntmps25
  go_wp2_with (go_at_call 29; refine Calls.mono HL.out ?_; rintro e w2 ⟨rfl, rfl⟩)
  refine bodyPost_ret (results_none Try.results25 _ _ _) rfl ?_
  exact ⟨rfl, rfl⟩
theorem racked_emp (h : REmp w r) {p F : Int} : Calls Try.prog 26 #[.pointer (some ⟨r, 0, none⟩), .int .i64 p, .int .i64 F] w fun e w' => e = .returned (.tuple #[]) ∧ w' = w := by
  have HL := hid (has_emp h (p := p))
  clear h
  go_enter Try.func26, Try.ntmps26
  go_wp2_with (go_at_call 29; refine Calls.mono HL.out ?_; rintro e w2 ⟨rfl, rfl⟩)
  refine bodyPost_ret (results_none Try.results26 _ _ _) rfl ?_
  exact ⟨rfl, rfl⟩
theorem rcut_emp (h : REmp w r) {p : Int} : Calls Try.prog 27 #[.pointer (some ⟨r, 0, none⟩), .int .i64 p] w fun e w' => e = .returned (.tuple #[]) ∧ w' = w := by
  have HL := hid (has_emp h (p := p))
  clear h
  go_enter Try.func27, Try.ntmps27
  go_wp2_with (go_at_call 29; refine Calls.mono HL.out ?_; rintro e w2 ⟨rfl, rfl⟩)
  refine bodyPost_end (results_none Try.results27 _ _ _) rfl ?_
  exact ⟨rfl, rfl⟩
theorem rtimeout_emp (h : REmp w r) {p : Int} : Calls Try.prog 28 #[.pointer (some ⟨r, 0, none⟩), .int .i64 p] w fun e w' => e = .returned (.tuple #[]) ∧ w' = w := by
  have HL := hid (has_emp h (p := p))
  clear h
  go_enter Try.func28, Try.ntmps28
  go_wp2_with (go_at_call 29; refine Calls.mono HL.out ?_; rintro e w2 ⟨rfl, rfl⟩)
  refine bodyPost_end (results_none Try.results28 _ _ _) rfl ?_
  exact ⟨rfl, rfl⟩
theorem rframes_emp (h : REmp w r) {p : Int} : Calls Try.prog 30 #[.pointer (some ⟨r, 0, none⟩), .int .i64 p] w fun e w' => e = .returned (.int .i64 0) ∧ w' = w := by
  have HL := hid (has_emp h (p := p))
  clear h
  go_enter Try.func30, Try.ntmps30
  go_wp2_with (go_at_call 29; refine Calls.mono HL.out ?_; rintro e w2 ⟨rfl, rfl⟩)
  go_ret
  exact ⟨rfl, rfl⟩
end
set_option maxHeartbeats 1000000 in
theorem look_emp {w : World} {v : Option Addr} {r : Nat} (hv : Nob w v) (hr : REmp w r) {p : Int} :
    Calls Try.prog 19 #[.pointer v, .pointer (some ⟨r, 0, none⟩), .int .i64 p] w fun e w' => e = .returned (.bool true) ∧ Below w.heap.size w w' := by
  have HB0 := hid (below_grow (Below.refl w.heap.size w) (.cells #[.int .i64 0, .int .i64 0] 29))
  have HV := hid hv
  have HR := hid hr
  clear hv hr
  go_enter Try.func19, Try.ntmps19
  go_upto_region 2 with (fail)
  refine wp_world fun wa HW => ?_
  have HBa : Hid (Below w.heap.size w wa) := by show Below _ _ _; rw [HW.out]; exact HB0.out
  have HXa : Hid (Row wa w.heap.size [.int .i64 0, .int .i64 0] 29) := by show Row _ _ _ _; rw [HW.out]; exact Row.new _ _ _
  clear HW HB0
  obtain ⟨x, hx⟩ : ∃ x, x = w.heap.size := ⟨_, rfl⟩
  rw [← hx] at HXa
  rw [← hx]
  clear hx
  have HVa := hid (HV.out.kept HBa.out)
  have HRa : Hid (REmp wa r) := Row.kept HR.out HBa.out (Row.lt HR.out)
  clear HV HR
  go_upto_region 4 with (go_at_call 29; refine Calls.mono (has_emp HRa.out) ?_; rintro e wb ⟨rfl, rfl⟩)
  have K1 : Hid (∀ d os, Calls Try.prog 17 #[.pointer v, .int .i64 p] (grow (redrawn wb d) os) fun e w'' => e = .returned (.int .i64 0) ∧ ∃ q : Regrown, w'' = grow (redrawn wb q.d) q.os) :=
    fun d os => Calls.regrown_of (frames_no (HVa.out.kept (below_regrown _ d os)))
  have K2 : Hid (∀ d os, Calls Try.prog 30 #[.pointer (some ⟨r, 0, none⟩), .int .i64 p] (grow (redrawn wb d) os) fun e w'' => e = .returned (.int .i64 0) ∧ ∃ q : Regrown, w'' = grow (redrawn wb q.d) q.os) :=
    fun d os => Calls.regrown_of ((rframes_emp (Row.kept HRa.out (below_regrown _ d os) (Row.lt HRa.out))).mono fun _ _ ⟨h1, h2⟩ => ⟨h1, by rw [h2]; exact Below.refl _ _⟩)
  have K3 : Hid (∀ d os, Calls Try.prog 13 #[.pointer v, .int .i64 p] (grow (redrawn wb d) os) fun e w'' => e = .returned (.agg #[.int .i64 0, .int .i64 0]) ∧ ∃ q : Regrown, w'' = grow (redrawn wb q.d) q.os) :=
    fun d os => Calls.regrown_of (window_no (HVa.out.kept (below_regrown _ d os)))
  have c0 := cell_regrown (HXa.out.cell 0 _ rfl)
  have c1 := cell_regrown (HXa.out.cell 1 _ rfl)
  refine wp_region_quiet_below (by kernel_rfl) (by decide +kernel) ?_
  repeat (quiet_step (first | (go_at_call 17; exact K1.out _ _) | (go_at_call 30; exact K2.out _ _) | (go_at_call 13; exact K3.out _ _)))
  refine wpQuiet_nil ?_
  intro _ hw'
  obtain ⟨⟨dq, osq⟩, hw''⟩ := hw'
  subst hw''
  go_wp2_with fail
  go_ret
  exact ⟨rfl, HBa.out.trans ((below_regrown wb dq osq).mono HBa.out.size)⟩
end Go.Proofs.Ytkcoabjeaoigdaa
