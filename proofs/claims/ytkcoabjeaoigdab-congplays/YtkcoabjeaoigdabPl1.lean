import Derived.Test.YtkcoabjeaoigdabPl0
namespace Go.Proofs.Ytkcoabjeaoigdab
open Go.RowKit Go.Sort
set_option maxRecDepth 100000

theorem RAt.ne_g {w : World} {g n m r q : Nat} {D E : Nat → Ln} (h : RAt w r q m E) (k : GAt w g n D) : r ≠ g ∧ q ≠ g := by
  obtain ⟨⟨cap, h0⟩, ⟨c, hr, hc⟩, _⟩ := h
  exact ⟨k.ne h0 (by decide), k.ne hr (by decide)⟩
theorem RAt.byg {w w' : World} {g n m r q : Nat} {D E : Nat → Ln} (h : RAt w r q m E) (k : GAt w g n D) (ho : Only [g] w w') : RAt w' r q m E := by
  obtain ⟨h1, h2⟩ := h.ne_g k
  exact h.other ho (by simpa using h1) (by simpa using h2)
theorem GAt.byq {w w' : World} {g n m r q : Nat} {D E : Nat → Ln} (k : GAt w g n D) (h : RAt w r q m E) (ho : Only [q] w w') : GAt w' g n D := k.other ho (by simpa using (h.ne_g k).2.symm)
set_option maxHeartbeats 1000000 in
theorem look_any {w : World} {g n r q : Nat} {D : Nat → Ln} (hg : GAt w g n D) (hr : RAt w r q n D) (p : Int) :
    Calls Try.prog 18 #[.pointer (some ⟨g, 0, none⟩), .pointer (some ⟨r, 0, none⟩), .int .i64 p] w fun e w' => e = .returned (.bool true) ∧ Below w.heap.size w w' := by
  have HB0 := hid (below_grow (Below.refl w.heap.size w) (.cells #[.int .i64 0, .int .i64 0] 39))
  have HG := hid hg
  have HR := hid hr
  have HFR : Hid (∀ w' : World, GAt w' g n D → Calls Try.prog 25 #[.pointer (some ⟨g, 0, none⟩), .int .i64 p] w' fun e w'' => e = .returned (.int .i64 ((winD D n p).1 / 1024)) ∧ Below w'.heap.size w' w'') := fun w' h => frames_any h p
  have HRF : Hid (∀ w' : World, RAt w' r q n D → Calls Try.prog 26 #[.pointer (some ⟨r, 0, none⟩), .int .i64 p] w' fun e w'' => e = .returned (.int .i64 ((winD D n p).1 / 1024)) ∧ w'' = w') := fun w' h => rframes_any h p
  have HWN : Hid (∀ w' : World, GAt w' g n D → Calls Try.prog 27 #[.pointer (some ⟨g, 0, none⟩), .int .i64 p] w' fun e w'' => e = .returned (.agg #[.int .i64 (winD D n p).1, .int .i64 (winD D n p).2]) ∧ Below w'.heap.size w' w'') := fun w' h => window_any h p
  clear hg hr
  by_cases hp : 0 ≤ p ∧ p < n
  · obtain ⟨k, rfl, hk, _⟩ := in_of hp
    rw [winD_in hk] at HFR HRF HWN
    simp only at HFR HRF HWN
    have l1 : (k : Int) < (n : Int) := by omega
    clear hp
    go_enter Try.func18, Try.ntmps18
    go_upto_region 2 with (fail)
    refine wp_world fun wa HW => ?_
    have HBa : Hid (Below w.heap.size w wa) := by show Below _ _ _; rw [HW.out]; exact HB0.out
    have HXa : Hid (Row wa w.heap.size [.int .i64 0, .int .i64 0] 39) := by show Row _ _ _ _; rw [HW.out]; exact Row.new _ _ _
    clear HW HB0
    obtain ⟨x, hx⟩ : ∃ x, x = w.heap.size := ⟨_, rfl⟩
    have HXX := hid hx
    rw [← hx] at HXa
    rw [← hx]
    clear hx
    have HGa := hid (HG.out.kept HBa.out)
    have HRa := hid (HR.out.kept HBa.out)
    clear HG HR
    have HHS := hid (has_in HRa.out hk)
    go_upto_region 3 with (go_at_call 20; refine HHS.out.mono ?_; clear HHS; rintro e wb ⟨rfl, rfl⟩)
    have HGb := hid (HGa.out.drawn (wb.drawn + 1))
    have HRb := hid (HRa.out.drawn (wb.drawn + 1))
    have HXb := hid (HXa.out.drawn (wb.drawn + 1))
    have HBb := hid (below_drawn HBa.out (wb.drawn + 1))
    clear HGa HRa HXa HBa
    refine wp_region_still_tail 17 (by kernel_rfl) (by decide +kernel) ?_
    generalize ({ wb with drawn := wb.drawn + 1 } : World) = wq at *
    obtain ⟨cap, c0⟩ := HRb.out.cell_hd
    have a0 := HRb.out.cell_c hk
    have a1 := HRb.out.cell_t hk
    have x0 := HXb.out.cell 0 _ rfl
    have x1 := HXb.out.cell 1 _ rfl
    have f0 := HXb.out.frozen 0
    have f1 := HXb.out.frozen 1
    generalize (D k).c = c at *
    generalize (D k).t = t at *
    simp only [List.take_succ_cons, List.take_zero, List.drop_succ_cons, List.drop_zero]
    iterate 17 still_step
    refine wpStill_nil ?_
    go_upto_region 4 with (fail)
    refine wp_world fun wc HW => ?_
    have HOc : Hid (Only [x] wq wc) := by show Only _ _ _; rw [HW.out]; exact ((Only.refl _ _).setCell _ _ _ (.inl (by simp))).setCell _ _ _ (.inl (by simp))
    have HXc : Hid (Row wc x [.int .i64 c, .int .i64 t] 39) := by show Row _ _ _ _; rw [HW.out]; exact (HXb.out.set 0 _).set 1 _
    have HGc : Hid (GAt wc g n D) := HGb.out.other HOc.out (by simpa using (HGb.out.ne HXb.out (by decide)).symm)
    have HRc : Hid (RAt wc r q n D) := by
      obtain ⟨⟨cp, h0⟩, ⟨cc, h1, _⟩, _⟩ := HRb.out
      exact HRb.out.other HOc.out (by simpa using h0.ne HXb.out (by decide)) (by simpa using h1.ne HXb.out (by decide))
    have HBc : Hid (Below w.heap.size w wc) := HBb.out.trans (HOc.out.below HBb.out.size (fun y hy => by rw [List.mem_singleton.1 hy, HXX.out]; exact Nat.le_refl _))
    clear HW HOc HGb HRb HXb HBb c0 a0 a1 x0 x1 f0 f1
    have K1 : Hid (∀ d os, Calls Try.prog 25 #[.pointer (some ⟨g, 0, none⟩), .int .i64 k] (grow (redrawn wc d) os) fun e w'' => e = .returned (.int .i64 (c / 1024)) ∧ ∃ q : Regrown, w'' = grow (redrawn wc q.d) q.os) :=
      fun d os => Calls.regrown_of (HFR.out _ (HGc.out.kept (below_regrown _ d os)))
    have K2 : Hid (∀ d os, Calls Try.prog 26 #[.pointer (some ⟨r, 0, none⟩), .int .i64 k] (grow (redrawn wc d) os) fun e w'' => e = .returned (.int .i64 (c / 1024)) ∧ ∃ q : Regrown, w'' = grow (redrawn wc q.d) q.os) :=
      fun d os => Calls.regrown_of ((HRF.out _ (HRc.out.kept (below_regrown _ d os))).mono fun _ _ ⟨h1, h2⟩ => ⟨h1, by rw [h2]; exact Below.refl _ _⟩)
    have K3 : Hid (∀ d os, Calls Try.prog 27 #[.pointer (some ⟨g, 0, none⟩), .int .i64 k] (grow (redrawn wc d) os) fun e w'' => e = .returned (.agg #[.int .i64 c, .int .i64 t]) ∧ ∃ q : Regrown, w'' = grow (redrawn wc q.d) q.os) :=
      fun d os => Calls.regrown_of (HWN.out _ (HGc.out.kept (below_regrown _ d os)))
    have v0 := cell_regrown (HXc.out.cell 0 _ rfl)
    have v1 := cell_regrown (HXc.out.cell 1 _ rfl)
    generalize c / 1024 = cf at *
    refine wp_region_quiet_below (by kernel_rfl) (by decide +kernel) ?_
    repeat (quiet_step (first | (go_at_call 25; exact K1.out _ _) | (go_at_call 26; exact K2.out _ _) | (go_at_call 27; exact K3.out _ _)))
    refine wpQuiet_nil ?_
    intro _ hw'
    obtain ⟨⟨dq, osq⟩, hw''⟩ := hw'
    subst hw''
    go_wp2_with fail
    go_ret
    exact ⟨rfl, HBc.out.trans ((below_regrown wc dq osq).mono HBc.out.size)⟩
  · have e0 : winD D n p = (0, 0) := by unfold winD; rw [if_neg hp]
    rw [e0] at HFR HRF HWN
    simp only at HFR HRF HWN
    have HOP := hid (out_of hp)
    clear hp e0
    go_enter Try.func18, Try.ntmps18
    go_upto_region 2 with (fail)
    refine wp_world fun wa HW => ?_
    have HBc : Hid (Below w.heap.size w wa) := by show Below _ _ _; rw [HW.out]; exact HB0.out
    have HXc : Hid (Row wa w.heap.size [.int .i64 0, .int .i64 0] 39) := by show Row _ _ _ _; rw [HW.out]; exact Row.new _ _ _
    clear HW HB0
    obtain ⟨x, hx⟩ : ∃ x, x = w.heap.size := ⟨_, rfl⟩
    rw [← hx] at HXc
    rw [← hx]
    clear hx
    have HGc := hid (HG.out.kept HBc.out)
    have HRc := hid (HR.out.kept HBc.out)
    clear HG HR
    have HHS := hid (has_out HRc.out HOP.out)
    go_upto_region 4 with (go_at_call 20; refine HHS.out.mono ?_; clear HHS; rintro e wc ⟨rfl, rfl⟩)
    have K1 : Hid (∀ d os, Calls Try.prog 25 #[.pointer (some ⟨g, 0, none⟩), .int .i64 p] (grow (redrawn wc d) os) fun e w'' => e = .returned (.int .i64 0) ∧ ∃ q : Regrown, w'' = grow (redrawn wc q.d) q.os) :=
      fun d os => Calls.regrown_of (HFR.out _ (HGc.out.kept (below_regrown _ d os)))
    have K2 : Hid (∀ d os, Calls Try.prog 26 #[.pointer (some ⟨r, 0, none⟩), .int .i64 p] (grow (redrawn wc d) os) fun e w'' => e = .returned (.int .i64 0) ∧ ∃ q : Regrown, w'' = grow (redrawn wc q.d) q.os) :=
      fun d os => Calls.regrown_of ((HRF.out _ (HRc.out.kept (below_regrown _ d os))).mono fun _ _ ⟨h1, h2⟩ => ⟨h1, by rw [h2]; exact Below.refl _ _⟩)
    have K3 : Hid (∀ d os, Calls Try.prog 27 #[.pointer (some ⟨g, 0, none⟩), .int .i64 p] (grow (redrawn wc d) os) fun e w'' => e = .returned (.agg #[.int .i64 0, .int .i64 0]) ∧ ∃ q : Regrown, w'' = grow (redrawn wc q.d) q.os) :=
      fun d os => Calls.regrown_of (HWN.out _ (HGc.out.kept (below_regrown _ d os)))
    have v0 := cell_regrown (HXc.out.cell 0 _ rfl)
    have v1 := cell_regrown (HXc.out.cell 1 _ rfl)
    refine wp_region_quiet_below (by kernel_rfl) (by decide +kernel) ?_
    repeat (quiet_step (first | (go_at_call 25; exact K1.out _ _) | (go_at_call 26; exact K2.out _ _) | (go_at_call 27; exact K3.out _ _)))
    refine wpQuiet_nil ?_
    intro _ hw'
    obtain ⟨⟨dq, osq⟩, hw''⟩ := hw'
    subst hw''
    go_wp2_with fail
    go_ret
    exact ⟨rfl, HBc.out.trans ((below_regrown wc dq osq).mono HBc.out.size)⟩
/-- One call of a script. -/
structure OpV where
  kind : Int
  sec : Bool
  path : Int
  n : Int
  on : Bool
  ms : Int
def OpV.cells (o : OpV) : List Value := [.int .i64 o.kind, .bool o.sec, .int .i64 o.path, .int .i64 o.n, .bool o.on, .int .u64 o.ms]
structure OpV.Ok (o : OpV) : Prop where
  n1 : o.n ≤ 9223372036854775807
  m0 : 0 ≤ o.ms
def actD (D : Nat → Ln) (n : Nat) (o : OpV) : Nat → Ln :=
  if o.kind = 1 then takeD D n o.path o.on else if o.kind = 2 then rttD D n o.path o.ms else if o.kind = 3 then ackedD D n o.path o.n else if o.kind = 4 then loseD D n o.path false else if o.kind = 5 then loseD D n o.path true else D
set_option maxHeartbeats 1000000 in
theorem do_any {w : World} {g n r q : Nat} {D : Nat → Ln} (hg : GAt w g n D) (hr : RAt w r q n D) {o : OpV} (ok : o.Ok) :
    Calls Try.prog 6 #[.pointer (some ⟨g, 0, none⟩), .pointer (some ⟨r, 0, none⟩), .agg #[.int .i64 o.kind, .bool o.sec, .int .i64 o.path, .int .i64 o.n, .bool o.on, .int .u64 o.ms]] w fun e w' => e = .returned (.bool true) ∧ GAt w' g n (actD D n o) ∧ RAt w' r q n (actD D n o) ∧ Only [g, q] w w' := by
  obtain ⟨kd, sec, p, F, on, ms⟩ := o
  obtain ⟨hF, hms⟩ := ok
  simp only at hF hms
  simp only
  have HB : Hid (Below w.heap.size w (w.alloc (.cells #[.int .i64 kd, .bool sec, .int .i64 p, .int .i64 F, .bool on, .int .u64 ms] 29))) := below_grow (Below.refl _ _) _
  have HX := hid (Row.new w [.int .i64 kd, .bool sec, .int .i64 p, .int .i64 F, .bool on, .int .u64 ms] 29)
  have HG := hid (hg.kept HB.out)
  have HR := hid (hr.kept HB.out)
  have x0 := HX.out.cell 0 _ rfl
  have x2 := HX.out.cell 2 _ rfl
  have x3 := HX.out.cell 3 _ rfl
  have x4 := HX.out.cell 4 _ rfl
  have x5 := HX.out.cell 5 _ rfl
  have HW : Hid (∀ w1 w2 : World, Only [g] (w.alloc (.cells #[.int .i64 kd, .bool sec, .int .i64 p, .int .i64 F, .bool on, .int .u64 ms] 29)) w1 → Only [q] w1 w2 → Only [g, q] w w2) := fun w1 w2 h1 h2 =>
    ((Only.of_below (S := [g, q]) HB.out (Nat.le_refl _)).trans (h1.wider (T := [g, q]) (by simp)) (fun x hx => .inl hx)).trans (h2.wider (T := [g, q]) (by simp)) (fun x hx => .inl hx)
  have HFF := hid hF
  have HMS := hid hms
  clear hg hr hF hms
  by_cases k1 : kd = 1
  · subst k1
    have H1 := hid (take_any HG.out p on)
    go_enter Try.func6, Try.ntmps6
    go_wp2_with (first
      | (go_at_call 8; refine H1.out.mono ?_; clear H1 x0 x2 x3 x4 x5; rintro e w1 ⟨rfl, h1, h2⟩; have HR1 := hid (HR.out.byg HG.out h2); have HX1 := hid (h2.row HX.out (by simpa using HG.out.ne HX.out (by decide))); have HG1 := hid h1; have HO1 := hid h2; have H2 := hid (rtake_any HR1.out p on); have x2 := HX1.out.cell 2 _ rfl; have x3 := HX1.out.cell 3 _ rfl; have x4 := HX1.out.cell 4 _ rfl; have x5 := HX1.out.cell 5 _ rfl; clear h1 h2)
      | (go_at_call 9; refine H2.out.mono ?_; clear H2 x2 x3 x4 x5; rintro e w2 ⟨rfl, h1, h2⟩; have HR2 := hid h1; have HG2 := hid (HG1.out.byq HR1.out h2); have HO2 := hid (HW.out _ _ HO1.out h2); clear h1 h2))
    go_ret
    exact ⟨rfl, HG2.out, HR2.out, HO2.out⟩
  · have z1 : (kd == 1) = false := by simp [k1]
    by_cases k2 : kd = 2
    · subst k2
      have H1 := hid (rtt_any HG.out p ms)
      go_enter Try.func6, Try.ntmps6
      go_wp2_with (first
        | (go_at_call 10; refine H1.out.mono ?_; clear H1 x0 x2 x3 x4 x5; rintro e w1 ⟨rfl, h1, h2⟩; have HR1 := hid (HR.out.byg HG.out h2); have HX1 := hid (h2.row HX.out (by simpa using HG.out.ne HX.out (by decide))); have HG1 := hid h1; have HO1 := hid h2; have H2 := hid (rrtt_any HR1.out p HMS.out); have x2 := HX1.out.cell 2 _ rfl; have x3 := HX1.out.cell 3 _ rfl; have x4 := HX1.out.cell 4 _ rfl; have x5 := HX1.out.cell 5 _ rfl; clear h1 h2)
        | (go_at_call 11; refine H2.out.mono ?_; clear H2 x2 x3 x4 x5; rintro e w2 ⟨rfl, h1, h2⟩; have HR2 := hid h1; have HG2 := hid (HG1.out.byq HR1.out h2); have HO2 := hid (HW.out _ _ HO1.out h2); clear h1 h2))
      go_ret
      exact ⟨rfl, HG2.out, HR2.out, HO2.out⟩
    · have z2 : (kd == 2) = false := by simp [k2]
      by_cases k3 : kd = 3
      · subst k3
        have H1 := hid (acked_any HG.out p HFF.out)
        go_enter Try.func6, Try.ntmps6
        go_wp2_with (first
          | (go_at_call 12; refine H1.out.mono ?_; clear H1 x0 x2 x3 x4 x5; rintro e w1 ⟨rfl, h1, h2⟩; have HR1 := hid (HR.out.byg HG.out h2); have HX1 := hid (h2.row HX.out (by simpa using HG.out.ne HX.out (by decide))); have HG1 := hid h1; have HO1 := hid h2; have H2 := hid (racked_any HR1.out p HFF.out); have x2 := HX1.out.cell 2 _ rfl; have x3 := HX1.out.cell 3 _ rfl; have x4 := HX1.out.cell 4 _ rfl; have x5 := HX1.out.cell 5 _ rfl; clear h1 h2)
          | (go_at_call 13; refine H2.out.mono ?_; clear H2 x2 x3 x4 x5; rintro e w2 ⟨rfl, h1, h2⟩; have HR2 := hid h1; have HG2 := hid (HG1.out.byq HR1.out h2); have HO2 := hid (HW.out _ _ HO1.out h2); clear h1 h2))
        go_ret
        exact ⟨rfl, HG2.out, HR2.out, HO2.out⟩
      · have z3 : (kd == 3) = false := by simp [k3]
        by_cases k4 : kd = 4
        · subst k4
          have H1 := hid (cut_any HG.out p)
          go_enter Try.func6, Try.ntmps6
          go_wp2_with (first
            | (go_at_call 14; refine H1.out.mono ?_; clear H1 x0 x2 x3 x4 x5; rintro e w1 ⟨rfl, h1, h2⟩; have HR1 := hid (HR.out.byg HG.out h2); have HX1 := hid (h2.row HX.out (by simpa using HG.out.ne HX.out (by decide))); have HG1 := hid h1; have HO1 := hid h2; have H2 := hid (rcut_any HR1.out p); have x2 := HX1.out.cell 2 _ rfl; have x3 := HX1.out.cell 3 _ rfl; have x4 := HX1.out.cell 4 _ rfl; have x5 := HX1.out.cell 5 _ rfl; clear h1 h2)
            | (go_at_call 15; refine H2.out.mono ?_; clear H2 x2 x3 x4 x5; rintro e w2 ⟨rfl, h1, h2⟩; have HR2 := hid h1; have HG2 := hid (HG1.out.byq HR1.out h2); have HO2 := hid (HW.out _ _ HO1.out h2); clear h1 h2))
          go_ret
          exact ⟨rfl, HG2.out, HR2.out, HO2.out⟩
        · have z4 : (kd == 4) = false := by simp [k4]
          by_cases k5 : kd = 5
          · subst k5
            have H1 := hid (timeout_any HG.out p)
            go_enter Try.func6, Try.ntmps6
            go_wp2_with (first
              | (go_at_call 16; refine H1.out.mono ?_; clear H1 x0 x2 x3 x4 x5; rintro e w1 ⟨rfl, h1, h2⟩; have HR1 := hid (HR.out.byg HG.out h2); have HX1 := hid (h2.row HX.out (by simpa using HG.out.ne HX.out (by decide))); have HG1 := hid h1; have HO1 := hid h2; have H2 := hid (rtimeout_any HR1.out p); have x2 := HX1.out.cell 2 _ rfl; have x3 := HX1.out.cell 3 _ rfl; have x4 := HX1.out.cell 4 _ rfl; have x5 := HX1.out.cell 5 _ rfl; clear h1 h2)
              | (go_at_call 17; refine H2.out.mono ?_; clear H2 x2 x3 x4 x5; rintro e w2 ⟨rfl, h1, h2⟩; have HR2 := hid h1; have HG2 := hid (HG1.out.byq HR1.out h2); have HO2 := hid (HW.out _ _ HO1.out h2); clear h1 h2))
            go_ret
            exact ⟨rfl, HG2.out, HR2.out, HO2.out⟩
          · have z5 : (kd == 5) = false := by simp [k5]
            have HE : Hid (actD D n ⟨kd, sec, p, F, on, ms⟩ = D) := by show _ = _; unfold actD; simp only; rw [if_neg k1, if_neg k2, if_neg k3, if_neg k4, if_neg k5]
            by_cases k6 : kd = 6
            · subst k6
              have H1 := hid (look_any HG.out HR.out p)
              go_enter Try.func6, Try.ntmps6
              go_wp2_with (go_at_call 18; refine H1.out.mono ?_; clear H1; rintro e w2 ⟨rfl, hb⟩; have HB2 := hid hb; clear hb)
              go_ret
              exact ⟨rfl, by rw [HE.out]; exact HG.out.kept HB2.out, by rw [HE.out]; exact HR.out.kept HB2.out, HW.out _ _ (Only.of_below HB2.out (Nat.le_refl _)) (Only.refl _ _)⟩
            · have z6 : (kd == 6) = false := by simp [k6]
              go_enter Try.func6, Try.ntmps6
              go_wp2
              go_ret
              exact ⟨rfl, by rw [HE.out]; exact HG.out, by rw [HE.out]; exact HR.out, HW.out _ _ (Only.refl _ _) (Only.refl _ _)⟩
set_option maxHeartbeats 1000000 in
theorem whole_any {w : World} {g n r q : Nat} {D : Nat → Ln} (hg : GAt w g n D) (hr : RAt w r q n D) :
    Calls Try.prog 7 #[.pointer (some ⟨g, 0, none⟩), .pointer (some ⟨r, 0, none⟩)] w fun e w' => e = .returned (.bool true) ∧ Below w.heap.size w w' := by
  have HG := hid hg
  have HR := hid hr
  have H8 := hid hr.le
  clear hg hr
  go_enter Try.func7, Try.ntmps7
  go_wp2
  go_loopw [5] (fun i wr => ∃ k : Int, -1 ≤ k ∧ k ≤ n + 1 ∧ i = .int .i64 k ∧ Below w.heap.size w wr) (fun i _ => (n + 1 - intOf i).toNat)
  case atStart => exact ⟨-1, by omega, by omega, rfl, Below.refl _ _⟩
  case round =>
    obtain ⟨k, hk0, hk1, rfl, hb⟩ := hrel
    have HB := hid hb
    clear hb
    have HGr := hid (HG.out.kept HB.out)
    have HRr := hid (HR.out.kept HB.out)
    obtain ⟨cap, c0⟩ := HRr.out.cell_hd
    by_cases hlt : k ≤ n
    · have d0 : decide (k ≤ (n : Int)) = true := decide_eq_true hlt
      have HK : Hid (-1 ≤ k ∧ k ≤ n) := ⟨hk0, hlt⟩
      have ew : wrap64 (k + 1) = k + 1 := by have := H8.out; unfold wrap64; omega
      have HL := hid (look_any HGr.out HRr.out k)
      clear hk0 hk1 hlt
      go_wp2_with (go_at_call 18; refine HL.out.mono ?_; clear HL; rintro e w2 ⟨rfl, hb⟩; have HB2 := hid (HB.out.trans (hb.mono HB.out.size)); clear hb)
      go_roundw
      case rel =>
        rw [ew]
        have := HK.out
        exact ⟨k + 1, by omega, by omega, rfl, HB2.out⟩
      case measure =>
        rw [ew]
        simp only [intOf]
        have := HK.out
        omega
    · have d0 : decide (k ≤ (n : Int)) = false := decide_eq_false hlt
      clear hk0 hk1 hlt
      go_wp2
      go_ret
      exact ⟨rfl, HB.out⟩
end Go.Proofs.Ytkcoabjeaoigdab
