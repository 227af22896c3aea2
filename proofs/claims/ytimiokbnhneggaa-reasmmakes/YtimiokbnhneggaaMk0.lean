import Derived.Test.YtimiokbnhneggaaState
namespace Go.Proofs.Ytimiokbnhneggaa
open Go.RowKit Go.Maps Go.Sort
set_option maxRecDepth 100000

/-- Why New answers no buffer; 0, if it does. -/
def newE (base cap gaps : Int) : Int := if cap < 1 ∨ 1073741824 < cap then 80 else if 4611686018427387904 < base then 81 else if gaps < 1 ∨ 64 < gaps then 86 else 0
theorem newE_ok {base cap gaps : Int} (h : newE base cap gaps = 0) : 1 ≤ cap ∧ cap ≤ 1073741824 ∧ base ≤ 4611686018427387904 ∧ 1 ≤ gaps ∧ gaps ≤ 64 := by
  unfold newE at h
  split at h
  · cases h
  · split at h
    · cases h
    · split at h
      · cases h
      · omega
set_option maxHeartbeats 2000000 in
theorem bnew_no (w : World) (base cap gaps : Int) (h : newE base cap gaps ≠ 0) : Calls Try.prog 9 #[.int .u64 base, .int .i64 cap, .int .i64 gaps] w fun e w' => e = .returned (.tuple #[.pointer none, .int .i64 (newE base cap gaps)]) ∧ w' = w := by
  unfold newE at *
  by_cases h1 : cap < 1
  · rw [if_pos (.inl h1)]
    clear h
    go_enter Try.func9, Try.ntmps9
    go_wp2
    go_ret2
    exact ⟨rfl, rfl⟩
  by_cases h2 : 1073741824 < cap
  · rw [if_pos (.inr h2)]
    clear h
    go_enter Try.func9, Try.ntmps9
    go_wp2
    go_ret2
    exact ⟨rfl, rfl⟩
  rw [if_neg (by omega)] at h ⊢
  by_cases h3 : 4611686018427387904 < base
  · rw [if_pos h3]
    clear h
    go_enter Try.func9, Try.ntmps9
    go_wp2
    go_ret2
    exact ⟨rfl, rfl⟩
  rw [if_neg h3] at h ⊢
  by_cases h4 : gaps < 1
  · rw [if_pos (.inl h4)]
    clear h
    go_enter Try.func9, Try.ntmps9
    go_wp2
    go_ret2
    exact ⟨rfl, rfl⟩
  by_cases h5 : 64 < gaps
  · rw [if_pos (.inr h5)]
    clear h
    go_enter Try.func9, Try.ntmps9
    go_wp2
    go_ret2
    exact ⟨rfl, rfl⟩
  · rw [if_neg (by omega)] at h
    exact absurd rfl h
set_option maxHeartbeats 2000000 in
theorem rnew_no (w : World) (base cap gaps : Int) (h : newE base cap gaps ≠ 0) : Calls Try.prog 14 #[.int .u64 base, .int .i64 cap, .int .i64 gaps] w fun e w' => e = .returned (.tuple #[.pointer none, .int .i64 (newE base cap gaps)]) ∧ w' = w := by
  unfold newE at *
  by_cases h1 : cap < 1
  · rw [if_pos (.inl h1)]
    clear h
    go_enter Try.func14, Try.ntmps14
    go_wp2
    go_ret2
    exact ⟨rfl, rfl⟩
  by_cases h2 : 1073741824 < cap
  · rw [if_pos (.inr h2)]
    clear h
    go_enter Try.func14, Try.ntmps14
    go_wp2
    go_ret2
    exact ⟨rfl, rfl⟩
  rw [if_neg (by omega)] at h ⊢
  by_cases h3 : 4611686018427387904 < base
  · rw [if_pos h3]
    clear h
    go_enter Try.func14, Try.ntmps14
    go_wp2
    go_ret2
    exact ⟨rfl, rfl⟩
  rw [if_neg h3] at h ⊢
  by_cases h4 : gaps < 1
  · rw [if_pos (.inl h4)]
    clear h
    go_enter Try.func14, Try.ntmps14
    go_wp2
    go_ret2
    exact ⟨rfl, rfl⟩
  by_cases h5 : 64 < gaps
  · rw [if_pos (.inr h5)]
    clear h
    go_enter Try.func14, Try.ntmps14
    go_wp2
    go_ret2
    exact ⟨rfl, rfl⟩
  · rw [if_neg (by omega)] at h
    exact absurd rfl h
/-- The document's buffer with nothing in it. -/
def RefZ (w : World) (q : Nat) (base cap gaps : Int) : Prop := Row w q [.int .u64 base, .int .i64 cap, .int .i64 gaps, .int .u64 base, .slice none 0 0, .int .u64 0, .bool false] 80
theorem RefZ.kept {w w' : World} {q : Nat} {base cap gaps : Int} (h : RefZ w q base cap gaps) (hb : Below w.heap.size w w') : RefZ w' q base cap gaps := Row.kept h hb h.lt
theorem build80 (w : World) (x y z : Int) : (Instr.build 80 #[(0, .int .u64 x), (1, .int .i64 y), (2, .int .i64 z), (3, .int .u64 x)]).run Try.prog w = .ok (.agg #[.int .u64 x, .int .i64 y, .int .i64 z, .int .u64 x, .slice none 0 0, .int .u64 0, .bool false]) w := by kernel_rfl
set_option maxHeartbeats 2000000 in
theorem rnew_ok (w : World) (base cap gaps : Int) (h : newE base cap gaps = 0) : Calls Try.prog 14 #[.int .u64 base, .int .i64 cap, .int .i64 gaps] w fun e w' => ∃ q, e = .returned (.tuple #[.pointer (some ⟨q, 0, none⟩), .int .i64 0]) ∧ RefZ w' q base cap gaps ∧ Below w.heap.size w w' := by
  obtain ⟨a1, a2, a3, a4, a5⟩ := newE_ok h
  have k1 : ¬ cap < 1 := by omega
  have k2 : ¬ 1073741824 < cap := by omega
  have k3 : ¬ 4611686018427387904 < base := by omega
  have k4 : ¬ gaps < 1 := by omega
  have k5 : ¬ 64 < gaps := by omega
  have hbd := build80
  clear h a1 a2 a3 a4 a5
  go_enter Try.func14, Try.ntmps14
  go_wp2
  go_ret2
  exact ⟨w.heap.size, rfl, Row.new' _ _ _ _ _ rfl rfl, (Below.refl _ _).alloc (Nat.le_refl _) _⟩
set_option maxHeartbeats 2000000 in
theorem rranges_z {w : World} {q : Nat} {base cap gaps : Int} (h : RefZ w q base cap gaps) : Calls Try.prog 33 #[.pointer (some ⟨q, 0, none⟩)] w fun e w' => e = .returned (.slice none 0 0) ∧ w' = w := by
  have c4 := Row.cell h 4 _ rfl
  clear h
  go_enter Try.func33, Try.ntmps33
  go_wp2
  refine wp_loop_rounds 1 ?_
  rw [rounds_succ]
  go_wp2
  go_ret
  exact ⟨rfl, rfl⟩
set_option maxHeartbeats 2000000 in
theorem redge_z {w : World} {q : Nat} {base cap gaps : Int} (h : RefZ w q base cap gaps) (h0 : 0 ≤ base) (h1 : base ≤ 4611686018427387904) (k0 : 1 ≤ cap) (k1 : cap ≤ 1073741824) : Calls Try.prog 36 #[.pointer (some ⟨q, 0, none⟩)] w fun e w' => e = .returned (.int .u64 (base + cap)) ∧ ∃ q, w' = w.drewN q := by
  have c1 := Row.cell h 1 _ rfl
  have c3 := Row.cell h 3 _ rfl
  clear h
  go_enter Try.func36, Try.ntmps36
  go_wp2
  go_quiet (fail)
  go_wp2
  go_ret
  exact ⟨rfl, nq, rfl⟩
set_option maxHeartbeats 1000000 in
theorem rgap_z {w : World} {q : Nat} {base cap gaps : Int} (h : RefZ w q base cap gaps) : Calls Try.prog 34 #[.pointer (some ⟨q, 0, none⟩)] w fun e w' => e = .returned (.int .u64 base) ∧ ∃ q, w' = w.drewN q := by
  obtain ⟨n, hn⟩ : ∃ n : Nat, n = 0 := ⟨_, rfl⟩
  have c4 : ∀ k, (w.drewN k).cell? ⟨q, 4, none⟩ = some (.slice none n 0) := fun k => by rw [hn]; exact cell_drewN (Row.cell h 4 _ rfl)
  have c3 := Row.cell h 3 _ rfl
  have HN : Hid (¬ 0 < n) := by show ¬ _; omega
  clear h hn
  go_enter Try.func34, Try.ntmps34
  go_upto_region 1 with (fail)
  refine wp_region_quiet_lit (by kernel_rfl) (by kernel_rfl) ?_
  iterate 7 (quiet_step (fail))
  iterate 12 (refine wpQuiet_step (fun K hK => ?_); go_simp; rw [if_neg HN.out]; refine hK _ ?_; clear hK K)
  refine wpQuiet_step (fun K hK => ?_)
  go_simp
  rw [if_neg HN.out]
  refine hK _ ?_
  clear hK K
  refine wpQuiet_nil ?_
  intro w1 hw'
  obtain ⟨nq, rfl⟩ := hw'
  have d3 := cell_drewN (m := nq) c3
  go_wp2_with fail
  go_ret
  exact ⟨rfl, nq, rfl⟩
set_option maxHeartbeats 1000000 in
theorem rended_z {w : World} {q : Nat} {base cap gaps : Int} (h : RefZ w q base cap gaps) : Calls Try.prog 53 #[.pointer (some ⟨q, 0, none⟩)] w fun e w' => e = .returned (.bool false) ∧ ∃ q, w' = w.drewN q := by
  obtain ⟨E, hE⟩ : ∃ E : Bool, E = false := ⟨_, rfl⟩
  have c6 : ∀ k, (w.drewN k).cell? ⟨q, 6, none⟩ = some (.bool E) := fun k => by rw [hE]; exact cell_drewN (Row.cell h 6 _ rfl)
  have HN : Hid (¬ E = true) := by show ¬ _; rw [hE]; simp
  clear h hE
  go_enter Try.func53, Try.ntmps53
  go_upto_region 1 with (fail)
  refine wp_region_quiet_lit (by kernel_rfl) (by kernel_rfl) ?_
  iterate 5 (quiet_step (fail))
  iterate 7 (refine wpQuiet_step (fun K hK => ?_); go_simp; rw [if_neg HN.out]; refine hK _ ?_; clear hK K)
  refine wpQuiet_step (fun K hK => ?_)
  go_simp
  rw [if_neg HN.out]
  refine hK _ ?_
  clear hK K
  quiet_step (fail)
  refine wpQuiet_nil ?_
  intro w1 hw'
  obtain ⟨nq, rfl⟩ := hw'
  go_wp2_with fail
  go_ret
  exact ⟨rfl, nq, rfl⟩
set_option maxHeartbeats 1000000 in
theorem rnext_z {w : World} {q : Nat} {base cap gaps : Int} (h : RefZ w q base cap gaps) : Calls Try.prog 35 #[.pointer (some ⟨q, 0, none⟩)] w fun e w' => e = .returned (.int .u64 base) ∧ ∃ q, w' = w.drewN q := by
  have HE := hid (rended_z h)
  have HG : Hid (∀ k, Calls Try.prog 34 #[.pointer (some ⟨q, 0, none⟩)] (w.drewN k) fun e w' => e = .returned (.int .u64 base) ∧ ∃ q, w' = (w.drewN k).drewN q) := fun k => rgap_z (w := w.drewN k) (q := q) (base := base) (cap := cap) (gaps := gaps) ⟨h.at_⟩
  clear h
  go_enter Try.func35, Try.ntmps35
  go_wp2_with (first | (go_at_call 53; refine HE.out.mono ?_; rintro e w1 ⟨rfl, k1, rfl⟩) | (go_at_call 34; refine (HG.out _).mono ?_; rintro e w2 ⟨rfl, k2, rfl⟩))
  go_ret
  exact ⟨rfl, k1 + k2, rfl⟩
/-- state, of two buffers with nothing in them. -/
theorem zero_facts (base cap gaps : Int) : (Bf.zero base cap gaps).gap = base ∧ (Bf.zero base cap gaps).next = base ∧ (Bf.zero base cap gaps).edge = base + cap := ⟨rfl, rfl, rfl⟩
set_option maxHeartbeats 2000000 in
theorem state_z {w : World} {p b q : Nat} {v : Value} {base cap gaps : Int} (h : BufR w p v b (Bf.zero base cap gaps)) (r : RefZ w q base cap gaps) : Calls Try.prog 15 #[.pointer (some ⟨p, 0, none⟩), .pointer (some ⟨q, 0, none⟩)] w fun e w' => e = .returned (.bool true) ∧ Below w.heap.size w w' := by
  have b0 := h.ok.b0
  have b1 := h.ok.b1
  have r0 := h.ok.r0
  have r1 := h.ok.r1
  simp only [Bf.zero] at b0 b1 r0 r1
  have HS := hid (state_any h)
  have H := hid h
  have R := hid r
  clear h r
  go_enter Try.func15, Try.ntmps15
  go_upto_region 2 with (go_at_call 16; refine HS.out.mono ?_; rintro e w1 ⟨s, rfl, ⟨g, rfl, hg, hgr⟩, hb1⟩; have HB1 := hid hb1; clear hg hgr hb1; unfold StV)
  refine wp_world fun w2 HW => ?_
  have HX : Hid (Row w2 w1.heap.size [.int .u64 base, .int .i64 cap, .int .i64 gaps, .int .u64 base, .int .u64 base, .slice (some ⟨g, 0, none⟩) 0 0, .int .u64 0, .bool false] 47) := by show Row _ _ _ _; rw [HW.out]; exact Row.new' _ _ _ _ _ rfl rfl
  have HB2 : Hid (Below w.heap.size w w2) := by show Below _ _ _; rw [HW.out]; exact HB1.out.alloc HB1.out.size _
  have HR2 := hid (R.out.kept HB2.out)
  have HP2 := hid (H.out.kept HB2.out)
  clear HW HB1 HS
  have hrr := rranges_z HR2.out
  have k5 := Row.cell HR2.out 5 _ rfl
  have k6 := Row.cell HR2.out 6 _ rfl
  go_upto_region 6 with (go_at_call 33; refine hrr.mono ?_; rintro e w3 ⟨rfl, rfl⟩)
  have HB3 : Hid (∀ W, Below w3.heap.size w3 W → Below w.heap.size w W) := fun W hb => HB2.out.trans (hb.mono HB2.out.size)
  have HNX : Hid (∀ W, Below w3.heap.size w3 W → Calls Try.prog 19 #[.pointer (some ⟨p, 0, none⟩)] W fun e w' => e = .returned (.int .u64 base) ∧ Below W.heap.size W w') := fun W hb => next_any (HP2.out.kept hb)
  have HRN : Hid (∀ W, Below w3.heap.size w3 W → Calls Try.prog 35 #[.pointer (some ⟨q, 0, none⟩)] W fun e w' => e = .returned (.int .u64 base) ∧ Below W.heap.size W w') := fun W hb => (rnext_z (HR2.out.kept hb)).mono fun e w' ⟨h1, k, h2⟩ => ⟨h1, by rw [h2]; exact below_drewN (Below.refl _ _) k⟩
  have HED : Hid (∀ W, Below w3.heap.size w3 W → Calls Try.prog 17 #[.pointer (some ⟨p, 0, none⟩)] W fun e w' => e = .returned (.int .u64 (base + cap)) ∧ Below W.heap.size W w') := fun W hb => (edge_any (HP2.out.kept hb)).mono fun e w' ⟨h1, k, h2⟩ => ⟨h1, by rw [h2]; exact below_drewN (Below.refl _ _) k⟩
  have HRE : Hid (∀ W, Below w3.heap.size w3 W → Calls Try.prog 36 #[.pointer (some ⟨q, 0, none⟩)] W fun e w' => e = .returned (.int .u64 (base + cap)) ∧ Below W.heap.size W w') := fun W hb => (redge_z (HR2.out.kept hb) b0 b1 r0 r1).mono fun e w' ⟨h1, k, h2⟩ => ⟨h1, by rw [h2]; exact below_drewN (Below.refl _ _) k⟩
  have K1 : Hid (∀ d os, Calls Try.prog 34 #[.pointer (some ⟨q, 0, none⟩)] (grow (redrawn w3 d) os) fun e w'' => e = .returned (.int .u64 base) ∧ ∃ q : Regrown, w'' = grow (redrawn w3 q.d) q.os) := fun d os => Calls.regrown_of ((rgap_z (HR2.out.kept (below_regrown _ d os))).mono fun e w' ⟨h1, k, h2⟩ => ⟨h1, by rw [h2]; exact below_drewN (Below.refl _ _) k⟩)
  have s0 := cell_regrown (HX.out.cell 0 _ rfl)
  have s1 := cell_regrown (HX.out.cell 1 _ rfl)
  have s2 := cell_regrown (HX.out.cell 2 _ rfl)
  have s3 := cell_regrown (HX.out.cell 3 _ rfl)
  have s4 := cell_regrown (HX.out.cell 4 _ rfl)
  have s5 := cell_regrown (HX.out.cell 5 _ rfl)
  have s6 := cell_regrown (HX.out.cell 6 _ rfl)
  have s7 := cell_regrown (HX.out.cell 7 _ rfl)
  have t0 := cell_regrown (Row.cell HR2.out 0 _ rfl)
  have t1 := cell_regrown (Row.cell HR2.out 1 _ rfl)
  have t2 := cell_regrown (Row.cell HR2.out 2 _ rfl)
  have t3 := cell_regrown (Row.cell HR2.out 3 _ rfl)
  have t6 := cell_regrown (Row.cell HR2.out 6 _ rfl)
  clear hrr k5 k6 HP2 HR2 HX H R HB2
  refine wp_region_quiet_below (by kernel_rfl) (by decide +kernel) ?_
  iterate 64 (quiet_step (first | (go_at_call 34; exact K1.out _ _)))
  refine wpQuiet_nil ?_
  intro w4 hw'
  have hb4 : Below w3.heap.size w3 w4 := by obtain ⟨⟨dq, osq⟩, rfl⟩ := hw'; exact below_regrown w3 dq osq
  have HB4 := hid hb4
  clear hw' hb4 K1 s0 s1 s2 s3 s4 s5 s6 s7 t0 t1 t2 t3 t6
  go_wp2_with fail
  refine wp_loop_rounds 1 ?_
  rw [rounds_succ]
  go_wp2_with (first | (go_at_call 19; refine (HNX.out _ HB4.out).mono ?_; rintro e w5 ⟨rfl, hb5⟩; have HB5 := hid (HB4.out.trans (hb5.mono HB4.out.size)); clear hb5) | (go_at_call 35; refine (HRN.out _ HB5.out).mono ?_; rintro e w6 ⟨rfl, hb6⟩; have HB6 := hid (HB5.out.trans (hb6.mono HB5.out.size)); clear hb6) | (go_at_call 17; refine (HED.out _ HB6.out).mono ?_; rintro e w7 ⟨rfl, hb7⟩; have HB7 := hid (HB6.out.trans (hb7.mono HB6.out.size)); clear hb7) | (go_at_call 36; refine (HRE.out _ HB7.out).mono ?_; rintro e w8 ⟨rfl, hb8⟩; have HB8 := hid (HB7.out.trans (hb8.mono HB7.out.size)); clear hb8))
  go_ret
  exact ⟨rfl, HB3.out _ HB8.out⟩
set_option maxHeartbeats 2000000 in
theorem makes_any {w : World} (base cap gaps : Int) (hb0 : 0 ≤ base) : Calls Try.prog 4 #[.int .u64 base, .int .i64 cap, .int .i64 gaps] w fun e w' => e = .returned (.bool true) ∧ Below w.heap.size w w' := by
  by_cases h : newE base cap gaps = 0
  · obtain ⟨a1, a2, a3, a4, a5⟩ := newE_ok h
    have hN := bnew_ok w hb0 a3 a1 a2 a4 a5 (fun _ => 0#8)
    have HR := hid (fun W => rnew_ok W base cap gaps h)
    clear h
    go_enter Try.func4, Try.ntmps4
    go_upto_region 5 with (first | (go_at_call 9; refine hN.mono ?_; rintro e w1 ⟨p, b, rfl, hB, hb1, hf⟩; have HB1 := hid (And.intro hB.r hb1); clear hB hb1 hf hN) | (go_at_call 14; refine (HR.out _).mono ?_; rintro e w2 ⟨q, rfl, hq, hb2⟩; have HB2 := hid (And.intro hq hb2); clear hq hb2))
    have HST := hid (state_z (HB1.out.1.kept HB2.out.2) HB2.out.1)
    go_wp2_with (go_at_call 15; refine HST.out.mono ?_; rintro e w3 ⟨rfl, hb3⟩; have HB3 := hid hb3; clear hb3)
    go_ret
    have hb2 := HB1.out.2.trans (HB2.out.2.mono HB1.out.2.size)
    exact ⟨rfl, hb2.trans (HB3.out.mono hb2.size)⟩
  · have hN := bnew_no w base cap gaps h
    have hR := rnew_no w base cap gaps h
    generalize newE base cap gaps = ne at *
    go_enter Try.func4, Try.ntmps4
    go_wp2_with (first | (go_at_call 9; refine hN.mono ?_; rintro e w1 ⟨rfl, rfl⟩) | (go_at_call 14; refine hR.mono ?_; rintro e w2 ⟨rfl, rfl⟩))
    go_ret
    exact ⟨rfl, Below.refl _ _⟩
end Go.Proofs.Ytimiokbnhneggaa
