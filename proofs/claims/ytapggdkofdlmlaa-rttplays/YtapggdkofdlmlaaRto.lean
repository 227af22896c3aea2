import Derived.Test.YtapggdkofdlmlaaSample
namespace Go.Proofs.Ytapggdkofdlmlaa
open Go.RowKit Go.Sort
set_option maxRecDepth 100000

theorem srtt_any {w : World} {g : Nat} {E : Es} (h : EstAt w g E) (ok : E.Ok) :
    Calls Try.prog 10 #[.pointer (some ⟨g, 0, none⟩)] w fun e w' => e = .returned (.tuple #[.int .u64 (E.t / 8), .bool E.s]) ∧ Below w.heap.size w w' := by
  obtain ⟨t, v, b, s⟩ := E
  have H := hid h
  have c0 := cell_regrown (Row.cell h 0 _ rfl)
  have ed : t.tdiv 8 = t / 8 := Int.tdiv_eq_ediv_of_nonneg ok.t0
  have e1 : IntKind.u64.wrap (t / 8) = t / 8 := by rw [IntKind.wrap_u64]; have := ok.t0; have := ok.t1; simp only at *; omega
  have HK : Hid (∀ d os, Calls Try.prog 21 #[.pointer (some ⟨g, 0, none⟩)] (grow (redrawn w d) os) fun e w'' => e = .returned (.bool s) ∧ ∃ q : Regrown, w'' = grow (redrawn w q.d) q.os) :=
    fun d os => Calls.regrown_of (known_any (EstAt.kept h (below_regrown _ d os)) ok)
  clear h ok
  go_enter Try.func10, Try.ntmps10
  go_upto_region 1 with (fail)
  refine wp_region_quiet_below (by kernel_rfl) (by kernel_rfl) ?_
  repeat (quiet_step (first | (go_at_call 21; exact HK.out _ _)))
  refine wpQuiet_nil ?_
  intro _ hw'
  obtain ⟨⟨dq, osq⟩, hw''⟩ := hw'
  subst hw''
  go_wp2_with fail
  go_ret2
  exact ⟨rfl, below_regrown w dq osq⟩
theorem var_any {w : World} {g : Nat} {E : Es} (h : EstAt w g E) (ok : E.Ok) :
    Calls Try.prog 11 #[.pointer (some ⟨g, 0, none⟩)] w fun e w' => e = .returned (.tuple #[.int .u64 (E.v / 4), .bool E.s]) ∧ Below w.heap.size w w' := by
  obtain ⟨t, v, b, s⟩ := E
  have H := hid h
  have c0 := cell_regrown (Row.cell h 1 _ rfl)
  have ed : v.tdiv 4 = v / 4 := Int.tdiv_eq_ediv_of_nonneg ok.v0
  have e1 : IntKind.u64.wrap (v / 4) = v / 4 := by rw [IntKind.wrap_u64]; have := ok.v0; have := ok.v1; simp only at *; omega
  have HK : Hid (∀ d os, Calls Try.prog 21 #[.pointer (some ⟨g, 0, none⟩)] (grow (redrawn w d) os) fun e w'' => e = .returned (.bool s) ∧ ∃ q : Regrown, w'' = grow (redrawn w q.d) q.os) :=
    fun d os => Calls.regrown_of (known_any (EstAt.kept h (below_regrown _ d os)) ok)
  clear h ok
  go_enter Try.func11, Try.ntmps11
  go_upto_region 1 with (fail)
  refine wp_region_quiet_below (by kernel_rfl) (by kernel_rfl) ?_
  repeat (quiet_step (first | (go_at_call 21; exact HK.out _ _)))
  refine wpQuiet_nil ?_
  intro _ hw'
  obtain ⟨⟨dq, osq⟩, hw''⟩ := hw'
  subst hw''
  go_wp2_with fail
  go_ret2
  exact ⟨rfl, below_regrown w dq osq⟩
def Es.wait (E : Es) : Int := if E.s then max (E.t / 8 + max E.v 1) 200 else 1000
def Es.rto (E : Es) : Int := min (E.wait * 2 ^ E.b.toNat) 60000
theorem Es.Ok.wait {E : Es} (h : E.Ok) : 200 ≤ E.wait ∧ E.wait ≤ 300003 := by
  obtain ⟨t0, t1, v0, v1, b0, b1, no⟩ := h
  unfold Es.wait
  split <;> omega
theorem wait_any {w : World} {g : Nat} {E : Es} (h : EstAt w g E) (ok : E.Ok) :
    Calls Try.prog 23 #[.pointer (some ⟨g, 0, none⟩)] w fun e w' => e = .returned (.int .u64 E.wait) ∧ Below w.heap.size w w' := by
  have HK := hid (known_any h ok)
  obtain ⟨t, v, b, s⟩ := E
  have H := hid h
  obtain ⟨t0, t1, v0, v1, b0, b1, no⟩ := ok
  simp only at t0 t1 v0 v1
  have ed : t.tdiv 8 = t / 8 := Int.tdiv_eq_ediv_of_nonneg t0
  have e1 : IntKind.u64.wrap (t / 8) = t / 8 := by rw [IntKind.wrap_u64]; omega
  have e2 : IntKind.u64.wrap (t / 8 + max v 1) = t / 8 + max v 1 := by rw [IntKind.wrap_u64]; omega
  clear h t0 t1 v0 v1 b0 b1 no
  cases s with
  | false =>
    go_enter Try.func23, Try.ntmps23
    go_wp2_with (go_at_call 21; refine Calls.mono HK.out ?_; rintro e w2 ⟨rfl, hb⟩; have HB := hid hb; clear hb)
    go_ret
    exact ⟨rfl, HB.out⟩
  | true =>
    go_enter Try.func23, Try.ntmps23
    go_upto_region 3 with (go_at_call 21; refine Calls.mono HK.out ?_; rintro e w2 ⟨rfl, hb⟩; have HB := hid hb; clear hb)
    have R2 : Row w2 g [.int .u64 t, .int .u64 v, .int .i64 b, .bool true] 46 := EstAt.kept H.out HB.out
    have a0 := R2.cell 0 _ rfl
    have a1 := R2.cell 1 _ rfl
    clear R2 HK H
    go_region
    go_wp2
    go_ret
    exact ⟨rfl, below_drawn HB.out _⟩
theorem two_pow_bd (b : Int) (h0 : 0 ≤ b) (h1 : b ≤ 16) : (1 : Int) ≤ 2 ^ b.toNat ∧ (2 : Int) ^ b.toNat ≤ 65536 := by
  have h : b.toNat ≤ 16 := by omega
  have h2 : 2 ^ b.toNat ≤ 2 ^ 16 := Nat.pow_le_pow_right (by decide) h
  have h3 : 1 ≤ 2 ^ b.toNat := Nat.one_le_two_pow
  have e : ((2 ^ b.toNat : Nat) : Int) = (2 : Int) ^ b.toNat := by norm_cast
  omega
theorem rto_any {w : World} {g : Nat} {E : Es} (h : EstAt w g E) (ok : E.Ok) :
    Calls Try.prog 12 #[.pointer (some ⟨g, 0, none⟩)] w fun e w' => e = .returned (.int .u64 E.rto) ∧ Below w.heap.size w w' := by
  have HK : Hid (∀ d os, Calls Try.prog 23 #[.pointer (some ⟨g, 0, none⟩)] (grow (redrawn w d) os) fun e w'' => e = .returned (.int .u64 E.wait) ∧ ∃ q : Regrown, w'' = grow (redrawn w q.d) q.os) :=
    fun d os => Calls.regrown_of (wait_any (EstAt.kept h (below_regrown _ d os)) ok)
  have hw := ok.wait
  have he := two_pow_bd E.b ok.b0 ok.b1
  obtain ⟨b0, b1⟩ : 0 ≤ E.b ∧ E.b ≤ 16 := ⟨ok.b0, ok.b1⟩
  have HE : Hid (E.rto = min (E.wait * 2 ^ E.b.toNat) 60000) := rfl
  have ew : IntKind.u64.wrap (E.wait * 2 ^ E.b.toNat) = E.wait * 2 ^ E.b.toNat := by
    have h1 := Int.mul_le_mul hw.2 he.2 (by omega) (by omega)
    have h2 : 0 ≤ E.wait * 2 ^ E.b.toNat := Int.mul_nonneg (by omega) (by omega)
    rw [IntKind.wrap_u64]
    omega
  generalize E.rto = r at *
  generalize E.wait = x at *
  obtain ⟨t, v, b, s⟩ := E
  simp only at b0 b1 HE ew
  have c0 := cell_regrown (Row.cell h 2 _ rfl)
  clear h ok
  go_enter Try.func12, Try.ntmps12
  go_upto_region 1 with (fail)
  refine wp_region_quiet_below (by kernel_rfl) (by decide +kernel) ?_
  repeat (quiet_step (first | (go_at_call 23; exact HK.out _ _)))
  refine wpQuiet_nil ?_
  intro _ hw'
  obtain ⟨⟨dq, osq⟩, hw''⟩ := hw'
  subst hw''
  go_wp2_with fail
  go_ret
  exact ⟨by rw [HE.out]; rfl, below_regrown w dq osq⟩
theorem fresh_any (w : World) : Calls Try.prog 8 #[] w fun e w' => e = .returned (.pointer (some ⟨w.heap.size, 0, none⟩)) ∧ EstAt w' w.heap.size Es.new ∧ Below w.heap.size w w' := by
  have HN := hid (new_any w)
  go_enter Try.func8, Try.ntmps8
  go_upto_region 2 with (go_at_call 16; refine Calls.mono HN.out ?_; rintro e w1 ⟨rfl, hr, hb⟩; have HE1 := hid hr; have HB1 := hid hb; clear hr hb)
  clear HN
  go_upto_region 4 with (first
    | (go_at_call 12; refine Calls.mono (rto_any HE1.out Es.new_ok) ?_; rintro e w2 ⟨rfl, hb⟩; rw [show Es.new.rto = 1000 from by decide]; have HE2 := hid (EstAt.kept HE1.out hb); have HB2 := hid (HB1.out.trans (hb.mono (Nat.le_of_lt (Row.lt HE1.out)))); clear hb)
    | (go_at_call 15; refine Calls.mono (backs_any HE2.out) ?_; rintro e w3 ⟨rfl, rfl⟩; rw [show Es.new.b = 0 from rfl]))
  go_wp2_with (go_at_call 10; refine Calls.mono (srtt_any HE2.out Es.new_ok) ?_; rintro e w4 ⟨rfl, hb⟩; rw [show Es.new.t = 0 from rfl, show Es.new.s = false from rfl]; have HE4 := hid (EstAt.kept HE2.out hb); have HB4 := hid (HB2.out.trans (hb.mono (Nat.le_of_lt (Row.lt HE2.out)))); clear hb)
  go_ret
  exact ⟨rfl, HE4.out, HB4.out⟩
end Go.Proofs.Ytapggdkofdlmlaa
