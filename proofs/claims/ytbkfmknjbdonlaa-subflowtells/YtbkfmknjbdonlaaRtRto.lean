import Derived.Test.YtbkfmknjbdonlaaRtSample
namespace Go.Proofs.Ytbkfmknjbdonlaa
open Go.RowKit Go.Sort
set_option maxRecDepth 100000

def Es.wait (E : Es) : Int := if E.s then max (E.t / 8 + max E.v 1) 200 else 1000
def Es.rto (E : Es) : Int := min (E.wait * 2 ^ E.b.toNat) 60000
theorem Es.Ok.wait {E : Es} (h : E.Ok) : 200 ≤ E.wait ∧ E.wait ≤ 300003 := by
  obtain ⟨t0, t1, v0, v1, b0, b1, no⟩ := h
  unfold Es.wait
  split <;> omega
theorem wait_any {w : World} {g : Nat} {E : Es} (h : EstAt w g E) (ok : E.Ok) :
    Calls Try.prog 65 #[.pointer (some ⟨g, 0, none⟩)] w fun e w' => e = .returned (.int .u64 E.wait) ∧ Below w.heap.size w w' := by
  have HK := hid (known_any h ok)
  obtain ⟨t, v, b, s⟩ := E
  have H := hid h
  obtain ⟨t0, t1, v0, v1, b0, b1, no⟩ := ok
  simp only at t0 t1 v0 v1
  have ed : t.tdiv 8 = t / 8 := Int.tdiv_eq_ediv_of_nonneg t0
  have e1 : IntKind.u64.wrap (t / 8) = t / 8 := by rw [IntKind.wrap_u64]; omega
  have e2 : IntKind.u64.wrap (t / 8 + max v 1) = t / 8 + max v 1 := by rw [IntKind.wrap_u64]; omega
  clear h t0 t1 v0 v1 b0 b1 no
  cases s with
  | false =>
    go_enter Try.func65, Try.ntmps65
    go_wp2_with (go_at_call 67; refine Calls.mono HK.out ?_; rintro e w2 ⟨rfl, hb⟩; have HB := hid hb; clear hb)
    go_ret
    exact ⟨rfl, HB.out⟩
  | true =>
    go_enter Try.func65, Try.ntmps65
    go_upto_region 3 with (go_at_call 67; refine Calls.mono HK.out ?_; rintro e w2 ⟨rfl, hb⟩; have HB := hid hb; clear hb)
    have R2 : Row w2 g [.int .u64 t, .int .u64 v, .int .i64 b, .bool true] 105 := EstAt.kept H.out HB.out
    have a0 := R2.cell 0 _ rfl
    have a1 := R2.cell 1 _ rfl
    clear R2 HK H
    go_region
    go_wp2
    go_ret
    exact ⟨rfl, below_drawn HB.out _⟩
theorem two_pow_bd (b : Int) (h0 : 0 ≤ b) (h1 : b ≤ 16) : (1 : Int) ≤ 2 ^ b.toNat ∧ (2 : Int) ^ b.toNat ≤ 65536 := by
  have h : b.toNat ≤ 16 := by omega
  have h2 : 2 ^ b.toNat ≤ 2 ^ 16 := Nat.pow_le_pow_right (by decide) h
  have h3 : 1 ≤ 2 ^ b.toNat := Nat.one_le_two_pow
  have e : ((2 ^ b.toNat : Nat) : Int) = (2 : Int) ^ b.toNat := by norm_cast
  omega
theorem rto_any {w : World} {g : Nat} {E : Es} (h : EstAt w g E) (ok : E.Ok) :
    Calls Try.prog 41 #[.pointer (some ⟨g, 0, none⟩)] w fun e w' => e = .returned (.int .u64 E.rto) ∧ Below w.heap.size w w' := by
  have HK : Hid (∀ d os, Calls Try.prog 65 #[.pointer (some ⟨g, 0, none⟩)] (grow (redrawn w d) os) fun e w'' => e = .returned (.int .u64 E.wait) ∧ ∃ q : Regrown, w'' = grow (redrawn w q.d) q.os) :=
    fun d os => Calls.regrown_of (wait_any (EstAt.kept h (below_regrown _ d os)) ok)
  have hw := ok.wait
  have he := two_pow_bd E.b ok.b0 ok.b1
  obtain ⟨b0, b1⟩ : 0 ≤ E.b ∧ E.b ≤ 16 := ⟨ok.b0, ok.b1⟩
  have HE : Hid (E.rto = min (E.wait * 2 ^ E.b.toNat) 60000) := rfl
  have ew : IntKind.u64.wrap (E.wait * 2 ^ E.b.toNat) = E.wait * 2 ^ E.b.toNat := by
    have h1 := Int.mul_le_mul hw.2 he.2 (by omega) (by omega)
    have h2 : 0 ≤ E.wait * 2 ^ E.b.toNat := Int.mul_nonneg (by omega) (by omega)
    rw [IntKind.wrap_u64]
    omega
  generalize E.rto = r at *
  generalize E.wait = x at *
  obtain ⟨t, v, b, s⟩ := E
  simp only at b0 b1 HE ew
  have c0 := cell_regrown (Row.cell h 2 _ rfl)
  clear h ok
  go_enter Try.func41, Try.ntmps41
  go_upto_region 1 with (fail)
  refine wp_region_quiet_below (by kernel_rfl) (by decide +kernel) ?_
  repeat (quiet_step (first | (go_at_call 65; exact HK.out _ _)))
  refine wpQuiet_nil ?_
  intro _ hw'
  obtain ⟨⟨dq, osq⟩, hw''⟩ := hw'
  subst hw''
  go_wp2_with fail
  go_ret
  exact ⟨by rw [HE.out]; rfl, below_regrown w dq osq⟩
end Go.Proofs.Ytbkfmknjbdonlaa
