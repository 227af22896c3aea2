import Derived.Test.YtapggdkofdlmlaaRef3
namespace Go.Proofs.Ytapggdkofdlmlaa
open Go.RowKit Go.Sort
set_option maxRecDepth 100000

set_option maxHeartbeats 1000000 in
theorem same_any {w : World} {g r n : Nat} {E : Es} (h : EstAt w g E) (k : RefAt w r E n) (ok : E.Ok) :
    Calls Try.prog 17 #[.pointer (some ⟨g, 0, none⟩), .pointer (some ⟨r, 0, none⟩)] w fun e w' => e = .returned (.bool true) ∧ Below w.heap.size w w' := by
  have H := hid (And.intro h k)
  have HO := hid ok
  have HB := hid (Below.refl w.heap.size w)
  clear h k ok
  go_enter Try.func17, Try.ntmps17
  go_upto_region 5 with (first
    | (go_at_call 10; refine Calls.mono (srtt_any H.out.1 HO.out) ?_; rintro e w2 ⟨rfl, hb⟩; replace H := hid (And.intro (H.out.1.kept hb) (H.out.2.kept hb)); replace HB := hid (HB.out.trans (hb.mono HB.out.size)); clear hb)
    | (go_at_call 24; refine Calls.mono (rsrtt_any H.out.2 HO.out) ?_; rintro e w3 ⟨rfl, hb⟩; replace H := hid (And.intro (H.out.1.kept hb) (H.out.2.kept hb)); replace HB := hid (HB.out.trans (hb.mono HB.out.size)); clear hb)
    | (go_at_call 11; refine Calls.mono (var_any H.out.1 HO.out) ?_; rintro e w4 ⟨rfl, hb⟩; replace H := hid (And.intro (H.out.1.kept hb) (H.out.2.kept hb)); replace HB := hid (HB.out.trans (hb.mono HB.out.size)); clear hb)
    | (go_at_call 25; refine Calls.mono (rvar_any H.out.2 HO.out) ?_; rintro e w5 ⟨rfl, hb⟩; replace H := hid (And.intro (H.out.1.kept hb) (H.out.2.kept hb)); replace HB := hid (HB.out.trans (hb.mono HB.out.size)); clear hb))
  obtain ⟨wb, hwb⟩ : ∃ wb, wb = w5 := ⟨_, rfl⟩
  rw [← hwb] at H HB
  rw [← hwb]
  clear hwb
  have K1 : Hid (∀ d os, Calls Try.prog 12 #[.pointer (some ⟨g, 0, none⟩)] (grow (redrawn wb d) os) fun e w'' => e = .returned (.int .u64 E.rto) ∧ ∃ q : Regrown, w'' = grow (redrawn wb q.d) q.os) :=
    fun d os => Calls.regrown_of (rto_any (EstAt.kept H.out.1 (below_regrown _ d os)) HO.out)
  have K2 : Hid (∀ d os, Calls Try.prog 26 #[.pointer (some ⟨r, 0, none⟩)] (grow (redrawn wb d) os) fun e w'' => e = .returned (.int .u64 E.rto) ∧ ∃ q : Regrown, w'' = grow (redrawn wb q.d) q.os) :=
    fun d os => Calls.regrown_of (rrto_any (RefAt.kept H.out.2 (below_regrown _ d os)) HO.out)
  have K3 : Hid (∀ d os, Calls Try.prog 15 #[.pointer (some ⟨g, 0, none⟩)] (grow (redrawn wb d) os) fun e w'' => e = .returned (.int .i64 E.b) ∧ ∃ q : Regrown, w'' = grow (redrawn wb q.d) q.os) :=
    fun d os => Calls.regrown_of ((backs_any (EstAt.kept H.out.1 (below_regrown _ d os))).mono fun _ _ ⟨h1, h2⟩ => ⟨h1, by rw [h2]; exact Below.refl _ _⟩)
  have c0 := cell_regrown (H.out.2.row.cell 3 _ rfl)
  generalize E.rto = rr at *
  generalize E.b = bb at *
  refine wp_region_quiet_below (by kernel_rfl) (by decide +kernel) ?_
  repeat (quiet_step (first | (go_at_call 12; exact K1.out _ _) | (go_at_call 26; exact K2.out _ _) | (go_at_call 15; exact K3.out _ _)))
  refine wpQuiet_nil ?_
  intro _ hw'
  obtain ⟨⟨dq, osq⟩, hw''⟩ := hw'
  subst hw''
  go_wp2_with fail
  go_ret
  exact ⟨rfl, HB.out.trans ((below_regrown wb dq osq).mono HB.out.size)⟩
end Go.Proofs.Ytapggdkofdlmlaa
