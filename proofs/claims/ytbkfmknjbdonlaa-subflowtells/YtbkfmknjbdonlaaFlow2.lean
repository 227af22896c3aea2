import Derived.Test.YtbkfmknjbdonlaaFlow1
namespace Go.Proofs.Ytbkfmknjbdonlaa
open Go.RowKit Go.Maps Go.Sort
set_option maxRecDepth 100000

theorem Es.Ok.rto {E : Es} (h : E.Ok) : 200 ≤ E.rto ∧ E.rto ≤ 60000 := by
  have hw := h.wait
  have he := two_pow_bd E.b h.b0 h.b1
  unfold Es.rto
  have : E.wait * 1 ≤ E.wait * 2 ^ E.b.toNat := Int.mul_le_mul_of_nonneg_left he.1 (by omega)
  omega
theorem frto_regrown {w : World} {p b g : Nat} {F : Fl} (h : FlowAt w p b g F) (ok : F.Ok) (d : Nat) (os : Array Obj) :
    Calls Try.prog 21 #[.pointer (some ⟨p, 0, none⟩)] (grow (redrawn w d) os) fun e w'' => e = .returned (.int .u64 F.E.rto) ∧ ∃ q : Regrown, w'' = grow (redrawn w q.d) q.os :=
  Calls.regrown_of (frto_any (h.kept (below_regrown _ d os)) ok)
/-- When the timer fires. -/
def Fl.due (F : Fl) : Int := F.mark + min F.E.rto (18446744073709551615 - F.mark)
theorem deadline_none {w : World} {p b g : Nat} {F : Fl} (h : FlowAt w p b g F) (he : F.U.length = 0) :
    Calls Try.prog 20 #[.pointer (some ⟨p, 0, none⟩)] w fun e w' => e = .returned (.tuple #[.int .u64 0, .bool false]) ∧ w' = w := by
  have c := h.row.cell 0 _ rfl
  have HM := hid h.map
  have hez : ((F.U.length : Nat) : Int) = 0 := by omega
  clear h
  go_enter Try.func20, Try.ntmps20
  go_wp2_with (at_len; refine len_items rfl _ rfl b F.U rfl HM.out ?_; rw [hez])
  go_ret2
  exact ⟨rfl, rfl⟩
set_option maxHeartbeats 1000000 in
theorem deadline_some {w : World} {p b g : Nat} {F : Fl} (h : FlowAt w p b g F) (ok : F.Ok) (he : F.U.length ≠ 0) :
    Calls Try.prog 20 #[.pointer (some ⟨p, 0, none⟩)] w fun e w' => e = .returned (.tuple #[.int .u64 F.due, .bool true]) ∧ Below w.heap.size w w' := by
  have c := h.row.cell 0 _ rfl
  have HM := hid h.map
  have hez : decide (((F.U.length : Nat) : Int) = 0) = false := decide_eq_false (by omega)
  have K := hid (fun d os => frto_regrown h ok d os)
  have c6 := cell_regrown (h.row.cell 6 _ rfl)
  have hr := ok.est.rto
  have hm0 := ok.mark0
  have hm1 := ok.mark1
  have HD : Hid (F.due = F.mark + min F.E.rto (18446744073709551615 - F.mark)) := rfl
  generalize F.due = du at *
  generalize F.E.rto = rr at *
  obtain ⟨U, E, rt, st, nx, la, mk, li⟩ := F
  simp only at hm0 hm1 HD HM hez he
  have ew1 : IntKind.u64.wrap (18446744073709551615 - mk) = 18446744073709551615 - mk := wrapu _ (by omega) (by omega)
  have ew2 : IntKind.u64.wrap (mk + min rr (18446744073709551615 - mk)) = mk + min rr (18446744073709551615 - mk) := wrapu _ (by omega) (by omega)
  clear h ok
  go_enter Try.func20, Try.ntmps20
  go_upto_region 3 with (at_len; refine len_items rfl _ rfl b U rfl HM.out ?_)
  refine wp_region_quiet_below (by kernel_rfl) (by decide +kernel) ?_
  repeat (quiet_step (first | (go_at_call 21; exact K.out _ _)))
  refine wpQuiet_nil ?_
  intro _ hw'
  obtain ⟨⟨dq, osq⟩, hw''⟩ := hw'
  subst hw''
  go_wp2_with fail
  go_ret2
  exact ⟨by rw [HD.out]; rfl, below_regrown w dq osq⟩
end Go.Proofs.Ytbkfmknjbdonlaa
