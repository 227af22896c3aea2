import Derived.Test.YtbkfmknjbdonlaaFlow2
namespace Go.Proofs.Ytbkfmknjbdonlaa
open Go.RowKit Go.Maps Go.Sort
set_option maxRecDepth 100000

theorem len_regrown {w : World} {b : Nat} {U : List It} (h : OwnU w b U) (d : Nat) (os : Array Obj) (ty : TypeId) : (Builtin.len_ #[83] ty #[.map (some b)]).run Try.prog (grow (redrawn w d) os) = .ok (.int .i64 U.length) (grow (redrawn w d) os) := by
  have := World.ownsMap.len (OwnU.below h (below_regrown w d os)) Try.underlying83 ty
  rw [UD_size] at this
  exact this
set_option maxHeartbeats 2000000 in
theorem tick_none {w : World} {p b g : Nat} {F : Fl} (h : FlowAt w p b g F) (ok : F.Ok) (he : F.U.length = 0) (now : Int) :
    Calls Try.prog 22 #[.pointer (some ⟨p, 0, none⟩), .int .u64 now] w fun e w' => e = .returned (.tuple #[.slice none 0 0, .bool false]) ∧ Below w.heap.size w w' := by
  have hlen := len_regrown h.map
  have c0 := cell_regrown (h.row.cell 0 _ rfl)
  have c6 := cell_regrown (h.row.cell 6 _ rfl)
  have K := hid (fun d os => frto_regrown h ok d os)
  have hez : ((F.U.length : Nat) : Int) = 0 := by omega
  rw [hez] at hlen
  clear h ok
  go_enter Try.func22, Try.ntmps22
  go_upto_region 1 with (fail)
  refine wp_region_quiet_below (by kernel_rfl) (by decide +kernel) ?_
  repeat (go_big_quiet_step (first | (go_at_call 21; exact K.out _ _)))
  refine wpQuiet_nil ?_
  intro _ hw'
  obtain ⟨⟨dq, osq⟩, hw''⟩ := hw'
  subst hw''
  go_wp2_with fail
  go_ret2
  exact ⟨rfl, below_regrown w dq osq⟩
set_option maxHeartbeats 2000000 in
theorem tick_ahead {w : World} {p b g : Nat} {F : Fl} (h : FlowAt w p b g F) (ok : F.Ok) (he : F.U.length ≠ 0) (now : Int) (h1 : now < F.mark) :
    Calls Try.prog 22 #[.pointer (some ⟨p, 0, none⟩), .int .u64 now] w fun e w' => e = .returned (.tuple #[.slice none 0 0, .bool false]) ∧ Below w.heap.size w w' := by
  have hlen := len_regrown h.map
  have c0 := cell_regrown (h.row.cell 0 _ rfl)
  have c6 := cell_regrown (h.row.cell 6 _ rfl)
  have K := hid (fun d os => frto_regrown h ok d os)
  have hez : ((F.U.length : Nat) : Int) ≠ 0 := by omega
  have hm0 := ok.mark0
  generalize ((F.U.length : Nat) : Int) = ln at *
  generalize F.E.rto = rr at *
  clear h ok he
  obtain ⟨U, E, rt, st, nx, la, mk, li⟩ := F
  simp only at *
  have hq : (ln == 0) = false := by simpa using hez
  go_enter Try.func22, Try.ntmps22
  go_upto_region 1 with (fail)
  refine wp_region_quiet_below (by kernel_rfl) (by decide +kernel) ?_
  repeat (go_big_quiet_step (first | (go_at_call 21; exact K.out _ _)))
  refine wpQuiet_nil ?_
  intro _ hw'
  obtain ⟨⟨dq, osq⟩, hw''⟩ := hw'
  subst hw''
  go_wp2_with fail
  go_ret2
  exact ⟨rfl, below_regrown w dq osq⟩
set_option maxHeartbeats 2000000 in
theorem tick_soon {w : World} {p b g : Nat} {F : Fl} (h : FlowAt w p b g F) (ok : F.Ok) (he : F.U.length ≠ 0) (now : Int) (hn1 : now ≤ 18446744073709551615) (h1 : ¬ now < F.mark) (h2 : now - F.mark < F.E.rto) :
    Calls Try.prog 22 #[.pointer (some ⟨p, 0, none⟩), .int .u64 now] w fun e w' => e = .returned (.tuple #[.slice none 0 0, .bool false]) ∧ Below w.heap.size w w' := by
  have hlen := len_regrown h.map
  have c0 := cell_regrown (h.row.cell 0 _ rfl)
  have c6 := cell_regrown (h.row.cell 6 _ rfl)
  have K := hid (fun d os => frto_regrown h ok d os)
  have hez : ((F.U.length : Nat) : Int) ≠ 0 := by omega
  have hm0 := ok.mark0
  generalize ((F.U.length : Nat) : Int) = ln at *
  generalize F.E.rto = rr at *
  clear h ok he
  obtain ⟨U, E, rt, st, nx, la, mk, li⟩ := F
  simp only at *
  have hq : (ln == 0) = false := by simpa using hez
  have ew : IntKind.u64.wrap (now - mk) = now - mk := wrapu _ (by omega) (by omega)
  go_enter Try.func22, Try.ntmps22
  go_upto_region 1 with (fail)
  refine wp_region_quiet_below (by kernel_rfl) (by decide +kernel) ?_
  repeat (go_big_quiet_step (first | (go_at_call 21; exact K.out _ _)))
  refine wpQuiet_nil ?_
  intro _ hw'
  obtain ⟨⟨dq, osq⟩, hw''⟩ := hw'
  subst hw''
  go_wp2_with fail
  go_ret2
  exact ⟨rfl, below_regrown w dq osq⟩
end Go.Proofs.Ytbkfmknjbdonlaa
