import Derived.Test.YtahkbklhngiloaaCr9
namespace Go.Proofs.Ytahkbklhngiloaa
open Go.RowKit Go.Maps
set_option maxRecDepth 100000

set_option maxRecDepth 1000000 in
set_option maxHeartbeats 1000000 in
theorem bitlen64_0 (w : World) : Calls Try.prog 72 #[.int .u64 0] w fun e w' => ∃ k : Int, e = .returned (.int .i64 k) ∧ w' = w := by
  go_enter Try.func72, Try.ntmps72
  go_wp2
  go_ret
  exact ⟨_, rfl, rfl⟩
theorem bitlen0 (w : World) : Calls Try.prog 60 #[.int .u64 0] w fun e w' => ∃ k : Int, e = .returned (.int .i64 k) ∧ w' = w := by
  have h := bitlen64_0 w
  go_enter Try.func60, Try.ntmps60
  go_wp2_with (go_at_call 72; refine h.mono ?_; rintro e w' ⟨k, rfl, rfl⟩)
  go_ret
  exact ⟨_, rfl, rfl⟩
set_option maxHeartbeats 1000000 in
theorem insertion0 (w : World) (a : Option Addr) (cap : Nat) : Calls Try.prog 62 #[.slice a 0 cap, .int .i64 0, .int .i64 0] w fun e w' => e = .returned (.tuple #[]) ∧ w' = w := by
  go_enter Try.func62, Try.ntmps62
  go_wp2
  refine wp_loop_rounds 1 ?_
  rw [rounds_succ]
  go_wp2
  refine bodyPost_end (results_none Try.results62 _ _ _) rfl ?_
  exact ⟨rfl, rfl⟩
set_option maxHeartbeats 1000000 in
theorem pdq0 (w : World) (a : Option Addr) (cap : Nat) (lim : Int) : Calls Try.prog 59 #[.slice a 0 cap, .int .i64 0, .int .i64 0, .int .i64 lim] w fun e w' => e = .returned (.tuple #[]) ∧ w' = w := by
  go_enter Try.func59, Try.ntmps59
  go_wp2
  refine wp_loop_rounds 1 ?_
  rw [rounds_succ]
  go_wp2_with fail
  refine (insertion0 _ _ _).mono ?_
  rintro e w' ⟨rfl, rfl⟩
  go_wp2
  refine bodyPost_ret (results_none rfl _ _ _) rfl ?_
  exact ⟨rfl, rfl⟩
set_option maxHeartbeats 1000000 in
theorem sort0 (w : World) (a : Option Addr) (cap : Nat) : Calls Try.prog 46 #[.slice a 0 cap] w fun e w' => e = .returned (.tuple #[]) ∧ w' = w := by
  go_enter Try.func46, Try.ntmps46
  go_wp2_with fail
  refine (bitlen0 _).mono ?_
  rintro e w' ⟨k, rfl, rfl⟩
  go_wp2_with fail
  refine (pdq0 _ _ _ _).mono ?_
  rintro e w' ⟨rfl, rfl⟩
  go_wp2
  refine bodyPost_end (results_none Try.results46 _ _ _) rfl ?_
  exact ⟨rfl, rfl⟩
def Ac.vcells (A : Ac) (id : Int) (d : Bool) : List Value := [.int .u64 id, .int .u64 A.sent, .int .u64 A.may, .int .u64 A.came, .int .u64 A.used, .int .u64 A.told, .bool d]
set_option maxHeartbeats 2000000 in
theorem aview_any {w : World} {g o : Nat} {A : Ac} (h : AcAt w g o A) (id : Int) : Calls Try.prog 47 #[pt g o, .int .u64 id] w fun e w' => e = .returned (.agg (A.vcells id false).toArray) ∧ Below w.heap.size w w' := by
  have hbz := below_box w (.cells #[.int .u64 0, .int .u64 0, .int .u64 0, .int .u64 0, .int .u64 0, .int .u64 0, .bool false] 61)
  have c0 := cell_kept hbz h.c0
  have c1 := cell_kept hbz h.c1
  have c2 := cell_kept hbz h.c2
  have c3 := cell_kept hbz h.c3
  have c4 := cell_kept hbz h.c4
  have R := (Row.new w (A.vcells id false) 61).drew 1
  have HB := hid2 (below_drewN (below_box w (.cells (A.vcells id false).toArray 61)) 1)
  clear h hbz
  go_enter Try.func47, Try.ntmps47
  go_upto_region 1 with fail
  go_region
  go_wp2
  refine bodyPost_ret (R.result Try.results47 _ rfl _ Try.underlying61 rfl (by kernel_rfl)) rfl ?_
  exact ⟨rfl, HB.out⟩
theorem new_no (w : World) (side : Int) {own peer : Rm} (h : own.may = false ∨ peer.may = false) : Calls Try.prog 10 #[.int .i64 side, own.val, peer.val] w fun e w' => e = .returned (.tuple #[.pointer none, .int .i64 180]) ∧ Below w.heap.size w w' := by
  have hba := below_box w (.cells #[.int .u64 own.all, .int .u64 own.each, .int .i64 own.str] 24)
  have hbb := below_box (w.alloc (.cells #[.int .u64 own.all, .int .u64 own.each, .int .i64 own.str] 24)) (.cells #[.int .u64 peer.all, .int .u64 peer.each, .int .i64 peer.str] 24)
  have Ra := (Row.new w [.int .u64 own.all, .int .u64 own.each, .int .i64 own.str] 24).kept hbb (by simp)
  have Rb := Row.new (w.alloc (.cells #[.int .u64 own.all, .int .u64 own.each, .int .i64 own.str] 24)) [.int .u64 peer.all, .int .u64 peer.each, .int .i64 peer.str] 24
  have HB := hid2 (hba.trans (hbb.mono hba.size))
  have hsz : (w.alloc (.cells #[.int .u64 own.all, .int .u64 own.each, .int .i64 own.str] 24)).heap.size = w.heap.size + 1 := by simp
  rw [hsz] at Rb
  have h1 := fun w => maybe_any w own
  have h2 := fun w => maybe_any w peer
  unfold Rm.val at *
  clear hba hbb hsz
  cases ho : own.may
  · rw [ho] at h1
    clear h2 h
    go_enter Try.func10, Try.ntmps10
    go_upto_region 1 with fail
    refine wp_world ?_
    intro w2 hw2
    rw [← hw2.out] at Ra Rb HB
    have a0 := Ra.cell 0 _ rfl
    have a1 := Ra.cell 1 _ rfl
    have a2 := Ra.cell 2 _ rfl
    clear Ra Rb hw2
    go_wp2_with (go_at_call 29; refine (h1 _).mono ?_; rintro e w3 ⟨rfl, hb3⟩; have HB3 := hid2 (HB.out.trans (hb3.mono HB.out.size)); clear hb3)
    go_ret2
    exact ⟨by first | rfl | simp, HB3.out⟩
  · have hp : peer.may = false := by rcases h with h | h; rw [ho] at h; cases h; exact h
    rw [ho] at h1
    rw [hp] at h2
    clear h hp ho
    go_enter Try.func10, Try.ntmps10
    go_upto_region 1 with fail
    refine wp_world ?_
    intro w2 hw2
    rw [← hw2.out] at Ra Rb HB
    have RB := hid2 Rb
    have a0 := Ra.cell 0 _ rfl
    have a1 := Ra.cell 1 _ rfl
    have a2 := Ra.cell 2 _ rfl
    clear Ra Rb hw2
    go_wp2_with (first | (go_at_call 29; refine (h1 _).mono ?_; rintro e w3 ⟨rfl, hb3⟩; have HB3 := hid2 (HB.out.trans (hb3.mono HB.out.size)); have RB3 := RB.out.kept hb3 RB.out.lt; have b0 := RB3.cell 0 _ rfl; have b1 := RB3.cell 1 _ rfl; have b2 := RB3.cell 2 _ rfl; clear hb3 RB3 a0 a1 a2 h1) | (go_at_call 29; refine (h2 _).mono ?_; rintro e w4 ⟨rfl, hb4⟩; have HB4 := hid2 (HB3.out.trans (hb4.mono HB3.out.size)); clear hb4))
    go_ret2
    exact ⟨by first | rfl | simp, HB4.out⟩
set_option maxHeartbeats 1000000 in
theorem rfit_any (w : World) (r : Rm) : Calls Try.prog 49 #[r.val] w fun e w' => e = .returned (.bool r.may) ∧ Below w.heap.size w w' := by
  obtain ⟨a, e, s⟩ := r
  unfold Rm.may Rm.val
  simp only
  have hb := below_box w (.cells #[.int .u64 a, .int .u64 e, .int .i64 s] 24)
  have b0 := box_cells w #[.int .u64 a, .int .u64 e, .int .i64 s] 24 0 _ rfl
  have b1 := box_cells w #[.int .u64 a, .int .u64 e, .int .i64 s] 24 1 _ rfl
  have b2 := box_cells w #[.int .u64 a, .int .u64 e, .int .i64 s] 24 2 _ rfl
  have HB := hid2 hb
  clear hb
  go_enter Try.func49, Try.ntmps49
  go_wp2
  all_goals (go_ret; exact ⟨by first | rfl | (simp_all; done) | (simp_all; omega), HB.out⟩)
end Go.Proofs.Ytahkbklhngiloaa
