import Derived.Test.YtahkbklhngiloaaMk0
namespace Go.Proofs.Ytahkbklhngiloaa
open Go.RowKit Go.Maps
set_option maxRecDepth 100000

def rcells (s : Int) (own peer : Rm) : List Value := [.int .i64 s, .int .u64 own.all, .int .u64 own.each, .int .i64 own.str, .int .u64 peer.all, .int .u64 peer.each, .int .i64 peer.str,
  .int .u64 0, .int .u64 0, .int .u64 peer.all, .int .u64 0, .int .u64 0, .int .u64 own.all, .bool false, .bool false, .slice none 0 0]
set_option maxHeartbeats 1000000 in
theorem rnew_no (w : World) (side : Int) {own peer : Rm} (h : own.may = false ∨ peer.may = false) : Calls Try.prog 24 #[.int .i64 side, own.val, peer.val] w fun e w' => e = .returned (.pointer none) ∧ Below w.heap.size w w' := by
  have hba := below_box w (.cells #[.int .u64 own.all, .int .u64 own.each, .int .i64 own.str] 24)
  have hbb := below_box (w.alloc (.cells #[.int .u64 own.all, .int .u64 own.each, .int .i64 own.str] 24)) (.cells #[.int .u64 peer.all, .int .u64 peer.each, .int .i64 peer.str] 24)
  have Ra := (Row.new w [.int .u64 own.all, .int .u64 own.each, .int .i64 own.str] 24).kept hbb (by simp)
  have Rb := Row.new (w.alloc (.cells #[.int .u64 own.all, .int .u64 own.each, .int .i64 own.str] 24)) [.int .u64 peer.all, .int .u64 peer.each, .int .i64 peer.str] 24
  have HB := hid2 (hba.trans (hbb.mono hba.size))
  have hsz : (w.alloc (.cells #[.int .u64 own.all, .int .u64 own.each, .int .i64 own.str] 24)).heap.size = w.heap.size + 1 := by simp
  rw [hsz] at Rb
  have h1 := fun w => rfit_any w own
  have h2 := fun w => rfit_any w peer
  unfold Rm.val at *
  clear hba hbb hsz
  cases ho : own.may
  · rw [ho] at h1
    clear h2 h
    go_enter Try.func24, Try.ntmps24
    go_upto_region 1 with fail
    refine wp_world ?_
    intro w2 hw2
    rw [← hw2.out] at Ra Rb HB
    have a0 := Ra.cell 0 _ rfl
    have a1 := Ra.cell 1 _ rfl
    have a2 := Ra.cell 2 _ rfl
    clear Ra Rb hw2
    go_wp2_with (go_at_call 49; refine (h1 _).mono ?_; rintro e w3 ⟨rfl, hb3⟩; have HB3 := hid2 (HB.out.trans (hb3.mono HB.out.size)); clear hb3)
    go_ret
    exact ⟨by first | rfl | simp, HB3.out⟩
  · have hp : peer.may = false := by rcases h with h | h; rw [ho] at h; cases h; exact h
    rw [ho] at h1
    rw [hp] at h2
    clear h hp ho
    go_enter Try.func24, Try.ntmps24
    go_upto_region 1 with fail
    refine wp_world ?_
    intro w2 hw2
    rw [← hw2.out] at Ra Rb HB
    have RB := hid2 Rb
    have a0 := Ra.cell 0 _ rfl
    have a1 := Ra.cell 1 _ rfl
    have a2 := Ra.cell 2 _ rfl
    clear Ra Rb hw2
    go_wp2_with (first | (go_at_call 49; refine (h1 _).mono ?_; rintro e w3 ⟨rfl, hb3⟩; have HB3 := hid2 (HB.out.trans (hb3.mono HB.out.size)); have RB3 := RB.out.kept hb3 RB.out.lt; have b0 := RB3.cell 0 _ rfl; have b1 := RB3.cell 1 _ rfl; have b2 := RB3.cell 2 _ rfl; clear hb3 RB3 a0 a1 a2 h1) | (go_at_call 49; refine (h2 _).mono ?_; rintro e w4 ⟨rfl, hb4⟩; have HB4 := hid2 (HB3.out.trans (hb4.mono HB3.out.size)); clear hb4))
    go_ret
    exact ⟨by first | rfl | simp, HB4.out⟩
theorem build100 (w : World) (a b : Int) : (Instr.build 100 #[(2, .int .u64 a), (5, .int .u64 b)]).run Try.prog w = .ok (.agg #[.int .u64 0, .int .u64 0, .int .u64 a, .int .u64 0, .int .u64 0, .int .u64 b, .bool false, .bool false]) w := by kernel_rfl
set_option maxHeartbeats 1000000 in
theorem rnew_yes (w : World) (side : Int) {own peer : Rm} (ho : own.Ok) (hp : peer.Ok) : Calls Try.prog 24 #[.int .i64 side, own.val, peer.val] w fun e w' => ∃ p s, e = .returned (pt p 0) ∧ Row w' p (rcells s own peer) 103 ∧ Below w.heap.size w w' := by
  have hba := below_box w (.cells #[.int .u64 own.all, .int .u64 own.each, .int .i64 own.str] 24)
  have hbb := below_box (w.alloc (.cells #[.int .u64 own.all, .int .u64 own.each, .int .i64 own.str] 24)) (.cells #[.int .u64 peer.all, .int .u64 peer.each, .int .i64 peer.str] 24)
  have Ra := (Row.new w [.int .u64 own.all, .int .u64 own.each, .int .i64 own.str] 24).kept hbb (by simp)
  have Rb := Row.new (w.alloc (.cells #[.int .u64 own.all, .int .u64 own.each, .int .i64 own.str] 24)) [.int .u64 peer.all, .int .u64 peer.each, .int .i64 peer.str] 24
  have HB := hid2 (hba.trans (hbb.mono hba.size))
  have hsz : (w.alloc (.cells #[.int .u64 own.all, .int .u64 own.each, .int .i64 own.str] 24)).heap.size = w.heap.size + 1 := by simp
  rw [hsz] at Rb
  have h1 := fun w => rfit_any w own
  have h2 := fun w => rfit_any w peer
  rw [Rm.may_ok.2 ho] at h1
  rw [Rm.may_ok.2 hp] at h2
  unfold Rm.val at *
  have hb1 := build100
  clear hba hbb hsz ho hp
  go_enter Try.func24, Try.ntmps24
  go_upto_region 1 with fail
  refine wp_world ?_
  intro w2 hw2
  rw [← hw2.out] at Ra Rb HB
  have RA := hid2 Ra
  have RB := hid2 Rb
  have a0 := Ra.cell 0 _ rfl
  have a1 := Ra.cell 1 _ rfl
  have a2 := Ra.cell 2 _ rfl
  clear Ra Rb hw2
  go_upto_region 3 with (first | (go_at_call 49; refine (h1 _).mono ?_; rintro e w3 ⟨rfl, hb3⟩; have HB3 := hid2 (HB.out.trans (hb3.mono HB.out.size)); have RA3 := hid2 (RA.out.kept hb3 RA.out.lt); have RB3 := hid2 (RB.out.kept hb3 RB.out.lt); have b0 := RB3.out.cell 0 _ rfl; have b1 := RB3.out.cell 1 _ rfl; have b2 := RB3.out.cell 2 _ rfl; clear hb3 a0 a1 a2 h1) | (go_at_call 49; refine (h2 _).mono ?_; rintro e w4 ⟨rfl, hb4⟩; have HB4 := hid2 (HB3.out.trans (hb4.mono HB3.out.size)); have RA4 := hid2 (RA3.out.kept hb4 RA3.out.lt); have RB4 := hid2 (RB3.out.kept hb4 RB3.out.lt); clear hb4 b0 b1 b2))
  have a0 := RA4.out.cell 0 _ rfl
  have a1 := RA4.out.cell 1 _ rfl
  have a2 := RA4.out.cell 2 _ rfl
  have b0 := RB4.out.cell 0 _ rfl
  have b1 := RB4.out.cell 1 _ rfl
  have b2 := RB4.out.cell 2 _ rfl
  go_wp2
  go_ret
  exact ⟨_, _, rfl, Row.new w4 (rcells _ own peer) 103, HB4.out.trans ((below_box w4 _).mono HB4.out.size)⟩
set_option maxHeartbeats 1000000 in
/-- A Line as a view. -/
theorem rview_any (w : World) (i s m c u t : Int) (d o : Bool) : Calls Try.prog 50 #[.agg #[.int .u64 i, .int .u64 s, .int .u64 m, .int .u64 c, .int .u64 u, .int .u64 t, .bool d, .bool o]] w fun e w' => e = .returned (.agg #[.int .u64 i, .int .u64 s, .int .u64 m, .int .u64 c, .int .u64 u, .int .u64 t, .bool d]) ∧ Below w.heap.size w w' := by
  have hba := below_box w (.cells #[.int .u64 i, .int .u64 s, .int .u64 m, .int .u64 c, .int .u64 u, .int .u64 t, .bool d, .bool o] 100)
  have hbb := below_box (w.alloc (.cells #[.int .u64 i, .int .u64 s, .int .u64 m, .int .u64 c, .int .u64 u, .int .u64 t, .bool d, .bool o] 100)) (.cells #[.int .u64 0, .int .u64 0, .int .u64 0, .int .u64 0, .int .u64 0, .int .u64 0, .bool false] 61)
  have Ra := (Row.new w [.int .u64 i, .int .u64 s, .int .u64 m, .int .u64 c, .int .u64 u, .int .u64 t, .bool d, .bool o] 100).kept hbb (by simp)
  have c0 := Ra.cell 0 _ rfl
  have c1 := Ra.cell 1 _ rfl
  have c2 := Ra.cell 2 _ rfl
  have c3 := Ra.cell 3 _ rfl
  have c4 := Ra.cell 4 _ rfl
  have c5 := Ra.cell 5 _ rfl
  have c6 := Ra.cell 6 _ rfl
  have R := Row.new (w.alloc (.cells #[.int .u64 i, .int .u64 s, .int .u64 m, .int .u64 c, .int .u64 u, .int .u64 t, .bool d, .bool o] 100)) [.int .u64 i, .int .u64 s, .int .u64 m, .int .u64 c, .int .u64 u, .int .u64 t, .bool d] 61
  have HB := hid2 (hba.trans ((below_box (w.alloc (.cells #[.int .u64 i, .int .u64 s, .int .u64 m, .int .u64 c, .int .u64 u, .int .u64 t, .bool d, .bool o] 100)) (.cells #[.int .u64 i, .int .u64 s, .int .u64 m, .int .u64 c, .int .u64 u, .int .u64 t, .bool d] 61)).mono hba.size))
  have hsz : (w.alloc (.cells #[.int .u64 i, .int .u64 s, .int .u64 m, .int .u64 c, .int .u64 u, .int .u64 t, .bool d, .bool o] 100)).heap.size = w.heap.size + 1 := by simp
  rw [hsz] at R
  clear hba hbb Ra hsz
  go_enter Try.func50, Try.ntmps50
  go_wp2
  refine bodyPost_ret (R.result Try.results50 _ rfl _ Try.underlying61 rfl (by kernel_rfl)) rfl ?_
  exact ⟨rfl, HB.out⟩
theorem bsl61 (w : World) (i s m c u t : Int) (d : Bool) : (Instr.buildSlice 56 1 #[(0, .agg #[.int .u64 i, .int .u64 s, .int .u64 m, .int .u64 c, .int .u64 u, .int .u64 t, .bool d])]).run Try.prog w = .ok (.slice (some ⟨w.heap.size, 0, none⟩) 1 1) (w.alloc (.cells #[.int .u64 i, .int .u64 s, .int .u64 m, .int .u64 c, .int .u64 u, .int .u64 t, .bool d] 61)) := by kernel_rfl
set_option maxHeartbeats 1000000 in
/-- The document's look at a book with nothing in it. -/
theorem rview0 {w : World} {p : Nat} {s : Int} {own peer : Rm} (R : Row w p (rcells s own peer) 103) : Calls Try.prog 26 #[pt p 0] w fun e w' => ∃ g, e = .returned (.slice (some ⟨g, 0, none⟩) 1 1) ∧ w.heap.size ≤ g ∧ Row w' g ((⟨0, peer.all, 0, 0, own.all⟩ : Ac).vcells 0 false) 61 ∧ Below w.heap.size w w' := by
  have c7 := R.cell 7 _ rfl
  have c8 := R.cell 8 _ rfl
  have c9 := R.cell 9 _ rfl
  have c10 := R.cell 10 _ rfl
  have c11 := R.cell 11 _ rfl
  have c12 := R.cell 12 _ rfl
  have c13 := R.cell 13 _ rfl
  have c14 := R.cell 14 _ rfl
  have c15 := R.cell 15 _ rfl
  have hb := bsl61
  have hV := rview_any w 0 0 peer.all 0 0 own.all false false
  clear R
  go_enter Try.func26, Try.ntmps26
  go_upto_region 2 with (go_at_call 50; refine hV.mono ?_; rintro e w1 ⟨rfl, hb1⟩; have HB1 := hid2 hb1; have d15 := cell_kept hb1 c15; clear hb1)
  refine wp_world ?_
  intro w2 hw2
  have hb2 : Below w1.heap.size w1 w2 := by rw [hw2.out]; exact below_box w1 _
  have hR2 : Hid (Row w2 w1.heap.size ((⟨0, peer.all, 0, 0, own.all⟩ : Ac).vcells 0 false) 61) := by show Row _ _ _ _; rw [hw2.out]; exact Row.new w1 _ 61
  have e15 := cell_kept hb2 d15
  have HB2 := hid2 (HB1.out.trans (hb2.mono HB1.out.size))
  have HZ := hid2 HB1.out.size
  clear hb2 hw2 c7 c8 c9 c10 c11 c12 c13 c14 c15 d15 HB1 hV hb
  go_wp2
  refine wp_loop_rounds 1 ?_
  rw [rounds_succ]
  go_wp2
  refine wp_loop_rounds 1 ?_
  rw [rounds_succ]
  go_wp2
  go_ret
  exact ⟨_, rfl, HZ.out, hR2.out, HB2.out⟩
end Go.Proofs.Ytahkbklhngiloaa
