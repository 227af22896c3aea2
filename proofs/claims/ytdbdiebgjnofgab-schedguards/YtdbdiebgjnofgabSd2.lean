import Derived.Test.YtdbdiebgjnofgabSd1
import Derived.WideLaws
import Derived.Laws.EntriesVeiled
namespace Go.Proofs.Ytdbdiebgjnofgab
open Go.RowKit Go.Maps Go.Sort
set_option maxRecDepth 100000

/-- Is a path on call, with room? -/
def rdy (L : List Pv) (p : Pv) : Bool := p.call (oth L) && p.room
def RdyAns (w : World) (L : List Pv) (e : Ending) (w' : World) : Prop := Below w.heap.size w w' ∧ ∃ c : Value, e = .returned (.func (.func 103) #[] #[c]) ∧ IsT w' 103 [c] (rdy L)
set_option maxHeartbeats 1000000 in
theorem rdy1_any (w : World) (p : Pv) {c d : Nat} {o : Bool} (hc : w.cell? ⟨c, 0, none⟩ = some (.func (.func 106) #[] #[.pointer (some ⟨d, 0, none⟩)])) (hd : w.cell? ⟨d, 0, none⟩ = some (.bool o)) : Calls Try.prog 103 #[p.val, .pointer (some ⟨c, 0, none⟩)] w fun e w' => e = .returned (.bool (p.call o && p.room)) ∧ Below w.heap.size w w' := by
  have h1 := fun w' (hb : Below w.heap.size w w') => call_any w' p (cell_kept hb hd)
  have h2 := fun w' => room_any w' p
  generalize p.call o = x at *
  generalize p.room = y at *
  obtain ⟨u, b, k, s, wi, i, h, off, len, fin, on, held⟩ := p
  simp only [Pv.val, Pv.cells] at h1 h2 ⊢
  generalize Value.slice on.a on.n on.c = on at *
  have HB := hid (below_grow (Below.refl w.heap.size w) (.cells #[.bool u, .bool b, .bool k, .int .u64 s, .int .i64 wi, .int .i64 i, .bool h, .int .u64 off, .int .i64 len, .bool fin, on, .bool held] 39))
  have HR : Hid (Row (w.alloc (.cells #[.bool u, .bool b, .bool k, .int .u64 s, .int .i64 wi, .int .i64 i, .bool h, .int .u64 off, .int .i64 len, .bool fin, on, .bool held] 39)) w.heap.size [.bool u, .bool b, .bool k, .int .u64 s, .int .i64 wi, .int .i64 i, .bool h, .int .u64 off, .int .i64 len, .bool fin, on, .bool held] 39) := Row.new _ _ _
  have hl := World.block_lt_of_cell? w _ hc
  have c1 := cell_kept HB.out hc
  have H1 := hid (h1 _ HB.out)
  have H2 := hid h2
  have eg := eg55
  clear h1 h2 hd hc
  cases x
  · go_enter Try.func103, Try.ntmps103
    go_wp2_with (go_at_fn 106; refine H1.out.mono ?_; rintro e w' ⟨rfl, hb⟩; have HB1 := hid (HB.out.trans (hb.mono HB.out.size)); clear hb)
    go_ret
    exact ⟨rfl, HB1.out⟩
  · go_enter Try.func103, Try.ntmps103
    go_wp2_with (first | (go_at_fn 106; refine H1.out.mono ?_; rintro e w' ⟨rfl, hb⟩; clear c1; have HB1 := hid (HB.out.trans (hb.mono HB.out.size)); have R1 := HR.out.kept hb HR.out.lt; have d0 := R1.cell 0 _ rfl; have d1 := R1.cell 1 _ rfl; have d2 := R1.cell 2 _ rfl; have d3 := R1.cell 3 _ rfl; have d4 := R1.cell 4 _ rfl; have d5 := R1.cell 5 _ rfl; have d6 := R1.cell 6 _ rfl; have d7 := R1.cell 7 _ rfl; have d8 := R1.cell 8 _ rfl; have d9 := R1.cell 9 _ rfl; have d10 := R1.cell 10 _ rfl; have d11 := R1.cell 11 _ rfl; clear hb R1) | (go_at_call 56; refine (H2.out _).mono ?_; rintro e w' ⟨rfl, hb⟩; have HB2 := hid (HB1.out.trans (hb.mono HB1.out.size)); clear hb))
    go_ret
    exact ⟨by first | rfl | simp, HB2.out⟩
set_option maxHeartbeats 1000000 in
theorem ready_any {w : World} {a : Option Addr} {L : List Pv} (hA : PathsAt w a L) (n cap : Nat) (hn : L.length = n) (hsz : n ≤ 140737488355328) : Calls Try.prog 99 #[.slice a n cap] w fun e w' => RdyAns w L e w' := by
  have HI := hid (oncall_any hA n cap hn hsz)
  clear hA hn
  go_enter Try.func99, Try.ntmps99
  go_wp2_with (go_at_call 102; refine HI.out.mono ?_; rintro e w1 ⟨hb, d, rfl, hd⟩; have HB := hid hb; have HD := hid hd; clear hb hd)

  go_ret
  have hlt := World.block_lt_of_cell? w1 _ HD.out
  refine ⟨?_, _, rfl, ?_⟩
  · exact HB.out.alloc HB.out.size _
  · intro w' p hb
    refine rdy1_any w' p (d := d) (o := oth L) (cell_kept hb (by simp [go_sem])) (cell_kept hb ?_)
    exact cell_kept ((Below.refl w1.heap.size w1).alloc (Nat.le_refl _) _) HD.out
end Go.Proofs.Ytdbdiebgjnofgab
