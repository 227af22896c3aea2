import Derived.Test.YtdbdiebgjnofgaaRr1
namespace Go.Proofs.Ytdbdiebgjnofgaa
open Go.RowKit Go.Maps Go.Sort
set_option maxRecDepth 100000

def OnAns2 (w : World) (L : List Pv) (e : Ending) (w' : World) : Prop := Below w.heap.size w w' ∧ ∃ c : Nat, e = .returned (.func (.func 55) #[] #[.pointer (some ⟨c, 0, none⟩)]) ∧ w'.cell? ⟨c, 0, none⟩ = some (.bool (oth L)) ∧ w.heap.size ≤ c
theorem oncall2_any {w : World} {a : Option Addr} {L : List Pv} (hA : PathsAt w a L) (n cap : Nat) (hn : L.length = n) (hsz : n ≤ 140737488355328) : Calls Try.prog 50 #[.slice a n cap] w fun e w' => OnAns2 w L e w' := by
  have HI := hid (contains_none hA n cap hn hsz (f := 54) (T := Pv.plain) (fun w' p _ => plain_any w' p) eg54)
  clear hA hn
  go_enter Try.func50, Try.ntmps50
  go_wp2_with (go_at_call 53; refine HI.out.mono ?_; rintro e w' ⟨rfl, hb⟩; have HB := hid hb; clear hb)
  go_ret
  refine ⟨?_, _, rfl, ?_, HB.out.size⟩
  · exact HB.out.alloc HB.out.size _
  · simp [oth, go_sem]
/-- The cells of a ready's test. -/
structure Tst (w : World) (L : List Pv) (c d : Nat) : Prop where
  c : w.cell? ⟨c, 0, none⟩ = some (.func (.func 55) #[] #[.pointer (some ⟨d, 0, none⟩)])
  d : w.cell? ⟨d, 0, none⟩ = some (.bool (oth L))
theorem Tst.isT {w : World} {L : List Pv} {c d : Nat} (h : Tst w L c d) : IsT w 51 [.pointer (some ⟨c, 0, none⟩)] (rdy L) := fun w' p hb => rdy1_any w' p (cell_kept hb h.c) (cell_kept hb h.d)
theorem Tst.kept {w w' : World} {L : List Pv} {c d : Nat} (h : Tst w L c d) (hb : Below w.heap.size w w') : Tst w' L c d := ⟨cell_kept hb h.c, cell_kept hb h.d⟩
theorem Tst.fr {w w' : World} {L : List Pv} {c d : Nat} {S : Nat → Prop} (h : Tst w L c d) (hf : Fr S w w') (hc : ¬ S c) (hd : ¬ S d) : Tst w' L c d := ⟨hf.cell h.c hc, hf.cell h.d hd⟩
def RdyAns2 (w : World) (L : List Pv) (e : Ending) (w' : World) : Prop := Below w.heap.size w w' ∧ ∃ c d : Nat, e = .returned (.func (.func 51) #[] #[.pointer (some ⟨c, 0, none⟩)]) ∧ Tst w' L c d ∧ w.heap.size ≤ c ∧ w.heap.size ≤ d
set_option maxHeartbeats 1000000 in
theorem ready2_any {w : World} {a : Option Addr} {L : List Pv} (hA : PathsAt w a L) (n cap : Nat) (hn : L.length = n) (hsz : n ≤ 140737488355328) : Calls Try.prog 47 #[.slice a n cap] w fun e w' => RdyAns2 w L e w' := by
  have HI := hid (oncall2_any hA n cap hn hsz)
  clear hA hn
  go_enter Try.func47, Try.ntmps47
  go_wp2_with (go_at_call 50; refine HI.out.mono ?_; rintro e w1 ⟨hb, d, rfl, hd, hdd⟩; have HB := hid hb; have HD := hid hd; have HDD := hid hdd; clear hb hd hdd)
  go_ret
  refine ⟨HB.out.alloc HB.out.size _, _, d, rfl, ⟨by simp [go_sem], cell_kept ((Below.refl w1.heap.size w1).alloc (Nat.le_refl _) _) HD.out⟩, HB.out.size, HDD.out⟩
/-- What round robin's Next keeps while it runs. -/
structure SR (w : World) (x y r B : Nat) (cs : List Value) (a : Option Addr) (L : List Pv) (ws : List Int) (wa : Option Addr) (wc : Nat) (t l : Int) (w1 : World) : Prop where
  f : Fr (fun k => k = r) w w1
  v : Row w1 x cs 28
  p : Row w1 y pk0 36
  at_ : PathsAt w1 a L
  rr : RRAt w1 r B ws wa wc t l
  nx : x ≠ r
  ny : y ≠ r
  na : ∀ g o, a = some ⟨g, o, none⟩ → g ≠ r
section
variable {w : World} {x y r B : Nat} {cs : List Value} {a : Option Addr} {L : List Pv} {ws : List Int} {wa : Option Addr} {wc : Nat} {t l : Int} {w1 w2 : World}
theorem SR.kept (h : SR w x y r B cs a L ws wa wc t l w1) (hb : Below w1.heap.size w1 w2) : SR w x y r B cs a L ws wa wc t l w2 :=
  ⟨h.f.trans (fr0 (S := fun k => k = r) hb) (fun _ e => .inl e), h.v.kept hb h.v.lt, h.p.kept hb h.p.lt, h.at_.kept hb, h.rr.kept hb, h.nx, h.ny, h.na⟩
theorem SR.drawn (h : SR w x y r B cs a L ws wa wc t l w1) (k : Nat) : SR w x y r B cs a L ws wa wc t l { w1 with drawn := k } := h.kept (below_drawn (Below.refl _ _) k)
theorem SR.fr (h : SR w x y r B cs a L ws wa wc t l w1) (hf : Fr (fun k => k = r) w1 w2) {t' l' : Int} (hr : RRAt w2 r B ws wa wc t' l') : SR w x y r B cs a L ws wa wc t' l' w2 :=
  ⟨h.f.trans hf (fun _ e => .inl e), hf.row h.v h.nx, hf.row h.p h.ny, fun k hk => by obtain ⟨g, o, e, h1⟩ := h.at_ k hk; exact ⟨g, o, e, fun j v hv => hf.cell (h1 j v hv) (h.na g o e)⟩, hr, h.nx, h.ny, h.na⟩
theorem SR.cells {c0 c1 c2 c3 c4 c5 c6 c7 c8 : Value} (h : SR w x y r B [c0, c1, c2, c3, c4, c5, c6, c7, c8] a L ws wa wc t l w1) :
    w1.cell? ⟨x, 0, none⟩ = some c0 ∧ w1.cell? ⟨x, 1, none⟩ = some c1 ∧ w1.cell? ⟨x, 2, none⟩ = some c2 ∧ w1.cell? ⟨x, 3, none⟩ = some c3 ∧ w1.cell? ⟨x, 4, none⟩ = some c4 ∧ w1.cell? ⟨x, 5, none⟩ = some c5 ∧ w1.cell? ⟨x, 6, none⟩ = some c6 ∧ w1.cell? ⟨x, 7, none⟩ = some c7 ∧ w1.cell? ⟨x, 8, none⟩ = some c8 :=
  ⟨h.v.cell 0 _ rfl, h.v.cell 1 _ rfl, h.v.cell 2 _ rfl, h.v.cell 3 _ rfl, h.v.cell 4 _ rfl, h.v.cell 5 _ rfl, h.v.cell 6 _ rfl, h.v.cell 7 _ rfl, h.v.cell 8 _ rfl⟩
theorem SR.res (h : SR w x y r B cs a L ws wa wc t l w1) :
    (w1.cell? ⟨y, 0, none⟩ = some (.int .i64 0) ∧ w1.cell? ⟨y, 1, none⟩ = some (.int .u64 0) ∧ w1.cell? ⟨y, 2, none⟩ = some (.int .i64 0)) ∧ w1.frozen? ⟨y, 0, none⟩ = false ∧ w1.frozen? ⟨y, 1, none⟩ = false ∧ w1.frozen? ⟨y, 2, none⟩ = false :=
  ⟨⟨h.p.cell 0 _ rfl, h.p.cell 1 _ rfl, h.p.cell 2 _ rfl⟩, h.p.frozen 0, h.p.frozen 1, h.p.frozen 2⟩
theorem SR.setRes (h : SR w x y r B cs a L ws wa wc t l w1) (hy : w.heap.size ≤ y) (p : Pk) : Row (((w1.setCell ⟨y, 0, none⟩ (.int .i64 p.path)).setCell ⟨y, 1, none⟩ (.int .u64 p.off)).setCell ⟨y, 2, none⟩ (.int .i64 p.len)) y p.cells 36 ∧ Fr (fun k => k = r) w (((w1.setCell ⟨y, 0, none⟩ (.int .i64 p.path)).setCell ⟨y, 1, none⟩ (.int .u64 p.off)).setCell ⟨y, 2, none⟩ (.int .i64 p.len)) ∧ ((∀ g, (Value.slice wa ws.length wc).ownBlock = some g → g < w.heap.size) → RRAt (((w1.setCell ⟨y, 0, none⟩ (.int .i64 p.path)).setCell ⟨y, 1, none⟩ (.int .u64 p.off)).setCell ⟨y, 2, none⟩ (.int .i64 p.len)) r B ws wa wc t l) := by
  refine ⟨((h.p.set 0 _).set 1 _).set 2 _, ((h.f.setCell' hy _ _).setCell' hy _ _).setCell' hy _ _, fun hg => ?_⟩
  have hf : Fr (fun k => k = y) w1 (((w1.setCell ⟨y, 0, none⟩ (.int .i64 p.path)).setCell ⟨y, 1, none⟩ (.int .u64 p.off)).setCell ⟨y, 2, none⟩ (.int .i64 p.len)) :=
    ((Fr.setIn (S := fun k => k = y) (B := y) (Fr.refl _ w1) rfl 0 _).setIn (B := y) rfl 1 _).setIn (B := y) rfl 2 _
  exact ⟨hf.row h.rr.row (Ne.symm h.ny), h.rr.at_.fr hf (fun g hk e => by have := hg g hk; omega), h.rr.ne, h.rr.few, h.rr.t0, h.rr.t1, h.rr.l0, h.rr.l1⟩
end
end Go.Proofs.Ytdbdiebgjnofgaa
