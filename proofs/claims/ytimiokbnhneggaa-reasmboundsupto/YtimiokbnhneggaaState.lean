import Derived.Test.YtimiokbnhneggaaReg0
import Derived.Test.YtimiokbnhneggaaNo0
namespace Go.Proofs.Ytimiokbnhneggaa
open Go.RowKit Go.Maps Go.Sort
set_option maxRecDepth 100000

theorem wp_act {Q : Exit → Act → World → Prop} {a : Act} {w : World} {code : Code} (h : ∀ a0, Hid (a0 = a) → code.wp Try.prog Q a0 w) : code.wp Try.prog Q a w := h a rfl
section
variable {ops : Array Oper} {o : Oper} {a : Act} {w : World} {K : Act → World → Prop} {Q : Exit → Act → World → Prop}
theorem wpOp_of {P : Program} {i : Nat} (ho : ops[i]? = some o) (hg : o.guard = none) (h : o.wp P a w K Q) : wpOp P ops Q i K a w := by
  unfold wpOp
  rw [ho]
  simp only [Region.wanted, hg]
  exact .inl h
theorem step_move {x : Operand} {v : Value} (ho : o.op = .move x) (hx : a.eval x = v) (h : K (a.put o.dst v) w) : Oper.wp Try.prog o a w K Q :=
  step_value (w' := w) (by generalize a.eval = r at *; simp [execOp, ho, hx, go_sem]) h
theorem step_nilc {x : Operand} {ad : Addr} (ho : o.op = .nilCheck x) (hx : a.eval x = .pointer (some ad)) (h : K (a.put o.dst (.pointer (some ad))) w) : Oper.wp Try.prog o a w K Q :=
  step_value (w' := w) (by generalize a.eval = r at *; simp [execOp, ho, hx, go_sem]) h
theorem step_f570 {x : Operand} {b : Nat} (ho : o.op = .fieldAddr 57 x 0) (hx : a.eval x = .pointer (some ⟨b, 0, none⟩)) (h : K (a.put o.dst (.pointer (some ⟨b, 0, none⟩))) w) : Oper.wp Try.prog o a w K Q :=
  step_value (w' := w) (by generalize a.eval = r at *; simp [execOp, ho, hx, go_sem]) h
theorem step_f572 {x : Operand} {b : Nat} (ho : o.op = .fieldAddr 57 x 2) (hx : a.eval x = .pointer (some ⟨b, 0, none⟩)) (h : K (a.put o.dst (.pointer (some ⟨b, 2, none⟩))) w) : Oper.wp Try.prog o a w K Q :=
  step_value (w' := w) (by generalize a.eval = r at *; simp [execOp, ho, hx, go_sem]) h
theorem step_f573 {x : Operand} {b : Nat} (ho : o.op = .fieldAddr 57 x 3) (hx : a.eval x = .pointer (some ⟨b, 0, none⟩)) (h : K (a.put o.dst (.pointer (some ⟨b, 3, none⟩))) w) : Oper.wp Try.prog o a w K Q :=
  step_value (w' := w) (by generalize a.eval = r at *; simp [execOp, ho, hx, go_sem]) h
theorem step_f574 {x : Operand} {b : Nat} (ho : o.op = .fieldAddr 57 x 4) (hx : a.eval x = .pointer (some ⟨b, 0, none⟩)) (h : K (a.put o.dst (.pointer (some ⟨b, 4, none⟩))) w) : Oper.wp Try.prog o a w K Q :=
  step_value (w' := w) (by generalize a.eval = r at *; simp [execOp, ho, hx, go_sem]) h
theorem step_f575 {x : Operand} {b : Nat} (ho : o.op = .fieldAddr 57 x 5) (hx : a.eval x = .pointer (some ⟨b, 0, none⟩)) (h : K (a.put o.dst (.pointer (some ⟨b, 5, none⟩))) w) : Oper.wp Try.prog o a w K Q :=
  step_value (w' := w) (by generalize a.eval = r at *; simp [execOp, ho, hx, go_sem]) h
theorem step_f576 {x : Operand} {b : Nat} (ho : o.op = .fieldAddr 57 x 6) (hx : a.eval x = .pointer (some ⟨b, 0, none⟩)) (h : K (a.put o.dst (.pointer (some ⟨b, 6, none⟩))) w) : Oper.wp Try.prog o a w K Q :=
  step_value (w' := w) (by generalize a.eval = r at *; simp [execOp, ho, hx, go_sem]) h
theorem step_f577 {x : Operand} {b : Nat} (ho : o.op = .fieldAddr 57 x 7) (hx : a.eval x = .pointer (some ⟨b, 0, none⟩)) (h : K (a.put o.dst (.pointer (some ⟨b, 7, none⟩))) w) : Oper.wp Try.prog o a w K Q :=
  step_value (w' := w) (by generalize a.eval = r at *; simp [execOp, ho, hx, go_sem]) h
theorem step_ld28 {x : Operand} {ad : Addr} {z : Int} (ho : o.op = .load 28 x) (hx : a.eval x = .pointer (some ad)) (hc : w.cell? ad = some (.int .u64 z)) (h : K (a.put o.dst (.int .u64 z)) w) : Oper.wp Try.prog o a w K Q :=
  step_value (w' := w) (by generalize a.eval = r at *; simp [execOp, ho, hx, hc, go_sem]) h
theorem step_ld3 {x : Operand} {ad : Addr} {z : Int} (ho : o.op = .load 3 x) (hx : a.eval x = .pointer (some ad)) (hc : w.cell? ad = some (.int .i64 z)) (h : K (a.put o.dst (.int .i64 z)) w) : Oper.wp Try.prog o a w K Q :=
  step_value (w' := w) (by generalize a.eval = r at *; simp [execOp, ho, hx, hc, go_sem]) h
theorem step_ld4 {x : Operand} {ad : Addr} {z : Bool} (ho : o.op = .load 4 x) (hx : a.eval x = .pointer (some ad)) (hc : w.cell? ad = some (.bool z)) (h : K (a.put o.dst (.bool z)) w) : Oper.wp Try.prog o a w K Q :=
  step_value (w' := w) (by generalize a.eval = r at *; simp [execOp, ho, hx, hc, go_sem]) h
theorem step_gap {x y : Operand} {p : Nat} {rd gp : Int} (ho : o.op = .call { callee := .value (.func 28), args := #[x, y], argTypes := #[53, 28] }) (hx : a.eval x = .pointer (some ⟨p, 0, none⟩)) (hy : a.eval y = .int .u64 rd)
    (hc : Calls Try.prog 28 #[.pointer (some ⟨p, 0, none⟩), .int .u64 rd] w fun e w' => e = .returned (.int .u64 gp) ∧ Below w.heap.size w w') (h : ∀ w', Below w.heap.size w w' → K (a.put o.dst (.int .u64 gp)) w') : Oper.wp Try.prog o a w K Q :=
  step_callf (f := 28) (args := #[a.eval x, a.eval y]) (by simp [execOp, ho, resolve, invoke, go_sem]) (by rw [hx, hy]; exact hc) h
theorem step_callv {f : FuncId} {args : Array Value} {G : Value → World → Prop} (e : (execOp a.eval o).run Try.prog w = .ok (.enter f args) w)
    (hc : Calls Try.prog f args w fun e w' => ∃ v, e = .returned v ∧ G v w') (h : ∀ v w', G v w' → K (a.put o.dst v) w') : Oper.wp Try.prog o a w K Q := by
  unfold Oper.wp
  rw [e, Oper.upon_enter]
  refine Calls.mono hc ?_
  rintro e w' ⟨v, rfl, hg⟩
  exact h v w' hg
theorem step_rgs {x : Operand} {p : Nat} {G : Value → World → Prop} (ho : o.op = .call { callee := .value (.func 37), args := #[x], argTypes := #[53] }) (hx : a.eval x = .pointer (some ⟨p, 0, none⟩))
    (hc : Calls Try.prog 37 #[.pointer (some ⟨p, 0, none⟩)] w fun e w' => ∃ v, e = .returned v ∧ G v w') (h : ∀ v w', G v w' → K (a.put o.dst v) w') : Oper.wp Try.prog o a w K Q :=
  step_callv (f := 37) (args := #[a.eval x]) (by simp [execOp, ho, resolve, invoke, go_sem]) (by rw [hx]; exact hc) h
theorem step_build47 {y0 y1 y2 y3 y4 y5 y6 y7 : Operand} {x0 x1 x2 x3 x4 x6 : Int} {s : Option Addr} {n c : Nat} {e : Bool} (ho : o.op = .build 47 #[(0, y0), (1, y1), (2, y2), (3, y3), (4, y4), (5, y5), (6, y6), (7, y7)])
    (h0 : a.eval y0 = .int .u64 x0) (h1 : a.eval y1 = .int .i64 x1) (h2 : a.eval y2 = .int .i64 x2) (h3 : a.eval y3 = .int .u64 x3) (h4 : a.eval y4 = .int .u64 x4) (h5 : a.eval y5 = .slice s n c) (h6 : a.eval y6 = .int .u64 x6) (h7 : a.eval y7 = .bool e)
    (h : K (a.put o.dst (.agg #[.int .u64 x0, .int .i64 x1, .int .i64 x2, .int .u64 x3, .int .u64 x4, .slice s n c, .int .u64 x6, .bool e])) w) : Oper.wp Try.prog o a w K Q :=
  step_value (w' := w) (by generalize a.eval = r at *; simp [execOp, ho, h0, h1, h2, h3, h4, h5, h6, h7, go_sem]) h
theorem step_store47 {x y : Operand} {g : Nat} {c c' : List Value} (R : Row w g c 47) (ho : o.op = .store 47 x y) (hx : a.eval x = .pointer (some ⟨g, 0, none⟩)) (hy : a.eval y = .agg c'.toArray) (hl : c.length = c'.length) (h1 : ∀ v ∈ c', v.oneCell' = true) (hi : (Try.prog.info? 47).map (·.size) = some c'.length)
    (h : K (a.put o.dst undef) (w.setRow g c'.toArray)) : Oper.wp Try.prog o a w K Q := by
  have hs := R.store (P := Try.prog) 47 c' hl h1 hi
  have e : (execOp a.eval o).run Try.prog w = .ok .skip (w.setRow g c'.toArray) := by
    generalize a.eval = r at *
    simp [execOp, ho, hx, hy, hs]
  unfold Oper.wp
  rw [e]
  exact h
end
def RgAt (B : Nat) (L : List Rg) (v : Value) (w : World) : Prop := ∃ g, v = .slice (some ⟨g, 0, none⟩) L.length L.length ∧ B ≤ g ∧ w.heap[g]? = some (.cells (flat L).toArray 50 (0, 0))
theorem RgAt.kept {B : Nat} {L : List Rg} {v : Value} {w w' : World} (h : RgAt B L v w) (hb : Below w.heap.size w w') : RgAt B L v w' := by
  obtain ⟨g, h1, h2, h3⟩ := h
  exact ⟨g, h1, h2, (hb.block g (Array.getElem?_eq_some_iff.1 h3).1).trans h3⟩
def StV (F : Bf) (s : Value) : Value := .agg #[.int .u64 F.base, .int .i64 F.room, .int .i64 F.gaps, .int .u64 F.read, .int .u64 F.gap, s, .int .u64 F.fin, .bool F.ends]
def StS (B p : Nat) (F : Bf) (i : Nat) (v : Value) (w : World) : Prop :=
  if i = 27 then RgAt B F.L v w else if i = 36 then ∃ s, v = StV F s ∧ RgAt B F.L s w else
  [.pointer (some ⟨p, 0, none⟩), .pointer (some ⟨p, 0, none⟩), .pointer (some ⟨p, 2, none⟩), .int .u64 F.base, .pointer (some ⟨p, 0, none⟩), .pointer (some ⟨p, 0, none⟩), .pointer (some ⟨p, 3, none⟩), .int .i64 F.room, .pointer (some ⟨p, 0, none⟩), .pointer (some ⟨p, 0, none⟩), .pointer (some ⟨p, 4, none⟩), .int .i64 F.gaps, .pointer (some ⟨p, 0, none⟩), .pointer (some ⟨p, 0, none⟩), .pointer (some ⟨p, 5, none⟩), .int .u64 F.read, .pointer (some ⟨p, 0, none⟩), .pointer (some ⟨p, 0, none⟩), .pointer (some ⟨p, 0, none⟩), .pointer (some ⟨p, 0, none⟩), .pointer (some ⟨p, 0, none⟩), .pointer (some ⟨p, 5, none⟩), .int .u64 F.read, .int .u64 F.gap, .pointer (some ⟨p, 0, none⟩), .pointer (some ⟨p, 0, none⟩), .pointer (some ⟨p, 0, none⟩), undef, .pointer (some ⟨p, 0, none⟩), .pointer (some ⟨p, 0, none⟩), .pointer (some ⟨p, 6, none⟩), .int .u64 F.fin, .pointer (some ⟨p, 0, none⟩), .pointer (some ⟨p, 0, none⟩), .pointer (some ⟨p, 7, none⟩), .bool F.ends, undef][i]? = some v
theorem StS.kept {B p : Nat} {F : Bf} {w w' : World} (hb : Below w.heap.size w w') (i : Nat) (v : Value) (h : StS B p F i v w) : StS B p F i v w' := by
  unfold StS at *
  split
  · rename_i e; rw [if_pos e] at h; exact h.kept hb
  · rename_i e
    rw [if_neg e] at h
    split
    · rename_i e2; rw [if_pos e2] at h; obtain ⟨s, h1, h2⟩ := h; exact ⟨s, h1, h2.kept hb⟩
    · rename_i e2; rw [if_neg e2] at h; exact h
set_option maxHeartbeats 4000000 in
theorem state_any {w : World} {p b : Nat} {v : Value} {F : Bf} (h : BufR w p v b F) :
    Calls Try.prog 16 #[.pointer (some ⟨p, 0, none⟩)] w fun e w' => ∃ s, e = .returned (StV F s) ∧ RgAt w.heap.size F.L s w' ∧ Below w.heap.size w w' := by
  have H := hid h
  have hb0 : Below w.heap.size w (w.alloc (.cells #[.int .u64 0, .int .i64 0, .int .i64 0, .int .u64 0, .int .u64 0, .slice none 0 0, .int .u64 0, .bool false] 47)) := (Below.refl _ _).alloc (Nat.le_refl _) _
  have HN := hid (none_no (h.kept hb0))
  clear h
  go_enter Try.func16, Try.ntmps16
  go_upto_region 3 with (go_at_call 27; refine HN.out.mono ?_; rintro e w1 ⟨rfl, rfl⟩)
  refine wp_world fun W HW => ?_
  have HX : Hid (Row W w.heap.size [.int .u64 0, .int .i64 0, .int .i64 0, .int .u64 0, .int .u64 0, .slice none 0 0, .int .u64 0, .bool false] 47) := by show Row _ _ _ _; rw [HW.out]; exact Row.new' _ _ _ _ _ rfl rfl
  have HB : Hid (Below w.heap.size w W) := by show Below _ _ _; rw [HW.out]; exact hb0
  have HR : Hid (BufR W p v b F) := H.out.kept HB.out
  clear HW HN hb0
  refine wp_act fun A HF => ?_
  have F0 : Hid (A.tmps[0]? = some (.pointer (some ⟨p, 0, none⟩))) := by show _ = _; rw [HF.out]; rfl
  have F2 : Hid (A.tmps[2]? = some (.pointer (some ⟨w.heap.size, 0, none⟩))) := by show _ = _; rw [HF.out]; rfl
  have FS : Hid (A.tmps.size = 43) := by show _ = _; rw [HF.out]; rfl
  have FD : Hid (A.defers = []) := by show _ = _; rw [HF.out]
  clear HF
  refine wp_region_any (by kernel_rfl) ?_
  refine wpAny_last 37 rfl (by decide +kernel) (by decide +kernel) (fun _ wx => Below W.heap.size W wx) (StS w.heap.size p F) (below_drawn (Below.refl _ _) _) ?step ?last
  case last =>
    intro l af wx h hall
    obtain ⟨v36, hv36, s36⟩ := h.new 36 _ 42 (hall 36 (by decide)) rfl rfl
    obtain ⟨s, rfl, hs⟩ : ∃ s, v36 = StV F s ∧ RgAt w.heap.size F.L s wx := s36
    have hX := HX.out.kept h.bel HX.out.lt
    have e2 : af.eval (.tmp 2) = .pointer (some ⟨w.heap.size, 0, none⟩) := h.oldv (t := 2) (by decide +kernel) F2.out
    obtain ⟨g, rfl, hg, hgr⟩ := hs
    have hgne : w.heap.size ≠ g := fun e => by
      rw [← e, hX.at_] at hgr
      injection hgr with hgr
      injection hgr with _ hgr
      cases hgr
    refine wpOp_of rfl rfl ?_
    refine step_store47 (c' := [.int .u64 F.base, .int .i64 F.room, .int .i64 F.gaps, .int .u64 F.read, .int .u64 F.gap, .slice (some ⟨g, 0, none⟩) F.L.length F.L.length, .int .u64 F.fin, .bool F.ends]) hX rfl e2 (eval_tmp hv36) rfl (by intro v hv; simp at hv; rcases hv with rfl | rfl | rfl | rfl | rfl | rfl | rfl | rfl <;> rfl) i47 ?_
    have hd : af.defers = [] := h.defers.trans FD.out
    have hbx : Below w.heap.size w wx := HB.out.trans (h.bel.mono HB.out.size)
    generalize hw5 : wx.setRow w.heap.size _ = w5
    have e5 : (af.put none undef) = af := rfl
    show Exit.then _ _ Exit.normal (af.put none undef) w5
    rw [e5]
    clear e5
    go_wp2_with fail
    rw [← hw5]
    refine bodyPost_ret ((hX.row [.int .u64 F.base, .int .i64 F.room, .int .i64 F.gaps, .int .u64 F.read, .int .u64 F.gap, .slice (some ⟨g, 0, none⟩) F.L.length F.L.length, .int .u64 F.fin, .bool F.ends]).result Try.results16 _ e2 _ Try.underlying47 rfl i47) hd ?_
    exact ⟨_, rfl, ⟨g, rfl, hg, by rw [setRow_other wx w.heap.size g _ (fun e => hgne e.symm)]; exact hgr⟩, below_setRow hbx (Nat.le_refl _) _⟩
  case step =>
    intro l af wx i h hi37 hf hm
    have hR := HR.out.kept h.bel
    have c2 := hR.row.cell 2 _ rfl
    have c3 := hR.row.cell 3 _ rfl
    have c4 := hR.row.cell 4 _ rfl
    have c5 := hR.row.cell 5 _ rfl
    have c6 := hR.row.cell 6 _ rfl
    have c7 := hR.row.cell 7 _ rfl
    rcases (show i = 0 ∨ i = 1 ∨ i = 2 ∨ i = 3 ∨ i = 4 ∨ i = 5 ∨ i = 6 ∨ i = 7 ∨ i = 8 ∨ i = 9 ∨ i = 10 ∨ i = 11 ∨ i = 12 ∨ i = 13 ∨ i = 14 ∨ i = 15 ∨ i = 16 ∨ i = 17 ∨ i = 18 ∨ i = 19 ∨ i = 20 ∨ i = 21 ∨ i = 22 ∨ i = 23 ∨ i = 24 ∨ i = 25 ∨ i = 26 ∨ i = 27 ∨ i = 28 ∨ i = 29 ∨ i = 30 ∨ i = 31 ∨ i = 32 ∨ i = 33 ∨ i = 34 ∨ i = 35 ∨ i = 36 by omega) with rfl | rfl | rfl | rfl | rfl | rfl | rfl | rfl | rfl | rfl | rfl | rfl | rfl | rfl | rfl | rfl | rfl | rfl | rfl | rfl | rfl | rfl | rfl | rfl | rfl | rfl | rfl | rfl | rfl | rfl | rfl | rfl | rfl | rfl | rfl | rfl | rfl
    · refine wpOp_of rfl rfl ?_
      refine step_move rfl (h.oldv (t := 0) (by decide +kernel) F0.out) ?_
      exact h.step rfl rfl (by rw [FS.out]; decide) (by decide +kernel) rfl h.bel (fun _ _ _ q => q)
    · refine wpOp_of rfl rfl ?_
      obtain ⟨va, ea, sva⟩ := h.val hm rfl (j := 0) rfl rfl (by decide +kernel)
      obtain rfl : va = .pointer (some ⟨p, 0, none⟩) := (Option.some.inj sva).symm
      refine step_nilc rfl ea ?_
      exact h.step rfl rfl (by rw [FS.out]; decide) (by decide +kernel) rfl h.bel (fun _ _ _ q => q)
    · refine wpOp_of rfl rfl ?_
      obtain ⟨va, ea, sva⟩ := h.val hm rfl (j := 1) rfl rfl (by decide +kernel)
      obtain rfl : va = .pointer (some ⟨p, 0, none⟩) := (Option.some.inj sva).symm
      refine step_f572 rfl ea ?_
      exact h.step rfl rfl (by rw [FS.out]; decide) (by decide +kernel) rfl h.bel (fun _ _ _ q => q)
    · refine wpOp_of rfl rfl ?_
      obtain ⟨va, ea, sva⟩ := h.val hm rfl (j := 2) rfl rfl (by decide +kernel)
      obtain rfl : va = .pointer (some ⟨p, 2, none⟩) := (Option.some.inj sva).symm
      refine step_ld28 rfl ea c2 ?_
      exact h.step rfl rfl (by rw [FS.out]; decide) (by decide +kernel) rfl h.bel (fun _ _ _ q => q)
    · refine wpOp_of rfl rfl ?_
      refine step_move rfl (h.oldv (t := 0) (by decide +kernel) F0.out) ?_
      exact h.step rfl rfl (by rw [FS.out]; decide) (by decide +kernel) rfl h.bel (fun _ _ _ q => q)
    · refine wpOp_of rfl rfl ?_
      obtain ⟨va, ea, sva⟩ := h.val hm rfl (j := 4) rfl rfl (by decide +kernel)
      obtain rfl : va = .pointer (some ⟨p, 0, none⟩) := (Option.some.inj sva).symm
      refine step_nilc rfl ea ?_
      exact h.step rfl rfl (by rw [FS.out]; decide) (by decide +kernel) rfl h.bel (fun _ _ _ q => q)
    · refine wpOp_of rfl rfl ?_
      obtain ⟨va, ea, sva⟩ := h.val hm rfl (j := 5) rfl rfl (by decide +kernel)
      obtain rfl : va = .pointer (some ⟨p, 0, none⟩) := (Option.some.inj sva).symm
      refine step_f573 rfl ea ?_
      exact h.step rfl rfl (by rw [FS.out]; decide) (by decide +kernel) rfl h.bel (fun _ _ _ q => q)
    · refine wpOp_of rfl rfl ?_
      obtain ⟨va, ea, sva⟩ := h.val hm rfl (j := 6) rfl rfl (by decide +kernel)
      obtain rfl : va = .pointer (some ⟨p, 3, none⟩) := (Option.some.inj sva).symm
      refine step_ld3 rfl ea c3 ?_
      exact h.step rfl rfl (by rw [FS.out]; decide) (by decide +kernel) rfl h.bel (fun _ _ _ q => q)
    · refine wpOp_of rfl rfl ?_
      refine step_move rfl (h.oldv (t := 0) (by decide +kernel) F0.out) ?_
      exact h.step rfl rfl (by rw [FS.out]; decide) (by decide +kernel) rfl h.bel (fun _ _ _ q => q)
    · refine wpOp_of rfl rfl ?_
      obtain ⟨va, ea, sva⟩ := h.val hm rfl (j := 8) rfl rfl (by decide +kernel)
      obtain rfl : va = .pointer (some ⟨p, 0, none⟩) := (Option.some.inj sva).symm
      refine step_nilc rfl ea ?_
      exact h.step rfl rfl (by rw [FS.out]; decide) (by decide +kernel) rfl h.bel (fun _ _ _ q => q)
    · refine wpOp_of rfl rfl ?_
      obtain ⟨va, ea, sva⟩ := h.val hm rfl (j := 9) rfl rfl (by decide +kernel)
      obtain rfl : va = .pointer (some ⟨p, 0, none⟩) := (Option.some.inj sva).symm
      refine step_f574 rfl ea ?_
      exact h.step rfl rfl (by rw [FS.out]; decide) (by decide +kernel) rfl h.bel (fun _ _ _ q => q)
    · refine wpOp_of rfl rfl ?_
      obtain ⟨va, ea, sva⟩ := h.val hm rfl (j := 10) rfl rfl (by decide +kernel)
      obtain rfl : va = .pointer (some ⟨p, 4, none⟩) := (Option.some.inj sva).symm
      refine step_ld3 rfl ea c4 ?_
      exact h.step rfl rfl (by rw [FS.out]; decide) (by decide +kernel) rfl h.bel (fun _ _ _ q => q)
    · refine wpOp_of rfl rfl ?_
      refine step_move rfl (h.oldv (t := 0) (by decide +kernel) F0.out) ?_
      exact h.step rfl rfl (by rw [FS.out]; decide) (by decide +kernel) rfl h.bel (fun _ _ _ q => q)
    · refine wpOp_of rfl rfl ?_
      obtain ⟨va, ea, sva⟩ := h.val hm rfl (j := 12) rfl rfl (by decide +kernel)
      obtain rfl : va = .pointer (some ⟨p, 0, none⟩) := (Option.some.inj sva).symm
      refine step_nilc rfl ea ?_
      exact h.step rfl rfl (by rw [FS.out]; decide) (by decide +kernel) rfl h.bel (fun _ _ _ q => q)
    · refine wpOp_of rfl rfl ?_
      obtain ⟨va, ea, sva⟩ := h.val hm rfl (j := 13) rfl rfl (by decide +kernel)
      obtain rfl : va = .pointer (some ⟨p, 0, none⟩) := (Option.some.inj sva).symm
      refine step_f575 rfl ea ?_
      exact h.step rfl rfl (by rw [FS.out]; decide) (by decide +kernel) rfl h.bel (fun _ _ _ q => q)
    · refine wpOp_of rfl rfl ?_
      obtain ⟨va, ea, sva⟩ := h.val hm rfl (j := 14) rfl rfl (by decide +kernel)
      obtain rfl : va = .pointer (some ⟨p, 5, none⟩) := (Option.some.inj sva).symm
      refine step_ld28 rfl ea c5 ?_
      exact h.step rfl rfl (by rw [FS.out]; decide) (by decide +kernel) rfl h.bel (fun _ _ _ q => q)
    · refine wpOp_of rfl rfl ?_
      refine step_move rfl (h.oldv (t := 0) (by decide +kernel) F0.out) ?_
      exact h.step rfl rfl (by rw [FS.out]; decide) (by decide +kernel) rfl h.bel (fun _ _ _ q => q)
    · refine wpOp_of rfl rfl ?_
      obtain ⟨va, ea, sva⟩ := h.val hm rfl (j := 16) rfl rfl (by decide +kernel)
      obtain rfl : va = .pointer (some ⟨p, 0, none⟩) := (Option.some.inj sva).symm
      refine step_nilc rfl ea ?_
      exact h.step rfl rfl (by rw [FS.out]; decide) (by decide +kernel) rfl h.bel (fun _ _ _ q => q)
    · refine wpOp_of rfl rfl ?_
      obtain ⟨va, ea, sva⟩ := h.val hm rfl (j := 17) rfl rfl (by decide +kernel)
      obtain rfl : va = .pointer (some ⟨p, 0, none⟩) := (Option.some.inj sva).symm
      refine step_f570 rfl ea ?_
      exact h.step rfl rfl (by rw [FS.out]; decide) (by decide +kernel) rfl h.bel (fun _ _ _ q => q)
    · refine wpOp_of rfl rfl ?_
      refine step_move rfl (h.oldv (t := 0) (by decide +kernel) F0.out) ?_
      exact h.step rfl rfl (by rw [FS.out]; decide) (by decide +kernel) rfl h.bel (fun _ _ _ q => q)
    · refine wpOp_of rfl rfl ?_
      obtain ⟨va, ea, sva⟩ := h.val hm rfl (j := 19) rfl rfl (by decide +kernel)
      obtain rfl : va = .pointer (some ⟨p, 0, none⟩) := (Option.some.inj sva).symm
      refine step_nilc rfl ea ?_
      exact h.step rfl rfl (by rw [FS.out]; decide) (by decide +kernel) rfl h.bel (fun _ _ _ q => q)
    · refine wpOp_of rfl rfl ?_
      obtain ⟨va, ea, sva⟩ := h.val hm rfl (j := 20) rfl rfl (by decide +kernel)
      obtain rfl : va = .pointer (some ⟨p, 0, none⟩) := (Option.some.inj sva).symm
      refine step_f575 rfl ea ?_
      exact h.step rfl rfl (by rw [FS.out]; decide) (by decide +kernel) rfl h.bel (fun _ _ _ q => q)
    · refine wpOp_of rfl rfl ?_
      obtain ⟨va, ea, sva⟩ := h.val hm rfl (j := 21) rfl rfl (by decide +kernel)
      obtain rfl : va = .pointer (some ⟨p, 5, none⟩) := (Option.some.inj sva).symm
      refine step_ld28 rfl ea c5 ?_
      exact h.step rfl rfl (by rw [FS.out]; decide) (by decide +kernel) rfl h.bel (fun _ _ _ q => q)
    · refine wpOp_of rfl rfl ?_
      obtain ⟨va, ea, sva⟩ := h.val hm rfl (j := 18) rfl rfl (by decide +kernel)
      obtain rfl : va = .pointer (some ⟨p, 0, none⟩) := (Option.some.inj sva).symm
      obtain ⟨vb, eb, svb⟩ := h.val hm rfl (j := 22) rfl rfl (by decide +kernel)
      obtain rfl : vb = .int .u64 F.read := (Option.some.inj svb).symm
      obtain ⟨av, cv, rfl, V⟩ := hR.view
      refine step_gap rfl ea eb (gap_any F.read V hR.ok.fit) fun w' hb' => ?_
      exact h.step rfl rfl (by rw [FS.out]; decide) (by decide +kernel) rfl (h.bel.trans (hb'.mono h.bel.size)) (fun j v _ q => StS.kept hb' j v q)
    · refine wpOp_of rfl rfl ?_
      refine step_move rfl (h.oldv (t := 0) (by decide +kernel) F0.out) ?_
      exact h.step rfl rfl (by rw [FS.out]; decide) (by decide +kernel) rfl h.bel (fun _ _ _ q => q)
    · refine wpOp_of rfl rfl ?_
      obtain ⟨va, ea, sva⟩ := h.val hm rfl (j := 24) rfl rfl (by decide +kernel)
      obtain rfl : va = .pointer (some ⟨p, 0, none⟩) := (Option.some.inj sva).symm
      refine step_nilc rfl ea ?_
      exact h.step rfl rfl (by rw [FS.out]; decide) (by decide +kernel) rfl h.bel (fun _ _ _ q => q)
    · refine wpOp_of rfl rfl ?_
      obtain ⟨va, ea, sva⟩ := h.val hm rfl (j := 25) rfl rfl (by decide +kernel)
      obtain rfl : va = .pointer (some ⟨p, 0, none⟩) := (Option.some.inj sva).symm
      refine step_f570 rfl ea ?_
      exact h.step rfl rfl (by rw [FS.out]; decide) (by decide +kernel) rfl h.bel (fun _ _ _ q => q)
    · refine wpOp_of rfl rfl ?_
      obtain ⟨va, ea, sva⟩ := h.val hm rfl (j := 26) rfl rfl (by decide +kernel)
      obtain rfl : va = .pointer (some ⟨p, 0, none⟩) := (Option.some.inj sva).symm
      obtain ⟨av, cv, rfl, V⟩ := hR.view
      refine step_rgs (G := fun v w' => RgAt wx.heap.size F.L v w' ∧ Below wx.heap.size wx w') rfl ea ((ranges_any V (by have := hR.ok.len; omega)).mono ?_) fun v w' ⟨hv, hb'⟩ => ?_
      · rintro e w' ⟨g, rfl, hg, hr, hb'⟩
        exact ⟨_, rfl, ⟨g, rfl, hg, hr⟩, hb'⟩
      · refine h.step rfl rfl (by rw [FS.out]; decide) (by decide +kernel) ?_ (h.bel.trans (hb'.mono h.bel.size)) (fun j v _ q => StS.kept hb' j v q)
        obtain ⟨g, h1, h2, h3⟩ := hv
        exact ⟨g, h1, Nat.le_trans (Nat.le_trans HB.out.size h.bel.size) h2, h3⟩
    · refine wpOp_of rfl rfl ?_
      refine step_move rfl (h.oldv (t := 0) (by decide +kernel) F0.out) ?_
      exact h.step rfl rfl (by rw [FS.out]; decide) (by decide +kernel) rfl h.bel (fun _ _ _ q => q)
    · refine wpOp_of rfl rfl ?_
      obtain ⟨va, ea, sva⟩ := h.val hm rfl (j := 28) rfl rfl (by decide +kernel)
      obtain rfl : va = .pointer (some ⟨p, 0, none⟩) := (Option.some.inj sva).symm
      refine step_nilc rfl ea ?_
      exact h.step rfl rfl (by rw [FS.out]; decide) (by decide +kernel) rfl h.bel (fun _ _ _ q => q)
    · refine wpOp_of rfl rfl ?_
      obtain ⟨va, ea, sva⟩ := h.val hm rfl (j := 29) rfl rfl (by decide +kernel)
      obtain rfl : va = .pointer (some ⟨p, 0, none⟩) := (Option.some.inj sva).symm
      refine step_f576 rfl ea ?_
      exact h.step rfl rfl (by rw [FS.out]; decide) (by decide +kernel) rfl h.bel (fun _ _ _ q => q)
    · refine wpOp_of rfl rfl ?_
      obtain ⟨va, ea, sva⟩ := h.val hm rfl (j := 30) rfl rfl (by decide +kernel)
      obtain rfl : va = .pointer (some ⟨p, 6, none⟩) := (Option.some.inj sva).symm
      refine step_ld28 rfl ea c6 ?_
      exact h.step rfl rfl (by rw [FS.out]; decide) (by decide +kernel) rfl h.bel (fun _ _ _ q => q)
    · refine wpOp_of rfl rfl ?_
      refine step_move rfl (h.oldv (t := 0) (by decide +kernel) F0.out) ?_
      exact h.step rfl rfl (by rw [FS.out]; decide) (by decide +kernel) rfl h.bel (fun _ _ _ q => q)
    · refine wpOp_of rfl rfl ?_
      obtain ⟨va, ea, sva⟩ := h.val hm rfl (j := 32) rfl rfl (by decide +kernel)
      obtain rfl : va = .pointer (some ⟨p, 0, none⟩) := (Option.some.inj sva).symm
      refine step_nilc rfl ea ?_
      exact h.step rfl rfl (by rw [FS.out]; decide) (by decide +kernel) rfl h.bel (fun _ _ _ q => q)
    · refine wpOp_of rfl rfl ?_
      obtain ⟨va, ea, sva⟩ := h.val hm rfl (j := 33) rfl rfl (by decide +kernel)
      obtain rfl : va = .pointer (some ⟨p, 0, none⟩) := (Option.some.inj sva).symm
      refine step_f577 rfl ea ?_
      exact h.step rfl rfl (by rw [FS.out]; decide) (by decide +kernel) rfl h.bel (fun _ _ _ q => q)
    · refine wpOp_of rfl rfl ?_
      obtain ⟨va, ea, sva⟩ := h.val hm rfl (j := 34) rfl rfl (by decide +kernel)
      obtain rfl : va = .pointer (some ⟨p, 7, none⟩) := (Option.some.inj sva).symm
      refine step_ld4 rfl ea c7 ?_
      exact h.step rfl rfl (by rw [FS.out]; decide) (by decide +kernel) rfl h.bel (fun _ _ _ q => q)
    · refine wpOp_of rfl rfl ?_
      obtain ⟨va, ea, sva⟩ := h.val hm rfl (j := 3) rfl rfl (by decide +kernel)
      obtain rfl : va = .int .u64 F.base := (Option.some.inj sva).symm
      obtain ⟨vb, eb, svb⟩ := h.val hm rfl (j := 7) rfl rfl (by decide +kernel)
      obtain rfl : vb = .int .i64 F.room := (Option.some.inj svb).symm
      obtain ⟨vc, ec, svc⟩ := h.val hm rfl (j := 11) rfl rfl (by decide +kernel)
      obtain rfl : vc = .int .i64 F.gaps := (Option.some.inj svc).symm
      obtain ⟨vd, ed, svd⟩ := h.val hm rfl (j := 15) rfl rfl (by decide +kernel)
      obtain rfl : vd = .int .u64 F.read := (Option.some.inj svd).symm
      obtain ⟨ve, ee, sve⟩ := h.val hm rfl (j := 23) rfl rfl (by decide +kernel)
      obtain rfl : ve = .int .u64 F.gap := (Option.some.inj sve).symm
      obtain ⟨vf, ef, sf⟩ := h.val hm rfl (j := 27) rfl rfl (by decide +kernel)
      obtain ⟨g, rfl, hg, hgr⟩ : RgAt w.heap.size F.L vf wx := sf
      obtain ⟨vg, eg, svg⟩ := h.val hm rfl (j := 31) rfl rfl (by decide +kernel)
      obtain rfl : vg = .int .u64 F.fin := (Option.some.inj svg).symm
      obtain ⟨vh, eh, svh⟩ := h.val hm rfl (j := 35) rfl rfl (by decide +kernel)
      obtain rfl : vh = .bool F.ends := (Option.some.inj svh).symm
      refine step_build47 rfl ea eb ec ed ee ef eg eh ?_
      exact h.step rfl rfl (by rw [FS.out]; decide) (by decide +kernel) ⟨_, rfl, g, rfl, hg, hgr⟩ h.bel (fun _ _ _ q => q)
end Go.Proofs.Ytimiokbnhneggaa
