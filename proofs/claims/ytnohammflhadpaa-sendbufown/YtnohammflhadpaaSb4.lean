import Derived.Test.YtnohammflhadpaaReg0
namespace Go.Proofs.Ytnohammflhadpaa
open Go.RowKit Go.Maps Go.Sort
set_option maxRecDepth 100000

/-- The cells of a chunk. -/
structure CkC (w : World) (g o : Nat) (c : Ck) : Prop where
  q0 : w.cell? ⟨g, o, none⟩ = some (.int .u64 c.off)
  q1 : w.cell? ⟨g, o + 1, none⟩ = some (.slice c.a c.bs.length c.cap)
  q2 : w.cell? ⟨g, o + 2, none⟩ = some (.bool c.fin)
  q3 : w.cell? ⟨g, o + 3, none⟩ = some (.int .u8 c.on)
  q4 : w.cell? ⟨g, o + 4, none⟩ = some (.bool c.out)
  q5 : w.cell? ⟨g, o + 5, none⟩ = some (.bool c.held)
theorem CkC.kept {w w' : World} {g o : Nat} {c : Ck} (h : CkC w g o c) (hb : Below w.heap.size w w') : CkC w' g o c := ⟨cell_kept hb h.q0, cell_kept hb h.q1, cell_kept hb h.q2, cell_kept hb h.q3, cell_kept hb h.q4, cell_kept hb h.q5⟩
theorem i32 : (Try.prog.info? 32).map (·.size) = some 5 := by kernel_rfl
theorem ownI_shape {w : World} {B : Nat} {v : Value} {l : List Int} (h : OwnI w B v l) : ∃ a c, v = .slice a l.length c := by
  rcases h.2 with ⟨rfl, hn⟩ | ⟨g', cap, cur, rfl, _⟩
  · exact ⟨none, 0, by rw [hn]⟩
  · exact ⟨_, _, rfl⟩
theorem ownI_less {w : World} {B C : Nat} {v : Value} {l : List Int} (h : OwnI w B v l) (hc : C ≤ B) : OwnI w C v l := by
  refine ⟨h.1, ?_⟩
  rcases h.2 with e | ⟨g, cap, cur, hv, h1, h2⟩
  · exact .inl e
  · exact .inr ⟨g, cap, cur, hv, Nat.le_trans hc h1, h2⟩
theorem ownI_set {w : World} {B : Nat} {v : Value} {l : List Int} (h : OwnI w B v l) {k : Nat} (hk : k < B) (cs : Array Value) : OwnI (w.setRow k cs) B v l := by
  refine ⟨h.1, ?_⟩
  rcases h.2 with e | ⟨g, cap, cur, hv, h1, hg, h2⟩
  · exact .inl e
  · exact .inr ⟨g, cap, cur, hv, h1, by rw [setRow_other w k g _ (by omega)]; exact hg, h2⟩
theorem wp_act {Q : Exit → Act → World → Prop} {a : Act} {w : World} {code : Code} (h : ∀ a0, Hid (a0 = a) → code.wp Try.prog Q a0 w) : code.wp Try.prog Q a w := h a rfl
section
variable {ops : Array Oper} {o : Oper} {a : Act} {w : World} {K : Act → World → Prop} {Q : Exit → Act → World → Prop}
theorem wpOp_of {P : Program} {i : Nat} (ho : ops[i]? = some o) (hg : o.guard = none) (h : o.wp P a w K Q) : wpOp P ops Q i K a w := by
  unfold wpOp
  rw [ho]
  simp only [Region.wanted, hg]
  exact .inl h
theorem step_move {x : Operand} {v : Value} (ho : o.op = .move x) (hx : a.eval x = v) (h : K (a.put o.dst v) w) : Oper.wp Try.prog o a w K Q :=
  step_value (w' := w) (by generalize a.eval = r at *; simp [execOp, ho, hx, go_sem]) h
theorem step_nilc {x : Operand} {ad : Addr} (ho : o.op = .nilCheck x) (hx : a.eval x = .pointer (some ad)) (h : K (a.put o.dst (.pointer (some ad))) w) : Oper.wp Try.prog o a w K Q :=
  step_value (w' := w) (by generalize a.eval = r at *; simp [execOp, ho, hx, go_sem]) h
theorem step_f780 {x : Operand} {b p : Nat} (ho : o.op = .fieldAddr 78 x 0) (hx : a.eval x = .pointer (some ⟨b, p, none⟩)) (h : K (a.put o.dst (.pointer (some ⟨b, p, none⟩))) w) : Oper.wp Try.prog o a w K Q :=
  step_value (w' := w) (by generalize a.eval = r at *; simp [execOp, ho, hx, go_sem]) h
theorem step_f781 {x : Operand} {b p : Nat} (ho : o.op = .fieldAddr 78 x 1) (hx : a.eval x = .pointer (some ⟨b, p, none⟩)) (h : K (a.put o.dst (.pointer (some ⟨b, p + 1, none⟩))) w) : Oper.wp Try.prog o a w K Q :=
  step_value (w' := w) (by generalize a.eval = r at *; simp [execOp, ho, hx, go_sem]) h
theorem step_f782 {x : Operand} {b p : Nat} (ho : o.op = .fieldAddr 78 x 2) (hx : a.eval x = .pointer (some ⟨b, p, none⟩)) (h : K (a.put o.dst (.pointer (some ⟨b, p + 2, none⟩))) w) : Oper.wp Try.prog o a w K Q :=
  step_value (w' := w) (by generalize a.eval = r at *; simp [execOp, ho, hx, go_sem]) h
theorem step_f783 {x : Operand} {b p : Nat} (ho : o.op = .fieldAddr 78 x 3) (hx : a.eval x = .pointer (some ⟨b, p, none⟩)) (h : K (a.put o.dst (.pointer (some ⟨b, p + 3, none⟩))) w) : Oper.wp Try.prog o a w K Q :=
  step_value (w' := w) (by generalize a.eval = r at *; simp [execOp, ho, hx, go_sem]) h
theorem step_f785 {x : Operand} {b p : Nat} (ho : o.op = .fieldAddr 78 x 5) (hx : a.eval x = .pointer (some ⟨b, p, none⟩)) (h : K (a.put o.dst (.pointer (some ⟨b, p + 5, none⟩))) w) : Oper.wp Try.prog o a w K Q :=
  step_value (w' := w) (by generalize a.eval = r at *; simp [execOp, ho, hx, go_sem]) h
theorem step_ld22 {x : Operand} {ad : Addr} {z : Int} (ho : o.op = .load 22 x) (hx : a.eval x = .pointer (some ad)) (hc : w.cell? ad = some (.int .u64 z)) (h : K (a.put o.dst (.int .u64 z)) w) : Oper.wp Try.prog o a w K Q :=
  step_value (w' := w) (by generalize a.eval = r at *; simp [execOp, ho, hx, hc, go_sem]) h
theorem step_ld76 {x : Operand} {ad : Addr} {z : Int} (ho : o.op = .load 76 x) (hx : a.eval x = .pointer (some ad)) (hc : w.cell? ad = some (.int .u8 z)) (h : K (a.put o.dst (.int .u8 z)) w) : Oper.wp Try.prog o a w K Q :=
  step_value (w' := w) (by generalize a.eval = r at *; simp [execOp, ho, hx, hc, go_sem]) h
theorem step_ld4 {x : Operand} {ad : Addr} {z : Bool} (ho : o.op = .load 4 x) (hx : a.eval x = .pointer (some ad)) (hc : w.cell? ad = some (.bool z)) (h : K (a.put o.dst (.bool z)) w) : Oper.wp Try.prog o a w K Q :=
  step_value (w' := w) (by generalize a.eval = r at *; simp [execOp, ho, hx, hc, go_sem]) h
theorem step_ld25 {x : Operand} {ad : Addr} {s : Option Addr} {n c : Nat} (ho : o.op = .load 25 x) (hx : a.eval x = .pointer (some ad)) (hc : w.cell? ad = some (.slice s n c)) (h : K (a.put o.dst (.slice s n c)) w) : Oper.wp Try.prog o a w K Q :=
  step_value (w' := w) (by generalize a.eval = r at *; simp [execOp, ho, hx, hc, go_sem]) h
theorem step_len25 {x : Operand} {s : Option Addr} {n c : Nat} (ho : o.op = .call { callee := .builtin .len, args := #[x], argTypes := #[25] }) (hx : a.eval x = .slice s n c) (h : K (a.put o.dst (.int .i64 n)) w) : Oper.wp Try.prog o a w K Q :=
  step_value (w' := w) (by generalize a.eval = r at *; simp [execOp, ho, hx, resolve, invoke, builtin, go_sem]) h
theorem step_callv {f : FuncId} {args : Array Value} {G : Value → World → Prop} (e : (execOp a.eval o).run Try.prog w = .ok (.enter f args) w)
    (hc : Calls Try.prog f args w fun e w' => ∃ v, e = .returned v ∧ G v w') (h : ∀ v w', G v w' → K (a.put o.dst v) w') : Oper.wp Try.prog o a w K Q := by
  unfold Oper.wp
  rw [e, Oper.upon_enter]
  refine Calls.mono hc ?_
  rintro e w' ⟨v, rfl, hg⟩
  exact h v w' hg
theorem step_list {x : Operand} {z : Int} {G : Value → World → Prop} (ho : o.op = .call { callee := .value (.func 74), args := #[x], argTypes := #[76] }) (hx : a.eval x = .int .u8 z)
    (hc : Calls Try.prog 74 #[.int .u8 z] w fun e w' => ∃ v, e = .returned v ∧ G v w') (h : ∀ v w', G v w' → K (a.put o.dst v) w') : Oper.wp Try.prog o a w K Q :=
  step_callv (f := 74) (args := #[a.eval x]) (by simp [execOp, ho, resolve, invoke, go_sem]) (by rw [hx]; exact hc) h
theorem step_build32 {y0 y1 y2 y3 y4 : Operand} {x0 x1 : Int} {s : Option Addr} {n c : Nat} {e2 e4 : Bool} (ho : o.op = .build 32 #[(0, y0), (1, y1), (2, y2), (3, y3), (4, y4)])
    (h0 : a.eval y0 = .int .u64 x0) (h1 : a.eval y1 = .int .i64 x1) (h2 : a.eval y2 = .bool e2) (h3 : a.eval y3 = .slice s n c) (h4 : a.eval y4 = .bool e4)
    (h : K (a.put o.dst (.agg #[.int .u64 x0, .int .i64 x1, .bool e2, .slice s n c, .bool e4])) w) : Oper.wp Try.prog o a w K Q :=
  step_value (w' := w) (by generalize a.eval = r at *; simp [execOp, ho, h0, h1, h2, h3, h4, go_sem]) h
theorem step_store32 {x y : Operand} {g : Nat} {c c' : List Value} (R : Row w g c 32) (ho : o.op = .store 32 x y) (hx : a.eval x = .pointer (some ⟨g, 0, none⟩)) (hy : a.eval y = .agg c'.toArray) (hl : c.length = c'.length) (h1 : ∀ v ∈ c', v.oneCell' = true) (hi : (Try.prog.info? 32).map (·.size) = some c'.length)
    (h : K (a.put o.dst undef) (w.setRow g c'.toArray)) : Oper.wp Try.prog o a w K Q := by
  have hs := R.store (P := Try.prog) 32 c' hl h1 hi
  have e : (execOp a.eval o).run Try.prog w = .ok .skip (w.setRow g c'.toArray) := by
    generalize a.eval = r at *
    simp [execOp, ho, hx, hy, hs]
  unfold Oper.wp
  rw [e]
  exact h
end
/-- A chunk as it is told. -/
def ChV (c : Ck) (s : Value) : Value := .agg #[.int .u64 c.off, .int .i64 c.bs.length, .bool c.fin, s, .bool c.held]
def ShS (B g o : Nat) (c : Ck) (i : Nat) (v : Value) (w : World) : Prop :=
  if i = 17 then OwnI w B v (onUp c.on 8) else if i = 22 then ∃ s, v = ChV c s ∧ OwnI w B s (onUp c.on 8) else
  ([.pointer (some ⟨g, o, none⟩), .pointer (some ⟨g, o, none⟩), .pointer (some ⟨g, o, none⟩), .int .u64 c.off, .pointer (some ⟨g, o, none⟩), .pointer (some ⟨g, o, none⟩), .pointer (some ⟨g, o + 1, none⟩), .slice c.a c.bs.length c.cap, .int .i64 c.bs.length, .pointer (some ⟨g, o, none⟩), .pointer (some ⟨g, o, none⟩), .pointer (some ⟨g, o + 2, none⟩), .bool c.fin, .pointer (some ⟨g, o, none⟩), .pointer (some ⟨g, o, none⟩), .pointer (some ⟨g, o + 3, none⟩), .int .u8 c.on, undef, .pointer (some ⟨g, o, none⟩), .pointer (some ⟨g, o, none⟩), .pointer (some ⟨g, o + 5, none⟩), .bool c.held, undef] : List Value)[i]? = some v
theorem ShS.kept {B g o : Nat} {c : Ck} {w w' : World} (hb : Below w.heap.size w w') (i : Nat) (v : Value) (h : ShS B g o c i v w) : ShS B g o c i v w' := by
  unfold ShS at *
  split
  · rename_i e; rw [if_pos e] at h; exact ownI_kept h hb
  · rename_i e
    rw [if_neg e] at h
    split
    · rename_i e2; rw [if_pos e2] at h; obtain ⟨s, h1, h2⟩ := h; exact ⟨s, h1, ownI_kept h2 hb⟩
    · rename_i e2; rw [if_neg e2] at h; exact h
set_option maxHeartbeats 4000000 in
theorem shown_any {w : World} {g o : Nat} {c : Ck} (h : CkC w g o c) :
    Calls Try.prog 45 #[.pointer (some ⟨g, o, none⟩)] w fun e w' => ∃ s, e = .returned (ChV c s) ∧ OwnI w' w.heap.size s (onUp c.on 8) ∧ Below w.heap.size w w' := by
  have H := hid h
  have hb0 : Below w.heap.size w (w.alloc (.cells #[.int .u64 0, .int .i64 0, .bool false, .slice none 0 0, .bool false] 32)) := (Below.refl _ _).alloc (Nat.le_refl _) _
  clear h
  go_enter Try.func45, Try.ntmps45
  go_upto_region 1 with fail
  refine wp_world fun W HW => ?_
  have HX : Hid (Row W w.heap.size [.int .u64 0, .int .i64 0, .bool false, .slice none 0 0, .bool false] 32) := by show Row _ _ _ _; rw [HW.out]; exact Row.new' _ _ _ _ _ rfl rfl
  have HB : Hid (Below w.heap.size w W) := by show Below _ _ _; rw [HW.out]; exact hb0
  have HR : Hid (CkC W g o c) := H.out.kept HB.out
  clear HW hb0
  refine wp_act fun A HF => ?_
  have F0 : Hid (A.tmps[0]? = some (.pointer (some ⟨g, o, none⟩))) := by show _ = _; rw [HF.out]; rfl
  have F2 : Hid (A.tmps[2]? = some (.pointer (some ⟨w.heap.size, 0, none⟩))) := by show _ = _; rw [HF.out]; rfl
  have FS : Hid (A.tmps.size = 26) := by show _ = _; rw [HF.out]; rfl
  have FD : Hid (A.defers = []) := by show _ = _; rw [HF.out]
  clear HF
  refine wp_region_any (by kernel_rfl) ?_
  refine wpAny_last 23 rfl (by decide +kernel) (by decide +kernel) (fun _ wx => Below W.heap.size W wx) (ShS W.heap.size g o c) (below_drawn (Below.refl _ _) _) ?step ?last
  case last =>
    intro l af wx h hall
    obtain ⟨v22, hv22, s22⟩ := h.new 22 _ 25 (hall 22 (by decide)) rfl rfl
    obtain ⟨s, rfl, hs⟩ : ∃ s, v22 = ChV c s ∧ OwnI wx W.heap.size s (onUp c.on 8) := s22
    have hX := HX.out.kept h.bel HX.out.lt
    have e2 : af.eval (.tmp 2) = .pointer (some ⟨w.heap.size, 0, none⟩) := h.oldv (t := 2) (by decide +kernel) F2.out
    obtain ⟨sa, sc, rfl⟩ := ownI_shape hs
    refine wpOp_of rfl rfl ?_
    refine step_store32 (c' := [.int .u64 c.off, .int .i64 c.bs.length, .bool c.fin, .slice sa (onUp c.on 8).length sc, .bool c.held]) hX rfl e2 (eval_tmp hv22) rfl (by intro v hv; simp at hv; rcases hv with rfl | rfl | rfl | rfl | rfl <;> rfl) i32 ?_
    have hd : af.defers = [] := h.defers.trans FD.out
    have hbx : Below w.heap.size w wx := HB.out.trans (h.bel.mono HB.out.size)
    generalize hw5 : wx.setRow w.heap.size _ = w5
    have e5 : (af.put none undef) = af := rfl
    show Exit.then _ _ Exit.normal (af.put none undef) w5
    rw [e5]
    clear e5
    go_wp2_with fail
    rw [← hw5]
    refine bodyPost_ret ((hX.row [.int .u64 c.off, .int .i64 c.bs.length, .bool c.fin, .slice sa (onUp c.on 8).length sc, .bool c.held]).result Try.results45 _ e2 _ Try.underlying32 rfl i32) hd ?_
    exact ⟨_, rfl, ownI_less (ownI_set hs HX.out.lt _) HB.out.size, below_setRow hbx (Nat.le_refl _) _⟩
  case step =>
    intro l af wx i h hiN hf hm
    have hR := HR.out.kept h.bel
    have c0 := hR.q0
    have c1 := hR.q1
    have c2 := hR.q2
    have c3 := hR.q3
    have c5 := hR.q5
    rcases (show i = 0 ∨ i = 1 ∨ i = 2 ∨ i = 3 ∨ i = 4 ∨ i = 5 ∨ i = 6 ∨ i = 7 ∨ i = 8 ∨ i = 9 ∨ i = 10 ∨ i = 11 ∨ i = 12 ∨ i = 13 ∨ i = 14 ∨ i = 15 ∨ i = 16 ∨ i = 17 ∨ i = 18 ∨ i = 19 ∨ i = 20 ∨ i = 21 ∨ i = 22 by omega) with rfl | rfl | rfl | rfl | rfl | rfl | rfl | rfl | rfl | rfl | rfl | rfl | rfl | rfl | rfl | rfl | rfl | rfl | rfl | rfl | rfl | rfl | rfl
    · refine wpOp_of rfl rfl ?_
      refine step_move rfl (h.oldv (t := 0) (by decide +kernel) F0.out) ?_
      exact h.step rfl rfl (by rw [FS.out]; decide) (by decide +kernel) rfl h.bel (fun _ _ _ q => q)
    · refine wpOp_of rfl rfl ?_
      obtain ⟨va, ea, sva⟩ := h.val hm rfl (j := 0) rfl rfl (by decide +kernel)
      obtain rfl : va = .pointer (some ⟨g, o, none⟩) := (Option.some.inj sva).symm
      refine step_nilc rfl ea ?_
      exact h.step rfl rfl (by rw [FS.out]; decide) (by decide +kernel) rfl h.bel (fun _ _ _ q => q)
    · refine wpOp_of rfl rfl ?_
      obtain ⟨va, ea, sva⟩ := h.val hm rfl (j := 1) rfl rfl (by decide +kernel)
      obtain rfl : va = .pointer (some ⟨g, o, none⟩) := (Option.some.inj sva).symm
      refine step_f780 rfl ea ?_
      exact h.step rfl rfl (by rw [FS.out]; decide) (by decide +kernel) rfl h.bel (fun _ _ _ q => q)
    · refine wpOp_of rfl rfl ?_
      obtain ⟨va, ea, sva⟩ := h.val hm rfl (j := 2) rfl rfl (by decide +kernel)
      obtain rfl : va = .pointer (some ⟨g, o, none⟩) := (Option.some.inj sva).symm
      refine step_ld22 rfl ea c0 ?_
      exact h.step rfl rfl (by rw [FS.out]; decide) (by decide +kernel) rfl h.bel (fun _ _ _ q => q)
    · refine wpOp_of rfl rfl ?_
      refine step_move rfl (h.oldv (t := 0) (by decide +kernel) F0.out) ?_
      exact h.step rfl rfl (by rw [FS.out]; decide) (by decide +kernel) rfl h.bel (fun _ _ _ q => q)
    · refine wpOp_of rfl rfl ?_
      obtain ⟨va, ea, sva⟩ := h.val hm rfl (j := 4) rfl rfl (by decide +kernel)
      obtain rfl : va = .pointer (some ⟨g, o, none⟩) := (Option.some.inj sva).symm
      refine step_nilc rfl ea ?_
      exact h.step rfl rfl (by rw [FS.out]; decide) (by decide +kernel) rfl h.bel (fun _ _ _ q => q)
    · refine wpOp_of rfl rfl ?_
      obtain ⟨va, ea, sva⟩ := h.val hm rfl (j := 5) rfl rfl (by decide +kernel)
      obtain rfl : va = .pointer (some ⟨g, o, none⟩) := (Option.some.inj sva).symm
      refine step_f781 rfl ea ?_
      exact h.step rfl rfl (by rw [FS.out]; decide) (by decide +kernel) rfl h.bel (fun _ _ _ q => q)
    · refine wpOp_of rfl rfl ?_
      obtain ⟨va, ea, sva⟩ := h.val hm rfl (j := 6) rfl rfl (by decide +kernel)
      obtain rfl : va = .pointer (some ⟨g, o + 1, none⟩) := (Option.some.inj sva).symm
      refine step_ld25 rfl ea c1 ?_
      exact h.step rfl rfl (by rw [FS.out]; decide) (by decide +kernel) rfl h.bel (fun _ _ _ q => q)
    · refine wpOp_of rfl rfl ?_
      obtain ⟨va, ea, sva⟩ := h.val hm rfl (j := 7) rfl rfl (by decide +kernel)
      obtain rfl : va = .slice c.a c.bs.length c.cap := (Option.some.inj sva).symm
      refine step_len25 rfl ea ?_
      exact h.step rfl rfl (by rw [FS.out]; decide) (by decide +kernel) rfl h.bel (fun _ _ _ q => q)
    · refine wpOp_of rfl rfl ?_
      refine step_move rfl (h.oldv (t := 0) (by decide +kernel) F0.out) ?_
      exact h.step rfl rfl (by rw [FS.out]; decide) (by decide +kernel) rfl h.bel (fun _ _ _ q => q)
    · refine wpOp_of rfl rfl ?_
      obtain ⟨va, ea, sva⟩ := h.val hm rfl (j := 9) rfl rfl (by decide +kernel)
      obtain rfl : va = .pointer (some ⟨g, o, none⟩) := (Option.some.inj sva).symm
      refine step_nilc rfl ea ?_
      exact h.step rfl rfl (by rw [FS.out]; decide) (by decide +kernel) rfl h.bel (fun _ _ _ q => q)
    · refine wpOp_of rfl rfl ?_
      obtain ⟨va, ea, sva⟩ := h.val hm rfl (j := 10) rfl rfl (by decide +kernel)
      obtain rfl : va = .pointer (some ⟨g, o, none⟩) := (Option.some.inj sva).symm
      refine step_f782 rfl ea ?_
      exact h.step rfl rfl (by rw [FS.out]; decide) (by decide +kernel) rfl h.bel (fun _ _ _ q => q)
    · refine wpOp_of rfl rfl ?_
      obtain ⟨va, ea, sva⟩ := h.val hm rfl (j := 11) rfl rfl (by decide +kernel)
      obtain rfl : va = .pointer (some ⟨g, o + 2, none⟩) := (Option.some.inj sva).symm
      refine step_ld4 rfl ea c2 ?_
      exact h.step rfl rfl (by rw [FS.out]; decide) (by decide +kernel) rfl h.bel (fun _ _ _ q => q)
    · refine wpOp_of rfl rfl ?_
      refine step_move rfl (h.oldv (t := 0) (by decide +kernel) F0.out) ?_
      exact h.step rfl rfl (by rw [FS.out]; decide) (by decide +kernel) rfl h.bel (fun _ _ _ q => q)
    · refine wpOp_of rfl rfl ?_
      obtain ⟨va, ea, sva⟩ := h.val hm rfl (j := 13) rfl rfl (by decide +kernel)
      obtain rfl : va = .pointer (some ⟨g, o, none⟩) := (Option.some.inj sva).symm
      refine step_nilc rfl ea ?_
      exact h.step rfl rfl (by rw [FS.out]; decide) (by decide +kernel) rfl h.bel (fun _ _ _ q => q)
    · refine wpOp_of rfl rfl ?_
      obtain ⟨va, ea, sva⟩ := h.val hm rfl (j := 14) rfl rfl (by decide +kernel)
      obtain rfl : va = .pointer (some ⟨g, o, none⟩) := (Option.some.inj sva).symm
      refine step_f783 rfl ea ?_
      exact h.step rfl rfl (by rw [FS.out]; decide) (by decide +kernel) rfl h.bel (fun _ _ _ q => q)
    · refine wpOp_of rfl rfl ?_
      obtain ⟨va, ea, sva⟩ := h.val hm rfl (j := 15) rfl rfl (by decide +kernel)
      obtain rfl : va = .pointer (some ⟨g, o + 3, none⟩) := (Option.some.inj sva).symm
      refine step_ld76 rfl ea c3 ?_
      exact h.step rfl rfl (by rw [FS.out]; decide) (by decide +kernel) rfl h.bel (fun _ _ _ q => q)
    · refine wpOp_of rfl rfl ?_
      obtain ⟨va, ea, sva⟩ := h.val hm rfl (j := 16) rfl rfl (by decide +kernel)
      obtain rfl : va = .int .u8 c.on := (Option.some.inj sva).symm
      refine step_list (G := fun v w' => OwnI w' wx.heap.size v (onUp c.on 8) ∧ Below wx.heap.size wx w') rfl ea (list_any wx c.on) fun v w' ⟨hv, hb'⟩ => ?_
      exact h.step rfl rfl (by rw [FS.out]; decide) (by decide +kernel) (ownI_less hv h.bel.size) (h.bel.trans (hb'.mono h.bel.size)) (fun j v _ q => ShS.kept hb' j v q)
    · refine wpOp_of rfl rfl ?_
      refine step_move rfl (h.oldv (t := 0) (by decide +kernel) F0.out) ?_
      exact h.step rfl rfl (by rw [FS.out]; decide) (by decide +kernel) rfl h.bel (fun _ _ _ q => q)
    · refine wpOp_of rfl rfl ?_
      obtain ⟨va, ea, sva⟩ := h.val hm rfl (j := 18) rfl rfl (by decide +kernel)
      obtain rfl : va = .pointer (some ⟨g, o, none⟩) := (Option.some.inj sva).symm
      refine step_nilc rfl ea ?_
      exact h.step rfl rfl (by rw [FS.out]; decide) (by decide +kernel) rfl h.bel (fun _ _ _ q => q)
    · refine wpOp_of rfl rfl ?_
      obtain ⟨va, ea, sva⟩ := h.val hm rfl (j := 19) rfl rfl (by decide +kernel)
      obtain rfl : va = .pointer (some ⟨g, o, none⟩) := (Option.some.inj sva).symm
      refine step_f785 rfl ea ?_
      exact h.step rfl rfl (by rw [FS.out]; decide) (by decide +kernel) rfl h.bel (fun _ _ _ q => q)
    · refine wpOp_of rfl rfl ?_
      obtain ⟨va, ea, sva⟩ := h.val hm rfl (j := 20) rfl rfl (by decide +kernel)
      obtain rfl : va = .pointer (some ⟨g, o + 5, none⟩) := (Option.some.inj sva).symm
      refine step_ld4 rfl ea c5 ?_
      exact h.step rfl rfl (by rw [FS.out]; decide) (by decide +kernel) rfl h.bel (fun _ _ _ q => q)
    · refine wpOp_of rfl rfl ?_
      obtain ⟨va, ea, sva⟩ := h.val hm rfl (j := 3) rfl rfl (by decide +kernel)
      obtain rfl : va = .int .u64 c.off := (Option.some.inj sva).symm
      obtain ⟨vb, eb, svb⟩ := h.val hm rfl (j := 8) rfl rfl (by decide +kernel)
      obtain rfl : vb = .int .i64 c.bs.length := (Option.some.inj svb).symm
      obtain ⟨vc, ec, svc⟩ := h.val hm rfl (j := 12) rfl rfl (by decide +kernel)
      obtain rfl : vc = .bool c.fin := (Option.some.inj svc).symm
      obtain ⟨vf, ef, sf⟩ := h.val hm rfl (j := 17) rfl rfl (by decide +kernel)
      have hs : OwnI wx W.heap.size vf (onUp c.on 8) := sf
      obtain ⟨sa, sc, rfl⟩ := ownI_shape hs
      obtain ⟨vg, eg, svg⟩ := h.val hm rfl (j := 21) rfl rfl (by decide +kernel)
      obtain rfl : vg = .bool c.held := (Option.some.inj svg).symm
      refine step_build32 rfl ea eb ec ef eg ?_
      exact h.step rfl rfl (by rw [FS.out]; decide) (by decide +kernel) ⟨_, rfl, hs⟩ h.bel (fun _ _ _ q => q)
end Go.Proofs.Ytnohammflhadpaa
