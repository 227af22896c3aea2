import Derived.Test.YtjpllcliehgnfaaDoorJ17
import Derived.Test.YtjpllcliehgnfaaDoorJ18
namespace Go.Proofs.YtjpllcliehgnfaaDoor
open Go.RowKit Go.Sort
set_option maxRecDepth 100000

def tab0 : List Value := List.replicate 12 .nilFunc
def tabH : List Value := List.replicate 7 .nilFunc ++ [.func (.func 32) #[] #[], .func (.func 33) #[] #[], .func (.func 34) #[] #[], .nilFunc, .nilFunc]
theorem i63 : (Tryd.prog.info? 63).map (·.size) = some 12 := by kernel_rfl
theorem tabH_one : ∀ v ∈ tabH, v.oneCell' = true := by
  intro v hv
  simp [tabH] at hv
  rcases hv with rfl | rfl | rfl | rfl | rfl <;> rfl
theorem fnil32 (w : World) : (binOp BinOp.eql 62 (.func (.func 32) #[] #[]) .nilFunc).run Tryd.prog w = .ok (.bool false) w := rfl
theorem fnil33 (w : World) : (binOp BinOp.eql 62 (.func (.func 33) #[] #[]) .nilFunc).run Tryd.prog w = .ok (.bool false) w := rfl
theorem fnil34 (w : World) : (binOp BinOp.eql 62 (.func (.func 34) #[] #[]) .nilFunc).run Tryd.prog w = .ok (.bool false) w := rfl
theorem cf32 (args : Array Value) (w : World) : (callFunc 32 args).run Tryd.prog w = .ok (.enter 32 args) w := by simp [go_sem]
theorem cf33 (args : Array Value) (w : World) : (callFunc 33 args).run Tryd.prog w = .ok (.enter 33 args) w := by simp [go_sem]
theorem cf34 (args : Array Value) (w : World) : (callFunc 34 args).run Tryd.prog w = .ok (.enter 34 args) w := by simp [go_sem]
/-- What one of the three calls answers, wherever it comes. -/
def AnsC (w : World) (p : Nat) (F' : Hf) (o : Fo) (b : Bool) (n : Nat) (now : Nat) (c : List Value) : Prop := ∀ w1, Below w.heap.size w w1 → Calls Tryd.prog n #[.pointer (some ⟨p, 0, none⟩), .int .u64 (now : Int), .agg c.toArray] w1 (Ans w1 p F' o b)
section
variable {ops : Array Oper} {o : Oper} {a : Act} {w : World} {K : Act → World → Prop} {Q : Exit → Act → World → Prop}
theorem step_f290 {x : Operand} {b : Nat} (ho : o.op = .fieldAddr 29 x 0) (hx : a.eval x = .pointer (some ⟨b, 0, none⟩)) (h : K (a.put o.dst (.pointer (some ⟨b, 0, none⟩))) w) : Oper.wp Tryd.prog o a w K Q :=
  step_value (w' := w) (by generalize a.eval = r at *; simp [execOp, ho, hx, go_sem]) h
theorem step_idx7 {x y : Operand} {b : Nat} (ho : o.op = .indexAddr 63 x y) (hx : a.eval x = .pointer (some ⟨b, 0, none⟩)) (hy : a.eval y = .int .i64 7) (h : K (a.put o.dst (.pointer (some ⟨b, 7, none⟩))) w) : Oper.wp Tryd.prog o a w K Q :=
  step_value (w' := w) (by generalize a.eval = r at *; simp [execOp, ho, hx, hy, go_sem]) h
theorem step_idx8 {x y : Operand} {b : Nat} (ho : o.op = .indexAddr 63 x y) (hx : a.eval x = .pointer (some ⟨b, 0, none⟩)) (hy : a.eval y = .int .i64 8) (h : K (a.put o.dst (.pointer (some ⟨b, 8, none⟩))) w) : Oper.wp Tryd.prog o a w K Q :=
  step_value (w' := w) (by generalize a.eval = r at *; simp [execOp, ho, hx, hy, go_sem]) h
theorem step_idx9 {x y : Operand} {b : Nat} (ho : o.op = .indexAddr 63 x y) (hx : a.eval x = .pointer (some ⟨b, 0, none⟩)) (hy : a.eval y = .int .i64 9) (h : K (a.put o.dst (.pointer (some ⟨b, 9, none⟩))) w) : Oper.wp Tryd.prog o a w K Q :=
  step_value (w' := w) (by generalize a.eval = r at *; simp [execOp, ho, hx, hy, go_sem]) h
theorem step_ld62 {x : Operand} {ad : Addr} {n : FuncId} (ho : o.op = .load 62 x) (hx : a.eval x = .pointer (some ad)) (hc : w.cell? ad = some (.func (.func n) #[] #[])) (h : K (a.put o.dst (.func (.func n) #[] #[])) w) : Oper.wp Tryd.prog o a w K Q :=
  step_value (w' := w) (by generalize a.eval = r at *; simp [execOp, ho, hx, hc, go_sem]) h
theorem step_loadR {x : Operand} {g : Nat} {c : List Value} (R : Row w g c 29) (hi : c.length = 12) (ho : o.op = .load 29 x) (hx : a.eval x = .pointer (some ⟨g, 0, none⟩)) (h : K (a.put o.dst (.agg c.toArray)) w) : Oper.wp Tryd.prog o a w K Q :=
  step_value (w' := w) (by have hr := R.load (P := Tryd.prog) 29 _ Tryd.underlying29 rfl (by rw [hi]; exact i29)
                           generalize a.eval = r at *; simp [execOp, ho, hx, hr]) h
theorem step_callt {f : FuncId} (hf : ∀ args w, (callFunc f args).run Tryd.prog w = .ok (.enter f args) w) {t1 t2 t3 : TypeId} {y x1 x2 x3 : Operand} {v1 v2 v3 : Value} {G : Value → World → Prop} (ho : o.op = .call { callee := .value y, args := #[x1, x2, x3], argTypes := #[t1, t2, t3] }) (hy : a.eval y = .func (.func f) #[] #[]) (h1 : a.eval x1 = v1) (h2 : a.eval x2 = v2) (h3 : a.eval x3 = v3)
    (hc : Calls Tryd.prog f #[v1, v2, v3] w fun e w' => ∃ v, e = .returned v ∧ G v w') (h : ∀ v w', G v w' → K (a.put o.dst v) w') : Oper.wp Tryd.prog o a w K Q :=
  step_callv (f := f) (args := #[a.eval x1, a.eval x2, a.eval x3]) (by have e := hf #[a.eval x1, a.eval x2, a.eval x3] w; generalize a.eval = r at *; simp [execOp, ho, resolve, invoke, hy, e, go_sem]) (by rw [h1, h2, h3]; exact hc) h
theorem step_ext0 {x : Operand} {v u : Value} (ho : o.op = .extract x 0) (hx : a.eval x = .tuple #[v, u]) (h : K (a.put o.dst v) w) : Oper.wp Tryd.prog o a w K Q :=
  step_value (w' := w) (by generalize a.eval = r at *; simp [execOp, ho, hx, go_sem]) h
theorem step_ext1 {x : Operand} {v u : Value} (ho : o.op = .extract x 1) (hx : a.eval x = .tuple #[v, u]) (h : K (a.put o.dst u) w) : Oper.wp Tryd.prog o a w K Q :=
  step_value (w' := w) (by generalize a.eval = r at *; simp [execOp, ho, hx, go_sem]) h
theorem step_asg {x : Operand} {v : Value} (ho : o.op = .assign x) (hx : a.eval x = v) (h : K (a.put o.dst v) w) : Oper.wp Tryd.prog o a w K Q :=
  step_value (w' := w) (by generalize a.eval = r at *; simp [execOp, ho, hx, go_sem]) h
end
theorem SI.oldt {G : List Bool → World → Prop} {w : World} {ops : Array Oper} {A a : Act} {Spec : Nat → Value → World → Prop} {l : List Bool} {v : Value} (h : SI G ops A Spec l a w) {t : Nat} (hc : (ops.all fun o => o.dst != some t) = true) (hA : A.tmps[t]? = some v) : a.tmps[t]? = some v := by
  refine (h.old t ?_).trans hA
  intro i o ho
  have h1 := Array.all_eq_true'.1 hc o (Array.mem_of_getElem? ho)
  simpa using h1
theorem FrA.only {B p : Nat} {f : Fo} {v : Value} {w w' : World} (h : FrA B f v w) (hb : Only p w w') (hp : p < B) : FrA B f v w' := by
  obtain ⟨m, e, o⟩ := h
  exact ⟨m, e, o.only hb hp⟩
theorem FrA.set {B g : Nat} {f : Fo} {v : Value} {w : World} (h : FrA B f v w) (hg : g < B) (cs : Array Value) : FrA B f v (w.setRow g cs) := by
  obtain ⟨m, e, o⟩ := h
  exact ⟨m, e, ownB_set o hg cs⟩
/-- What the slots of Hear's last statement hold. -/
def HS (B g5 g8 p : Nat) (k : Nat) (n : FuncId) (now : Nat) (c : List Value) (o : Fo) (b : Bool) (i : Nat) (v : Value) (w : World) : Prop :=
  if i = 7 then ∃ x, v = .tuple #[x, .bool b] ∧ FrA B o x w else if i = 8 then FrA B o v w else
  ([.pointer (some ⟨g5, 0, none⟩), .int .i64 (k : Int), .pointer (some ⟨g8, k, none⟩), .func (.func n) #[] #[], .pointer (some ⟨p, 0, none⟩), .int .u64 (now : Int), .agg c.toArray, .nilFunc, .nilFunc, .bool b] : List Value)[i]? = some v
theorem HS.only {B g5 g8 p k now : Nat} {n : FuncId} {c : List Value} {o : Fo} {b : Bool} {i : Nat} {v : Value} {w w' : World} (h : HS B g5 g8 p k n now c o b i v w) {q : Nat} (hb : Only q w w') (hq : q < B) : HS B g5 g8 p k n now c o b i v w' := by
  unfold HS at *
  split
  · rename_i e; rw [if_pos e] at h; obtain ⟨x, e1, f1⟩ := h; exact ⟨x, e1, f1.only hb hq⟩
  · rename_i e
    rw [if_neg e] at h
    split
    · rename_i e2; rw [if_pos e2] at h; exact h.only hb hq
    · rename_i e2; rw [if_neg e2] at h; exact h
theorem only_setRow (w : World) (g : Nat) (cs : Array Value) : Only g w (w.setRow g cs) := (Only.refl g w).setRow cs
/-- How the memory stands while it runs. -/
structure HG (w : World) (B p g5 g6 g8 : Nat) (c : List Value) (F' : Hf) (o : Fo) (l : List Bool) (wx : World) : Prop where
  r5 : Row wx g5 c 29
  r8 : Row wx g8 tabH 63
  no : l[7]? ≠ some true → Below w.heap.size w wx
  yes : l[7]? = some true → HfAt wx p F' ∧ Only p w wx
  size : B ≤ wx.heap.size
  r6 : ∃ c6, Row wx g6 c6 29 ∧ c6.length = 12 ∧ (l[10]? = some true → FrA B o (.agg c6.toArray) wx)
theorem HG.same {w : World} {B p g5 g6 g8 : Nat} {c : List Value} {F' : Hf} {o : Fo} {l : List Bool} {wx : World} (h : HG w B p g5 g6 g8 c F' o l wx) (i : Nat) (h7 : i ≠ 7) (h10 : i ≠ 10) : HG w B p g5 g6 g8 c F' o (l.set i true) wx := by
  refine ⟨h.r5, h.r8, ?_, ?_, h.size, ?_⟩
  · rw [List.getElem?_set_ne h7]; exact h.no
  · rw [List.getElem?_set_ne h7]; exact h.yes
  · rw [List.getElem?_set_ne h10]; exact h.r6
set_option maxHeartbeats 4000000 in
theorem hear7 {w : World} {p : Nat} {F F' : Hf} {f o : Fo} {b : Bool} {c : List Value} (hH : HfAt w p F) (hf : FrIn w f c) (hp : ¬ F.path = 0) (hfp : f.p = F.path) (hk : f.k = 7) (now : Nat) (hc : AnsC w p F' o b 32 now c) :
    Calls Tryd.prog 15 #[.pointer (some ⟨p, 0, none⟩), .int .u64 (now : Int), .agg c.toArray] w (Ans w p F' o b) := by
  obtain ⟨x2, x3, x4, x5, x6, x11, a, m, rfl, hby⟩ := hf
  rw [hk, hfp] at hc ⊢
  have HC := hid hc
  have H := hid hH
  have b1 := beq_i hp
  have HLT : Hid (p < w.heap.size) := Row.lt H.out
  clear hH hp hk hfp hby hc
  go_enter Tryd.func15, Tryd.ntmps15
  go_upto_region 2 with (show wpList _ _ _ (Oper.mk none (.store 63 (.tmp 8) (.tmp 9)) _ _ _ _ :: _) _ _; refine (Row.new' _ _ tab0 63 _ (by simp) rfl).wpStore' 63 (.tmp 8) (.tmp 9) tabH rfl rfl rfl rfl rfl tabH_one i63 ?_; intro wa HW)
  have HI : Hid (Row wa w.heap.size [.int .i64 7, .int .i64 F.path, x2, x3, x4, x5, x6, .int .u32 (u f.tok), .int .u32 (u f.non), .slice a f.bs.length m, .bool f.bk, x11] 29) := by show Row _ _ _ _; rw [HW.out]; exact (((Row.new' _ _ _ _ _ rfl rfl).alloc _).alloc _).rowOther (by omega) _
  have HX : Hid (Row wa (w.heap.size + 1) frZ 29) := by show Row _ _ _ _; rw [HW.out]; exact ((Row.new' _ _ _ _ _ (by simp) rfl).alloc _).rowOther (by omega) _
  have HT : Hid (Row wa (w.heap.size + 1 + 1) tabH 63) := by show Row _ _ _ _; rw [HW.out]; exact (Row.new' _ _ tab0 63 _ (by simp) rfl).row _
  have HB : Hid (Below w.heap.size w wa) := by show Below _ _ _; rw [HW.out]; exact Go.below_setRow ((((Below.refl _ _).alloc (Nat.le_refl _) _).alloc (by simp) _).alloc (by simp; omega) _) (by omega) _
  clear HW
  have HR := hid (H.out.kept HB.out)
  have c1 := cell_regrown (Row.cell HR.out 1 _ rfl)
  have t1 := cell_regrown (HI.out.cell 1 _ rfl)
  simp only [Act.put]
  refine wp_region_quiet_below (by kernel_rfl) (by decide +kernel) ?_
  repeat (go_big_quiet_step (fail))
  refine wpQuiet_nil ?_
  intro _ hw'
  obtain ⟨⟨dq, osq⟩, hw''⟩ := hw'
  subst hw''
  have HBq : Hid (Below wa.heap.size wa (grow (redrawn wa dq) osq)) := below_regrown wa dq osq
  show Exit.then _ _ _ _ (grow (redrawn wa dq) osq)
  generalize grow (redrawn wa dq) osq = wq at *
  clear c1 t1
  have HXq := hid (HX.out.kept HBq.out HX.out.lt)
  have HIq := hid (HI.out.kept HBq.out HI.out.lt)
  have HTq := hid (HT.out.kept HBq.out HT.out.lt)
  have HBw := hid (HB.out.trans (HBq.out.mono HB.out.size))
  have t0 := HIq.out.cell 0 _ rfl
  have f7 := HTq.out.cell 7 _ rfl
  have hnf := fnil32
  go_upto_region 6 with fail
  clear hnf t0 f7
  have HS3 : Hid (w.heap.size + 1 + 1 < wq.heap.size) := HTq.out.lt
  refine wp_act fun A HF => ?_
  have F0 : Hid (A.tmps[0]? = some (.pointer (some ⟨p, 0, none⟩))) := by show _ = _; rw [HF.out]; rfl
  have F1 : Hid (A.tmps[1]? = some (.int .u64 (now : Int))) := by show _ = _; rw [HF.out]; rfl
  have F5 : Hid (A.tmps[5]? = some (.pointer (some ⟨w.heap.size, 0, none⟩))) := by show _ = _; rw [HF.out]; rfl
  have F6 : Hid (A.tmps[6]? = some (.pointer (some ⟨w.heap.size + 1, 0, none⟩))) := by show _ = _; rw [HF.out]; rfl
  have F8 : Hid (A.tmps[8]? = some (.pointer (some ⟨w.heap.size + 1 + 1, 0, none⟩))) := by show _ = _; rw [HF.out]; rfl
  have FS : Hid (A.tmps.size = 51) := by show _ = _; rw [HF.out]; rfl
  have FD : Hid (A.defers = []) := by show _ = _; rw [HF.out]
  clear HF
  refine wp_region_any (by kernel_rfl) ?_
  have hstart : HG w wq.heap.size p w.heap.size (w.heap.size + 1) (w.heap.size + 1 + 1) [.int .i64 7, .int .i64 F.path, x2, x3, x4, x5, x6, .int .u32 (u f.tok), .int .u32 (u f.non), .slice a f.bs.length m, .bool f.bk, x11] F' o (List.replicate 12 false) { wq with drawn := wq.drawn + 1 } :=
    ⟨HIq.out.drawn _, HTq.out.drawn _, fun _ => below_drawn HBw.out _, fun h => by simp at h, Nat.le_refl _, ⟨frZ, HXq.out.drawn _, rfl, fun h => by simp at h⟩⟩
  refine wpAny_last 11 rfl (by decide +kernel) (by decide +kernel) (HG w wq.heap.size p w.heap.size (w.heap.size + 1) (w.heap.size + 1 + 1) [.int .i64 7, .int .i64 F.path, x2, x3, x4, x5, x6, .int .u32 (u f.tok), .int .u32 (u f.non), .slice a f.bs.length m, .bool f.bk, x11] F' o) (HS wq.heap.size w.heap.size (w.heap.size + 1 + 1) p 7 32 now [.int .i64 7, .int .i64 F.path, x2, x3, x4, x5, x6, .int .u32 (u f.tok), .int .u32 (u f.non), .slice a f.bs.length m, .bool f.bk, x11] o b) hstart ?step ?last
  case last =>
    intro l af wx hS hall
    obtain ⟨v9, hv9, s9⟩ := hS.new 9 _ 50 (hall 9 (by decide)) rfl rfl
    obtain rfl : v9 = .bool b := (Option.some.inj s9).symm
    obtain ⟨c6, R6, l6, fr6⟩ := hS.bel.r6
    have fr := fr6 (hall 10 (by decide))
    obtain ⟨hfz, hoz⟩ := hS.bel.yes (hall 7 (by decide))
    have e6 : af.tmps[6]? = some (.pointer (some ⟨w.heap.size + 1, 0, none⟩)) := hS.oldt (by decide +kernel) F6.out
    have hd : af.defers = [] := hS.defers.trans FD.out
    have hsz : af.tmps.size = 51 := hS.size.trans FS.out
    refine wpOp_of rfl rfl ?_
    refine step_asg rfl (eval_tmp hv9) ?_
    obtain ⟨ag, hag⟩ : ∃ ag, ag = af.put (some 7) (.bool b) := ⟨_, rfl⟩
    have a6 : ag.tmps.getD 6 undef = .pointer (some ⟨w.heap.size + 1, 0, none⟩) := by
      rw [hag]
      show (af.tmps.setIfInBounds 7 (.bool b)).getD 6 undef = _
      rw [Array.getD_eq_getD_getElem?, Array.getElem?_setIfInBounds_ne (by decide), e6]; rfl
    have a7 : ag.tmps.getD 7 undef = .bool b := by
      rw [hag]
      show (af.tmps.setIfInBounds 7 (.bool b)).getD 7 undef = _
      rw [Array.getD_eq_getD_getElem?, Array.getElem?_setIfInBounds_self_of_lt (by rw [hsz]; decide)]; rfl
    have ad : ag.defers = [] := by rw [hag]; exact hd
    show Exit.then _ _ Exit.normal (af.put (some 7) (.bool b)) wx
    rw [← hag]
    clear hag e6 hv9 s9 hS hall hd hsz
    go_wp2_with fail
    exact bodyPost_ret (R6.result2 Tryd.results15 _ a6 a7 _ Tryd.underlying29 rfl (by rw [l6]; exact i29)) ad ⟨_, rfl, fr.less (by have := HS3.out; omega), hfz, hoz⟩
  case step =>
    intro l af wx i hS hiN hf hm
    rcases (show i = 0 ∨ i = 1 ∨ i = 2 ∨ i = 3 ∨ i = 4 ∨ i = 5 ∨ i = 6 ∨ i = 7 ∨ i = 8 ∨ i = 9 ∨ i = 10 by omega) with rfl | rfl | rfl | rfl | rfl | rfl | rfl | rfl | rfl | rfl | rfl
    · refine wpOp_of rfl rfl ?_
      refine step_f290 rfl (hS.oldv (t := 5) (by decide +kernel) F5.out) ?_
      exact hS.step rfl rfl (by rw [FS.out]; decide) (by decide +kernel) rfl (hS.bel.same 0 (by decide) (by decide)) (fun _ _ _ q => q)
    · refine wpOp_of rfl rfl ?_
      obtain ⟨va, ea, sa⟩ := hS.val hm rfl (j := 0) rfl rfl (by decide +kernel)
      obtain rfl : va = .pointer (some ⟨w.heap.size, 0, none⟩) := (Option.some.inj sa).symm
      refine step_ld3 rfl ea (hS.bel.r5.cell 0 _ rfl) ?_
      exact hS.step rfl rfl (by rw [FS.out]; decide) (by decide +kernel) rfl (hS.bel.same 1 (by decide) (by decide)) (fun _ _ _ q => q)
    · refine wpOp_of rfl rfl ?_
      obtain ⟨va, ea, sa⟩ := hS.val hm rfl (j := 1) rfl rfl (by decide +kernel)
      obtain rfl : va = .int .i64 7 := (Option.some.inj sa).symm
      refine step_idx7 rfl (hS.oldv (t := 8) (by decide +kernel) F8.out) ea ?_
      exact hS.step rfl rfl (by rw [FS.out]; decide) (by decide +kernel) rfl (hS.bel.same 2 (by decide) (by decide)) (fun _ _ _ q => q)
    · refine wpOp_of rfl rfl ?_
      obtain ⟨va, ea, sa⟩ := hS.val hm rfl (j := 2) rfl rfl (by decide +kernel)
      obtain rfl : va = .pointer (some ⟨w.heap.size + 1 + 1, 7, none⟩) := (Option.some.inj sa).symm
      refine step_ld62 rfl ea (hS.bel.r8.cell 7 _ rfl) ?_
      exact hS.step rfl rfl (by rw [FS.out]; decide) (by decide +kernel) rfl (hS.bel.same 3 (by decide) (by decide)) (fun _ _ _ q => q)
    · refine wpOp_of rfl rfl ?_
      refine step_move rfl (hS.oldv (t := 0) (by decide +kernel) F0.out) ?_
      exact hS.step rfl rfl (by rw [FS.out]; decide) (by decide +kernel) rfl (hS.bel.same 4 (by decide) (by decide)) (fun _ _ _ q => q)
    · refine wpOp_of rfl rfl ?_
      refine step_move rfl (hS.oldv (t := 1) (by decide +kernel) F1.out) ?_
      exact hS.step rfl rfl (by rw [FS.out]; decide) (by decide +kernel) rfl (hS.bel.same 5 (by decide) (by decide)) (fun _ _ _ q => q)
    · refine wpOp_of rfl rfl ?_
      refine step_loadR hS.bel.r5 rfl rfl (hS.oldv (t := 5) (by decide +kernel) F5.out) ?_
      exact hS.step rfl rfl (by rw [FS.out]; decide) (by decide +kernel) rfl (hS.bel.same 6 (by decide) (by decide)) (fun _ _ _ q => q)
    · refine wpOp_of rfl rfl ?_
      obtain ⟨va, ea, sa⟩ := hS.val hm rfl (j := 3) rfl rfl (by decide +kernel)
      obtain rfl : va = .func (.func 32) #[] #[] := (Option.some.inj sa).symm
      obtain ⟨vb, eb, sb⟩ := hS.val hm rfl (j := 4) rfl rfl (by decide +kernel)
      obtain rfl : vb = .pointer (some ⟨p, 0, none⟩) := (Option.some.inj sb).symm
      obtain ⟨vc, ec, sc⟩ := hS.val hm rfl (j := 5) rfl rfl (by decide +kernel)
      obtain rfl : vc = .int .u64 (now : Int) := (Option.some.inj sc).symm
      obtain ⟨vd, ed, sd⟩ := hS.val hm rfl (j := 6) rfl rfl (by decide +kernel)
      obtain rfl : vd = .agg ([.int .i64 7, .int .i64 F.path, x2, x3, x4, x5, x6, .int .u32 (u f.tok), .int .u32 (u f.non), .slice a f.bs.length m, .bool f.bk, x11] : List Value).toArray := (Option.some.inj sd).symm
      have hno : l[7]? ≠ some true := by rw [hf]; simp
      have hbx := hS.bel.no hno
      refine step_callt cf32 rfl ea eb ec ed (G := fun v w' => ∃ x, v = .tuple #[x, .bool b] ∧ FrA wx.heap.size o x w' ∧ HfAt w' p F' ∧ Only p wx w') ((HC.out wx hbx).mono fun e w' ⟨v, h1, h2, h3, h4⟩ => ⟨_, h1, v, rfl, h2, h3, h4⟩) ?_
      rintro v w' ⟨x, rfl, hx, hp', ho'⟩
      have hpq : p < wq.heap.size := by have := HLT.out; have := HS3.out; omega
      refine hS.step rfl rfl (by rw [FS.out]; decide) (by decide +kernel) ⟨x, rfl, hx.less hS.bel.size⟩ ?_ (fun j v _ q => q.only ho' hpq)
      obtain ⟨c6, R6, l6, fr6⟩ := hS.bel.r6
      refine ⟨ho'.row hS.bel.r5 (by have := HLT.out; omega), ho'.row hS.bel.r8 (by have := HLT.out; omega), ?_, fun _ => ⟨hp', (below_only hbx p).trans ho'⟩, Nat.le_trans hS.bel.size ho'.size, c6, ho'.row R6 (by have := HLT.out; omega), l6, ?_⟩
      · intro hn; exact absurd (by rw [List.getElem?_set_self (by have := (List.getElem?_eq_some_iff.1 hf).1; exact this)]) hn
      · rw [List.getElem?_set_ne (by decide)]; intro h10; exact (fr6 h10).only ho' hpq
    · refine wpOp_of rfl rfl ?_
      obtain ⟨va, ea, sa⟩ := hS.val hm rfl (j := 7) rfl rfl (by decide +kernel)
      obtain ⟨x, rfl, hx⟩ : ∃ x, va = .tuple #[x, .bool b] ∧ FrA wq.heap.size o x wx := sa
      refine step_ext0 rfl ea ?_
      exact hS.step rfl rfl (by rw [FS.out]; decide) (by decide +kernel) hx (hS.bel.same 8 (by decide) (by decide)) (fun _ _ _ q => q)
    · refine wpOp_of rfl rfl ?_
      obtain ⟨va, ea, sa⟩ := hS.val hm rfl (j := 7) rfl rfl (by decide +kernel)
      obtain ⟨x, rfl, hx⟩ : ∃ x, va = .tuple #[x, .bool b] ∧ FrA wq.heap.size o x wx := sa
      refine step_ext1 rfl ea ?_
      exact hS.step rfl rfl (by rw [FS.out]; decide) (by decide +kernel) rfl (hS.bel.same 9 (by decide) (by decide)) (fun _ _ _ q => q)
    · refine wpOp_of rfl rfl ?_
      obtain ⟨va, ea, sa⟩ := hS.val hm rfl (j := 8) rfl rfl (by decide +kernel)
      have fa : FrA wq.heap.size o va wx := sa
      obtain ⟨mm, rfl, om⟩ := fa
      obtain ⟨ma, mc, rfl, _, _⟩ := om.shape
      obtain ⟨c6, R6, l6, fr6⟩ := hS.bel.r6
      have g6q : w.heap.size + 1 < wq.heap.size := by have := HS3.out; omega
      refine step_storeA (c' := frC o.k o.p o.tok o.non (.slice ma o.bs.length mc) o.bk) R6 rfl (hS.oldv (t := 6) (by decide +kernel) F6.out) ea (by rw [l6]; rfl) (frC_one _ _ _ _ _ _ _ _) i29 ?_
      refine hS.stepNone rfl rfl ?_ (fun j v _ q => q.only (only_setRow wx _ _) g6q)
      refine ⟨hS.bel.r5.rowOther (by omega) _, hS.bel.r8.rowOther (by omega) _, ?_, ?_, Nat.le_trans hS.bel.size (by simp [World.setRow]), _, R6.row _, rfl, fun _ => ⟨_, rfl, ownB_set om g6q _⟩⟩
      · rw [List.getElem?_set_ne (by decide)]; intro h7; exact Go.below_setRow (hS.bel.no h7) (by omega) _
      · rw [List.getElem?_set_ne (by decide)]; intro h7; obtain ⟨y1, y2⟩ := hS.bel.yes h7; exact ⟨Row.rowOther y1 (by have := HLT.out; omega) _, y2.putRow (by omega) _⟩
set_option maxHeartbeats 4000000 in
theorem hear8 {w : World} {p : Nat} {F F' : Hf} {f o : Fo} {b : Bool} {c : List Value} (hH : HfAt w p F) (hf : FrIn w f c) (hp : ¬ F.path = 0) (hfp : f.p = F.path) (hk : f.k = 8) (now : Nat) (hc : AnsC w p F' o b 33 now c) :
    Calls Tryd.prog 15 #[.pointer (some ⟨p, 0, none⟩), .int .u64 (now : Int), .agg c.toArray] w (Ans w p F' o b) := by
  obtain ⟨x2, x3, x4, x5, x6, x11, a, m, rfl, hby⟩ := hf
  rw [hk, hfp] at hc ⊢
  have HC := hid hc
  have H := hid hH
  have b1 := beq_i hp
  have HLT : Hid (p < w.heap.size) := Row.lt H.out
  clear hH hp hk hfp hby hc
  go_enter Tryd.func15, Tryd.ntmps15
  go_upto_region 2 with (show wpList _ _ _ (Oper.mk none (.store 63 (.tmp 8) (.tmp 9)) _ _ _ _ :: _) _ _; refine (Row.new' _ _ tab0 63 _ (by simp) rfl).wpStore' 63 (.tmp 8) (.tmp 9) tabH rfl rfl rfl rfl rfl tabH_one i63 ?_; intro wa HW)
  have HI : Hid (Row wa w.heap.size [.int .i64 8, .int .i64 F.path, x2, x3, x4, x5, x6, .int .u32 (u f.tok), .int .u32 (u f.non), .slice a f.bs.length m, .bool f.bk, x11] 29) := by show Row _ _ _ _; rw [HW.out]; exact (((Row.new' _ _ _ _ _ rfl rfl).alloc _).alloc _).rowOther (by omega) _
  have HX : Hid (Row wa (w.heap.size + 1) frZ 29) := by show Row _ _ _ _; rw [HW.out]; exact ((Row.new' _ _ _ _ _ (by simp) rfl).alloc _).rowOther (by omega) _
  have HT : Hid (Row wa (w.heap.size + 1 + 1) tabH 63) := by show Row _ _ _ _; rw [HW.out]; exact (Row.new' _ _ tab0 63 _ (by simp) rfl).row _
  have HB : Hid (Below w.heap.size w wa) := by show Below _ _ _; rw [HW.out]; exact Go.below_setRow ((((Below.refl _ _).alloc (Nat.le_refl _) _).alloc (by simp) _).alloc (by simp; omega) _) (by omega) _
  clear HW
  have HR := hid (H.out.kept HB.out)
  have c1 := cell_regrown (Row.cell HR.out 1 _ rfl)
  have t1 := cell_regrown (HI.out.cell 1 _ rfl)
  simp only [Act.put]
  refine wp_region_quiet_below (by kernel_rfl) (by decide +kernel) ?_
  repeat (go_big_quiet_step (fail))
  refine wpQuiet_nil ?_
  intro _ hw'
  obtain ⟨⟨dq, osq⟩, hw''⟩ := hw'
  subst hw''
  have HBq : Hid (Below wa.heap.size wa (grow (redrawn wa dq) osq)) := below_regrown wa dq osq
  show Exit.then _ _ _ _ (grow (redrawn wa dq) osq)
  generalize grow (redrawn wa dq) osq = wq at *
  clear c1 t1
  have HXq := hid (HX.out.kept HBq.out HX.out.lt)
  have HIq := hid (HI.out.kept HBq.out HI.out.lt)
  have HTq := hid (HT.out.kept HBq.out HT.out.lt)
  have HBw := hid (HB.out.trans (HBq.out.mono HB.out.size))
  have t0 := HIq.out.cell 0 _ rfl
  have f7 := HTq.out.cell 8 _ rfl
  have hnf := fnil33
  go_upto_region 6 with fail
  clear hnf t0 f7
  have HS3 : Hid (w.heap.size + 1 + 1 < wq.heap.size) := HTq.out.lt
  refine wp_act fun A HF => ?_
  have F0 : Hid (A.tmps[0]? = some (.pointer (some ⟨p, 0, none⟩))) := by show _ = _; rw [HF.out]; rfl
  have F1 : Hid (A.tmps[1]? = some (.int .u64 (now : Int))) := by show _ = _; rw [HF.out]; rfl
  have F5 : Hid (A.tmps[5]? = some (.pointer (some ⟨w.heap.size, 0, none⟩))) := by show _ = _; rw [HF.out]; rfl
  have F6 : Hid (A.tmps[6]? = some (.pointer (some ⟨w.heap.size + 1, 0, none⟩))) := by show _ = _; rw [HF.out]; rfl
  have F8 : Hid (A.tmps[8]? = some (.pointer (some ⟨w.heap.size + 1 + 1, 0, none⟩))) := by show _ = _; rw [HF.out]; rfl
  have FS : Hid (A.tmps.size = 51) := by show _ = _; rw [HF.out]; rfl
  have FD : Hid (A.defers = []) := by show _ = _; rw [HF.out]
  clear HF
  refine wp_region_any (by kernel_rfl) ?_
  have hstart : HG w wq.heap.size p w.heap.size (w.heap.size + 1) (w.heap.size + 1 + 1) [.int .i64 8, .int .i64 F.path, x2, x3, x4, x5, x6, .int .u32 (u f.tok), .int .u32 (u f.non), .slice a f.bs.length m, .bool f.bk, x11] F' o (List.replicate 12 false) { wq with drawn := wq.drawn + 1 } :=
    ⟨HIq.out.drawn _, HTq.out.drawn _, fun _ => below_drawn HBw.out _, fun h => by simp at h, Nat.le_refl _, ⟨frZ, HXq.out.drawn _, rfl, fun h => by simp at h⟩⟩
  refine wpAny_last 11 rfl (by decide +kernel) (by decide +kernel) (HG w wq.heap.size p w.heap.size (w.heap.size + 1) (w.heap.size + 1 + 1) [.int .i64 8, .int .i64 F.path, x2, x3, x4, x5, x6, .int .u32 (u f.tok), .int .u32 (u f.non), .slice a f.bs.length m, .bool f.bk, x11] F' o) (HS wq.heap.size w.heap.size (w.heap.size + 1 + 1) p 8 33 now [.int .i64 8, .int .i64 F.path, x2, x3, x4, x5, x6, .int .u32 (u f.tok), .int .u32 (u f.non), .slice a f.bs.length m, .bool f.bk, x11] o b) hstart ?step ?last
  case last =>
    intro l af wx hS hall
    obtain ⟨v9, hv9, s9⟩ := hS.new 9 _ 50 (hall 9 (by decide)) rfl rfl
    obtain rfl : v9 = .bool b := (Option.some.inj s9).symm
    obtain ⟨c6, R6, l6, fr6⟩ := hS.bel.r6
    have fr := fr6 (hall 10 (by decide))
    obtain ⟨hfz, hoz⟩ := hS.bel.yes (hall 7 (by decide))
    have e6 : af.tmps[6]? = some (.pointer (some ⟨w.heap.size + 1, 0, none⟩)) := hS.oldt (by decide +kernel) F6.out
    have hd : af.defers = [] := hS.defers.trans FD.out
    have hsz : af.tmps.size = 51 := hS.size.trans FS.out
    refine wpOp_of rfl rfl ?_
    refine step_asg rfl (eval_tmp hv9) ?_
    obtain ⟨ag, hag⟩ : ∃ ag, ag = af.put (some 7) (.bool b) := ⟨_, rfl⟩
    have a6 : ag.tmps.getD 6 undef = .pointer (some ⟨w.heap.size + 1, 0, none⟩) := by
      rw [hag]
      show (af.tmps.setIfInBounds 7 (.bool b)).getD 6 undef = _
      rw [Array.getD_eq_getD_getElem?, Array.getElem?_setIfInBounds_ne (by decide), e6]; rfl
    have a7 : ag.tmps.getD 7 undef = .bool b := by
      rw [hag]
      show (af.tmps.setIfInBounds 7 (.bool b)).getD 7 undef = _
      rw [Array.getD_eq_getD_getElem?, Array.getElem?_setIfInBounds_self_of_lt (by rw [hsz]; decide)]; rfl
    have ad : ag.defers = [] := by rw [hag]; exact hd
    show Exit.then _ _ Exit.normal (af.put (some 7) (.bool b)) wx
    rw [← hag]
    clear hag e6 hv9 s9 hS hall hd hsz
    go_wp2_with fail
    exact bodyPost_ret (R6.result2 Tryd.results15 _ a6 a7 _ Tryd.underlying29 rfl (by rw [l6]; exact i29)) ad ⟨_, rfl, fr.less (by have := HS3.out; omega), hfz, hoz⟩
  case step =>
    intro l af wx i hS hiN hf hm
    rcases (show i = 0 ∨ i = 1 ∨ i = 2 ∨ i = 3 ∨ i = 4 ∨ i = 5 ∨ i = 6 ∨ i = 7 ∨ i = 8 ∨ i = 9 ∨ i = 10 by omega) with rfl | rfl | rfl | rfl | rfl | rfl | rfl | rfl | rfl | rfl | rfl
    · refine wpOp_of rfl rfl ?_
      refine step_f290 rfl (hS.oldv (t := 5) (by decide +kernel) F5.out) ?_
      exact hS.step rfl rfl (by rw [FS.out]; decide) (by decide +kernel) rfl (hS.bel.same 0 (by decide) (by decide)) (fun _ _ _ q => q)
    · refine wpOp_of rfl rfl ?_
      obtain ⟨va, ea, sa⟩ := hS.val hm rfl (j := 0) rfl rfl (by decide +kernel)
      obtain rfl : va = .pointer (some ⟨w.heap.size, 0, none⟩) := (Option.some.inj sa).symm
      refine step_ld3 rfl ea (hS.bel.r5.cell 0 _ rfl) ?_
      exact hS.step rfl rfl (by rw [FS.out]; decide) (by decide +kernel) rfl (hS.bel.same 1 (by decide) (by decide)) (fun _ _ _ q => q)
    · refine wpOp_of rfl rfl ?_
      obtain ⟨va, ea, sa⟩ := hS.val hm rfl (j := 1) rfl rfl (by decide +kernel)
      obtain rfl : va = .int .i64 8 := (Option.some.inj sa).symm
      refine step_idx8 rfl (hS.oldv (t := 8) (by decide +kernel) F8.out) ea ?_
      exact hS.step rfl rfl (by rw [FS.out]; decide) (by decide +kernel) rfl (hS.bel.same 2 (by decide) (by decide)) (fun _ _ _ q => q)
    · refine wpOp_of rfl rfl ?_
      obtain ⟨va, ea, sa⟩ := hS.val hm rfl (j := 2) rfl rfl (by decide +kernel)
      obtain rfl : va = .pointer (some ⟨w.heap.size + 1 + 1, 8, none⟩) := (Option.some.inj sa).symm
      refine step_ld62 rfl ea (hS.bel.r8.cell 8 _ rfl) ?_
      exact hS.step rfl rfl (by rw [FS.out]; decide) (by decide +kernel) rfl (hS.bel.same 3 (by decide) (by decide)) (fun _ _ _ q => q)
    · refine wpOp_of rfl rfl ?_
      refine step_move rfl (hS.oldv (t := 0) (by decide +kernel) F0.out) ?_
      exact hS.step rfl rfl (by rw [FS.out]; decide) (by decide +kernel) rfl (hS.bel.same 4 (by decide) (by decide)) (fun _ _ _ q => q)
    · refine wpOp_of rfl rfl ?_
      refine step_move rfl (hS.oldv (t := 1) (by decide +kernel) F1.out) ?_
      exact hS.step rfl rfl (by rw [FS.out]; decide) (by decide +kernel) rfl (hS.bel.same 5 (by decide) (by decide)) (fun _ _ _ q => q)
    · refine wpOp_of rfl rfl ?_
      refine step_loadR hS.bel.r5 rfl rfl (hS.oldv (t := 5) (by decide +kernel) F5.out) ?_
      exact hS.step rfl rfl (by rw [FS.out]; decide) (by decide +kernel) rfl (hS.bel.same 6 (by decide) (by decide)) (fun _ _ _ q => q)
    · refine wpOp_of rfl rfl ?_
      obtain ⟨va, ea, sa⟩ := hS.val hm rfl (j := 3) rfl rfl (by decide +kernel)
      obtain rfl : va = .func (.func 33) #[] #[] := (Option.some.inj sa).symm
      obtain ⟨vb, eb, sb⟩ := hS.val hm rfl (j := 4) rfl rfl (by decide +kernel)
      obtain rfl : vb = .pointer (some ⟨p, 0, none⟩) := (Option.some.inj sb).symm
      obtain ⟨vc, ec, sc⟩ := hS.val hm rfl (j := 5) rfl rfl (by decide +kernel)
      obtain rfl : vc = .int .u64 (now : Int) := (Option.some.inj sc).symm
      obtain ⟨vd, ed, sd⟩ := hS.val hm rfl (j := 6) rfl rfl (by decide +kernel)
      obtain rfl : vd = .agg ([.int .i64 8, .int .i64 F.path, x2, x3, x4, x5, x6, .int .u32 (u f.tok), .int .u32 (u f.non), .slice a f.bs.length m, .bool f.bk, x11] : List Value).toArray := (Option.some.inj sd).symm
      have hno : l[7]? ≠ some true := by rw [hf]; simp
      have hbx := hS.bel.no hno
      refine step_callt cf33 rfl ea eb ec ed (G := fun v w' => ∃ x, v = .tuple #[x, .bool b] ∧ FrA wx.heap.size o x w' ∧ HfAt w' p F' ∧ Only p wx w') ((HC.out wx hbx).mono fun e w' ⟨v, h1, h2, h3, h4⟩ => ⟨_, h1, v, rfl, h2, h3, h4⟩) ?_
      rintro v w' ⟨x, rfl, hx, hp', ho'⟩
      have hpq : p < wq.heap.size := by have := HLT.out; have := HS3.out; omega
      refine hS.step rfl rfl (by rw [FS.out]; decide) (by decide +kernel) ⟨x, rfl, hx.less hS.bel.size⟩ ?_ (fun j v _ q => q.only ho' hpq)
      obtain ⟨c6, R6, l6, fr6⟩ := hS.bel.r6
      refine ⟨ho'.row hS.bel.r5 (by have := HLT.out; omega), ho'.row hS.bel.r8 (by have := HLT.out; omega), ?_, fun _ => ⟨hp', (below_only hbx p).trans ho'⟩, Nat.le_trans hS.bel.size ho'.size, c6, ho'.row R6 (by have := HLT.out; omega), l6, ?_⟩
      · intro hn; exact absurd (by rw [List.getElem?_set_self (by have := (List.getElem?_eq_some_iff.1 hf).1; exact this)]) hn
      · rw [List.getElem?_set_ne (by decide)]; intro h10; exact (fr6 h10).only ho' hpq
    · refine wpOp_of rfl rfl ?_
      obtain ⟨va, ea, sa⟩ := hS.val hm rfl (j := 7) rfl rfl (by decide +kernel)
      obtain ⟨x, rfl, hx⟩ : ∃ x, va = .tuple #[x, .bool b] ∧ FrA wq.heap.size o x wx := sa
      refine step_ext0 rfl ea ?_
      exact hS.step rfl rfl (by rw [FS.out]; decide) (by decide +kernel) hx (hS.bel.same 8 (by decide) (by decide)) (fun _ _ _ q => q)
    · refine wpOp_of rfl rfl ?_
      obtain ⟨va, ea, sa⟩ := hS.val hm rfl (j := 7) rfl rfl (by decide +kernel)
      obtain ⟨x, rfl, hx⟩ : ∃ x, va = .tuple #[x, .bool b] ∧ FrA wq.heap.size o x wx := sa
      refine step_ext1 rfl ea ?_
      exact hS.step rfl rfl (by rw [FS.out]; decide) (by decide +kernel) rfl (hS.bel.same 9 (by decide) (by decide)) (fun _ _ _ q => q)
    · refine wpOp_of rfl rfl ?_
      obtain ⟨va, ea, sa⟩ := hS.val hm rfl (j := 8) rfl rfl (by decide +kernel)
      have fa : FrA wq.heap.size o va wx := sa
      obtain ⟨mm, rfl, om⟩ := fa
      obtain ⟨ma, mc, rfl, _, _⟩ := om.shape
      obtain ⟨c6, R6, l6, fr6⟩ := hS.bel.r6
      have g6q : w.heap.size + 1 < wq.heap.size := by have := HS3.out; omega
      refine step_storeA (c' := frC o.k o.p o.tok o.non (.slice ma o.bs.length mc) o.bk) R6 rfl (hS.oldv (t := 6) (by decide +kernel) F6.out) ea (by rw [l6]; rfl) (frC_one _ _ _ _ _ _ _ _) i29 ?_
      refine hS.stepNone rfl rfl ?_ (fun j v _ q => q.only (only_setRow wx _ _) g6q)
      refine ⟨hS.bel.r5.rowOther (by omega) _, hS.bel.r8.rowOther (by omega) _, ?_, ?_, Nat.le_trans hS.bel.size (by simp [World.setRow]), _, R6.row _, rfl, fun _ => ⟨_, rfl, ownB_set om g6q _⟩⟩
      · rw [List.getElem?_set_ne (by decide)]; intro h7; exact Go.below_setRow (hS.bel.no h7) (by omega) _
      · rw [List.getElem?_set_ne (by decide)]; intro h7; obtain ⟨y1, y2⟩ := hS.bel.yes h7; exact ⟨Row.rowOther y1 (by have := HLT.out; omega) _, y2.putRow (by omega) _⟩
set_option maxHeartbeats 4000000 in
theorem hear9 {w : World} {p : Nat} {F F' : Hf} {f o : Fo} {b : Bool} {c : List Value} (hH : HfAt w p F) (hf : FrIn w f c) (hp : ¬ F.path = 0) (hfp : f.p = F.path) (hk : f.k = 9) (now : Nat) (hc : AnsC w p F' o b 34 now c) :
    Calls Tryd.prog 15 #[.pointer (some ⟨p, 0, none⟩), .int .u64 (now : Int), .agg c.toArray] w (Ans w p F' o b) := by
  obtain ⟨x2, x3, x4, x5, x6, x11, a, m, rfl, hby⟩ := hf
  rw [hk, hfp] at hc ⊢
  have HC := hid hc
  have H := hid hH
  have b1 := beq_i hp
  have HLT : Hid (p < w.heap.size) := Row.lt H.out
  clear hH hp hk hfp hby hc
  go_enter Tryd.func15, Tryd.ntmps15
  go_upto_region 2 with (show wpList _ _ _ (Oper.mk none (.store 63 (.tmp 8) (.tmp 9)) _ _ _ _ :: _) _ _; refine (Row.new' _ _ tab0 63 _ (by simp) rfl).wpStore' 63 (.tmp 8) (.tmp 9) tabH rfl rfl rfl rfl rfl tabH_one i63 ?_; intro wa HW)
  have HI : Hid (Row wa w.heap.size [.int .i64 9, .int .i64 F.path, x2, x3, x4, x5, x6, .int .u32 (u f.tok), .int .u32 (u f.non), .slice a f.bs.length m, .bool f.bk, x11] 29) := by show Row _ _ _ _; rw [HW.out]; exact (((Row.new' _ _ _ _ _ rfl rfl).alloc _).alloc _).rowOther (by omega) _
  have HX : Hid (Row wa (w.heap.size + 1) frZ 29) := by show Row _ _ _ _; rw [HW.out]; exact ((Row.new' _ _ _ _ _ (by simp) rfl).alloc _).rowOther (by omega) _
  have HT : Hid (Row wa (w.heap.size + 1 + 1) tabH 63) := by show Row _ _ _ _; rw [HW.out]; exact (Row.new' _ _ tab0 63 _ (by simp) rfl).row _
  have HB : Hid (Below w.heap.size w wa) := by show Below _ _ _; rw [HW.out]; exact Go.below_setRow ((((Below.refl _ _).alloc (Nat.le_refl _) _).alloc (by simp) _).alloc (by simp; omega) _) (by omega) _
  clear HW
  have HR := hid (H.out.kept HB.out)
  have c1 := cell_regrown (Row.cell HR.out 1 _ rfl)
  have t1 := cell_regrown (HI.out.cell 1 _ rfl)
  simp only [Act.put]
  refine wp_region_quiet_below (by kernel_rfl) (by decide +kernel) ?_
  repeat (go_big_quiet_step (fail))
  refine wpQuiet_nil ?_
  intro _ hw'
  obtain ⟨⟨dq, osq⟩, hw''⟩ := hw'
  subst hw''
  have HBq : Hid (Below wa.heap.size wa (grow (redrawn wa dq) osq)) := below_regrown wa dq osq
  show Exit.then _ _ _ _ (grow (redrawn wa dq) osq)
  generalize grow (redrawn wa dq) osq = wq at *
  clear c1 t1
  have HXq := hid (HX.out.kept HBq.out HX.out.lt)
  have HIq := hid (HI.out.kept HBq.out HI.out.lt)
  have HTq := hid (HT.out.kept HBq.out HT.out.lt)
  have HBw := hid (HB.out.trans (HBq.out.mono HB.out.size))
  have t0 := HIq.out.cell 0 _ rfl
  have f7 := HTq.out.cell 9 _ rfl
  have hnf := fnil34
  go_upto_region 6 with fail
  clear hnf t0 f7
  have HS3 : Hid (w.heap.size + 1 + 1 < wq.heap.size) := HTq.out.lt
  refine wp_act fun A HF => ?_
  have F0 : Hid (A.tmps[0]? = some (.pointer (some ⟨p, 0, none⟩))) := by show _ = _; rw [HF.out]; rfl
  have F1 : Hid (A.tmps[1]? = some (.int .u64 (now : Int))) := by show _ = _; rw [HF.out]; rfl
  have F5 : Hid (A.tmps[5]? = some (.pointer (some ⟨w.heap.size, 0, none⟩))) := by show _ = _; rw [HF.out]; rfl
  have F6 : Hid (A.tmps[6]? = some (.pointer (some ⟨w.heap.size + 1, 0, none⟩))) := by show _ = _; rw [HF.out]; rfl
  have F8 : Hid (A.tmps[8]? = some (.pointer (some ⟨w.heap.size + 1 + 1, 0, none⟩))) := by show _ = _; rw [HF.out]; rfl
  have FS : Hid (A.tmps.size = 51) := by show _ = _; rw [HF.out]; rfl
  have FD : Hid (A.defers = []) := by show _ = _; rw [HF.out]
  clear HF
  refine wp_region_any (by kernel_rfl) ?_
  have hstart : HG w wq.heap.size p w.heap.size (w.heap.size + 1) (w.heap.size + 1 + 1) [.int .i64 9, .int .i64 F.path, x2, x3, x4, x5, x6, .int .u32 (u f.tok), .int .u32 (u f.non), .slice a f.bs.length m, .bool f.bk, x11] F' o (List.replicate 12 false) { wq with drawn := wq.drawn + 1 } :=
    ⟨HIq.out.drawn _, HTq.out.drawn _, fun _ => below_drawn HBw.out _, fun h => by simp at h, Nat.le_refl _, ⟨frZ, HXq.out.drawn _, rfl, fun h => by simp at h⟩⟩
  refine wpAny_last 11 rfl (by decide +kernel) (by decide +kernel) (HG w wq.heap.size p w.heap.size (w.heap.size + 1) (w.heap.size + 1 + 1) [.int .i64 9, .int .i64 F.path, x2, x3, x4, x5, x6, .int .u32 (u f.tok), .int .u32 (u f.non), .slice a f.bs.length m, .bool f.bk, x11] F' o) (HS wq.heap.size w.heap.size (w.heap.size + 1 + 1) p 9 34 now [.int .i64 9, .int .i64 F.path, x2, x3, x4, x5, x6, .int .u32 (u f.tok), .int .u32 (u f.non), .slice a f.bs.length m, .bool f.bk, x11] o b) hstart ?step ?last
  case last =>
    intro l af wx hS hall
    obtain ⟨v9, hv9, s9⟩ := hS.new 9 _ 50 (hall 9 (by decide)) rfl rfl
    obtain rfl : v9 = .bool b := (Option.some.inj s9).symm
    obtain ⟨c6, R6, l6, fr6⟩ := hS.bel.r6
    have fr := fr6 (hall 10 (by decide))
    obtain ⟨hfz, hoz⟩ := hS.bel.yes (hall 7 (by decide))
    have e6 : af.tmps[6]? = some (.pointer (some ⟨w.heap.size + 1, 0, none⟩)) := hS.oldt (by decide +kernel) F6.out
    have hd : af.defers = [] := hS.defers.trans FD.out
    have hsz : af.tmps.size = 51 := hS.size.trans FS.out
    refine wpOp_of rfl rfl ?_
    refine step_asg rfl (eval_tmp hv9) ?_
    obtain ⟨ag, hag⟩ : ∃ ag, ag = af.put (some 7) (.bool b) := ⟨_, rfl⟩
    have a6 : ag.tmps.getD 6 undef = .pointer (some ⟨w.heap.size + 1, 0, none⟩) := by
      rw [hag]
      show (af.tmps.setIfInBounds 7 (.bool b)).getD 6 undef = _
      rw [Array.getD_eq_getD_getElem?, Array.getElem?_setIfInBounds_ne (by decide), e6]; rfl
    have a7 : ag.tmps.getD 7 undef = .bool b := by
      rw [hag]
      show (af.tmps.setIfInBounds 7 (.bool b)).getD 7 undef = _
      rw [Array.getD_eq_getD_getElem?, Array.getElem?_setIfInBounds_self_of_lt (by rw [hsz]; decide)]; rfl
    have ad : ag.defers = [] := by rw [hag]; exact hd
    show Exit.then _ _ Exit.normal (af.put (some 7) (.bool b)) wx
    rw [← hag]
    clear hag e6 hv9 s9 hS hall hd hsz
    go_wp2_with fail
    exact bodyPost_ret (R6.result2 Tryd.results15 _ a6 a7 _ Tryd.underlying29 rfl (by rw [l6]; exact i29)) ad ⟨_, rfl, fr.less (by have := HS3.out; omega), hfz, hoz⟩
  case step =>
    intro l af wx i hS hiN hf hm
    rcases (show i = 0 ∨ i = 1 ∨ i = 2 ∨ i = 3 ∨ i = 4 ∨ i = 5 ∨ i = 6 ∨ i = 7 ∨ i = 8 ∨ i = 9 ∨ i = 10 by omega) with rfl | rfl | rfl | rfl | rfl | rfl | rfl | rfl | rfl | rfl | rfl
    · refine wpOp_of rfl rfl ?_
      refine step_f290 rfl (hS.oldv (t := 5) (by decide +kernel) F5.out) ?_
      exact hS.step rfl rfl (by rw [FS.out]; decide) (by decide +kernel) rfl (hS.bel.same 0 (by decide) (by decide)) (fun _ _ _ q => q)
    · refine wpOp_of rfl rfl ?_
      obtain ⟨va, ea, sa⟩ := hS.val hm rfl (j := 0) rfl rfl (by decide +kernel)
      obtain rfl : va = .pointer (some ⟨w.heap.size, 0, none⟩) := (Option.some.inj sa).symm
      refine step_ld3 rfl ea (hS.bel.r5.cell 0 _ rfl) ?_
      exact hS.step rfl rfl (by rw [FS.out]; decide) (by decide +kernel) rfl (hS.bel.same 1 (by decide) (by decide)) (fun _ _ _ q => q)
    · refine wpOp_of rfl rfl ?_
      obtain ⟨va, ea, sa⟩ := hS.val hm rfl (j := 1) rfl rfl (by decide +kernel)
      obtain rfl : va = .int .i64 9 := (Option.some.inj sa).symm
      refine step_idx9 rfl (hS.oldv (t := 8) (by decide +kernel) F8.out) ea ?_
      exact hS.step rfl rfl (by rw [FS.out]; decide) (by decide +kernel) rfl (hS.bel.same 2 (by decide) (by decide)) (fun _ _ _ q => q)
    · refine wpOp_of rfl rfl ?_
      obtain ⟨va, ea, sa⟩ := hS.val hm rfl (j := 2) rfl rfl (by decide +kernel)
      obtain rfl : va = .pointer (some ⟨w.heap.size + 1 + 1, 9, none⟩) := (Option.some.inj sa).symm
      refine step_ld62 rfl ea (hS.bel.r8.cell 9 _ rfl) ?_
      exact hS.step rfl rfl (by rw [FS.out]; decide) (by decide +kernel) rfl (hS.bel.same 3 (by decide) (by decide)) (fun _ _ _ q => q)
    · refine wpOp_of rfl rfl ?_
      refine step_move rfl (hS.oldv (t := 0) (by decide +kernel) F0.out) ?_
      exact hS.step rfl rfl (by rw [FS.out]; decide) (by decide +kernel) rfl (hS.bel.same 4 (by decide) (by decide)) (fun _ _ _ q => q)
    · refine wpOp_of rfl rfl ?_
      refine step_move rfl (hS.oldv (t := 1) (by decide +kernel) F1.out) ?_
      exact hS.step rfl rfl (by rw [FS.out]; decide) (by decide +kernel) rfl (hS.bel.same 5 (by decide) (by decide)) (fun _ _ _ q => q)
    · refine wpOp_of rfl rfl ?_
      refine step_loadR hS.bel.r5 rfl rfl (hS.oldv (t := 5) (by decide +kernel) F5.out) ?_
      exact hS.step rfl rfl (by rw [FS.out]; decide) (by decide +kernel) rfl (hS.bel.same 6 (by decide) (by decide)) (fun _ _ _ q => q)
    · refine wpOp_of rfl rfl ?_
      obtain ⟨va, ea, sa⟩ := hS.val hm rfl (j := 3) rfl rfl (by decide +kernel)
      obtain rfl : va = .func (.func 34) #[] #[] := (Option.some.inj sa).symm
      obtain ⟨vb, eb, sb⟩ := hS.val hm rfl (j := 4) rfl rfl (by decide +kernel)
      obtain rfl : vb = .pointer (some ⟨p, 0, none⟩) := (Option.some.inj sb).symm
      obtain ⟨vc, ec, sc⟩ := hS.val hm rfl (j := 5) rfl rfl (by decide +kernel)
      obtain rfl : vc = .int .u64 (now : Int) := (Option.some.inj sc).symm
      obtain ⟨vd, ed, sd⟩ := hS.val hm rfl (j := 6) rfl rfl (by decide +kernel)
      obtain rfl : vd = .agg ([.int .i64 9, .int .i64 F.path, x2, x3, x4, x5, x6, .int .u32 (u f.tok), .int .u32 (u f.non), .slice a f.bs.length m, .bool f.bk, x11] : List Value).toArray := (Option.some.inj sd).symm
      have hno : l[7]? ≠ some true := by rw [hf]; simp
      have hbx := hS.bel.no hno
      refine step_callt cf34 rfl ea eb ec ed (G := fun v w' => ∃ x, v = .tuple #[x, .bool b] ∧ FrA wx.heap.size o x w' ∧ HfAt w' p F' ∧ Only p wx w') ((HC.out wx hbx).mono fun e w' ⟨v, h1, h2, h3, h4⟩ => ⟨_, h1, v, rfl, h2, h3, h4⟩) ?_
      rintro v w' ⟨x, rfl, hx, hp', ho'⟩
      have hpq : p < wq.heap.size := by have := HLT.out; have := HS3.out; omega
      refine hS.step rfl rfl (by rw [FS.out]; decide) (by decide +kernel) ⟨x, rfl, hx.less hS.bel.size⟩ ?_ (fun j v _ q => q.only ho' hpq)
      obtain ⟨c6, R6, l6, fr6⟩ := hS.bel.r6
      refine ⟨ho'.row hS.bel.r5 (by have := HLT.out; omega), ho'.row hS.bel.r8 (by have := HLT.out; omega), ?_, fun _ => ⟨hp', (below_only hbx p).trans ho'⟩, Nat.le_trans hS.bel.size ho'.size, c6, ho'.row R6 (by have := HLT.out; omega), l6, ?_⟩
      · intro hn; exact absurd (by rw [List.getElem?_set_self (by have := (List.getElem?_eq_some_iff.1 hf).1; exact this)]) hn
      · rw [List.getElem?_set_ne (by decide)]; intro h10; exact (fr6 h10).only ho' hpq
    · refine wpOp_of rfl rfl ?_
      obtain ⟨va, ea, sa⟩ := hS.val hm rfl (j := 7) rfl rfl (by decide +kernel)
      obtain ⟨x, rfl, hx⟩ : ∃ x, va = .tuple #[x, .bool b] ∧ FrA wq.heap.size o x wx := sa
      refine step_ext0 rfl ea ?_
      exact hS.step rfl rfl (by rw [FS.out]; decide) (by decide +kernel) hx (hS.bel.same 8 (by decide) (by decide)) (fun _ _ _ q => q)
    · refine wpOp_of rfl rfl ?_
      obtain ⟨va, ea, sa⟩ := hS.val hm rfl (j := 7) rfl rfl (by decide +kernel)
      obtain ⟨x, rfl, hx⟩ : ∃ x, va = .tuple #[x, .bool b] ∧ FrA wq.heap.size o x wx := sa
      refine step_ext1 rfl ea ?_
      exact hS.step rfl rfl (by rw [FS.out]; decide) (by decide +kernel) rfl (hS.bel.same 9 (by decide) (by decide)) (fun _ _ _ q => q)
    · refine wpOp_of rfl rfl ?_
      obtain ⟨va, ea, sa⟩ := hS.val hm rfl (j := 8) rfl rfl (by decide +kernel)
      have fa : FrA wq.heap.size o va wx := sa
      obtain ⟨mm, rfl, om⟩ := fa
      obtain ⟨ma, mc, rfl, _, _⟩ := om.shape
      obtain ⟨c6, R6, l6, fr6⟩ := hS.bel.r6
      have g6q : w.heap.size + 1 < wq.heap.size := by have := HS3.out; omega
      refine step_storeA (c' := frC o.k o.p o.tok o.non (.slice ma o.bs.length mc) o.bk) R6 rfl (hS.oldv (t := 6) (by decide +kernel) F6.out) ea (by rw [l6]; rfl) (frC_one _ _ _ _ _ _ _ _) i29 ?_
      refine hS.stepNone rfl rfl ?_ (fun j v _ q => q.only (only_setRow wx _ _) g6q)
      refine ⟨hS.bel.r5.rowOther (by omega) _, hS.bel.r8.rowOther (by omega) _, ?_, ?_, Nat.le_trans hS.bel.size (by simp [World.setRow]), _, R6.row _, rfl, fun _ => ⟨_, rfl, ownB_set om g6q _⟩⟩
      · rw [List.getElem?_set_ne (by decide)]; intro h7; exact Go.below_setRow (hS.bel.no h7) (by omega) _
      · rw [List.getElem?_set_ne (by decide)]; intro h7; obtain ⟨y1, y2⟩ := hS.bel.yes h7; exact ⟨Row.rowOther y1 (by have := HLT.out; omega) _, y2.putRow (by omega) _⟩
end Go.Proofs.YtjpllcliehgnfaaDoor
