import Derived.Test.YtoeldomhkeancaaPrb
import Derived.OrdersHeld
import Derived.Deep.RegionLaw
import Derived.Deep.CutRange
namespace Go.Proofs.Ytoeldomhkeancaa
open Go.RowKit Go.Maps
set_option maxRecDepth 100000

theorem step_append_byb {P : Program} {w : World} {ops : Array Oper} {o : Oper} {a : Act} {K : Act → World → Prop} {Q : Exit → Act → World → Prop} {E : Prop} (hgd : o.guard = none) (s x : Operand) (t : TypeId)
    (ho : o.op = .call { callee := .builtin .append, args := #[s, x], argTypes := #[t, t] }) {v u v' : Value} {w' : World} (hs : a.eval s = v) (hx : a.eval x = u)
    (hr : (Builtin.append_ #[t, t] o.type #[v, u]).run P w = .ok v' w') (h : K (a.put o.dst v') w') : if Region.wanted o (yielded ops a.tmps) = true then Oper.wp P o a w K Q else E := by
  have hw : Region.wanted o (yielded ops a.tmps) = true := by simp [Region.wanted, hgd]
  rw [if_pos hw]
  unfold Oper.wp execOp
  simp only [ho, resolve, invoke, builtin, Sem.run_bind, Sem.run_pure, Result.andThen_ok, List.map_toArray, List.map_cons, List.map_nil, hs, hx, hr]
  exact h
theorem step_callxb {P : Program} {o : Oper} {a : Act} {w : World} {K : Act → World → Prop} {Q : Exit → Act → World → Prop} {f : FuncId} {args : Array Value} {G : Value → World → Prop} (e : (execOp a.eval o).run P w = .ok (.enter f args) w)
    (hc : Calls P f args w fun e w' => ∃ v, e = .returned v ∧ G v w') (h : ∀ v w', G v w' → K (a.put o.dst v) w') : Oper.wp P o a w K Q := by
  unfold Oper.wp
  rw [e, Oper.upon_enter]
  refine Calls.mono hc ?_
  rintro e w' ⟨v, rfl, hg⟩
  exact h v w' hg
/-- What a push has to do once the item lies behind the others. -/
structure PuIb (w : World) (p o n : Nat) (c : List Value) (v : Value) (L0 : List (It Value)) (k : Nat) (L : List (It Value)) : Prop where
  at_ : HMb w p o c v L
  len : L.length = n
  up : UpI n (kat L) k
  lt : k < n
  perm : L.Perm L0
theorem push_memb {w w1 w2 w5 : World} {p : Nat} {v v' : Option Nat} (HG : Below w.heap.size w w1) (HB : Below w1.heap.size w1 w2) (HF : Fr (fun k => k = p ∨ v = some k) w2 w5) (HN : ∀ g, v' = some g → v = some g ∨ w2.heap.size ≤ g) :
    ∀ w', Fr (fun k => v' = some k) w5 w' → Fr (fun k => k = p ∨ v = some k) w w' ∧ ∀ g, v' = some g → v = some g ∨ w.heap.size ≤ g := fun w' hf => by
  have f2 : Fr (fun k => k = p ∨ v = some k) w w2 := (Fr.of_below HG (Nat.le_refl _)).trans (T := fun _ => False) (Fr.of_below HB (Nat.le_refl _)) (fun _ e => e.elim)
  have f5 := f2.trans HF (fun _ e => .inl e)
  have hn : ∀ g, v' = some g → v = some g ∨ w.heap.size ≤ g := fun g e => by
    rcases HN g e with e | e
    · exact .inl e
    · exact .inr (Nat.le_trans f2.size e)
  exact ⟨f5.trans hf (fun x e => by rcases hn x e with e | e; exact .inl (.inr e); exact .inr e), hn⟩
theorem PuIb.below {w w' : World} {p o n : Nat} {c : List Value} {v : Value} {L0 : List (It Value)} {k : Nat} {L : List (It Value)} (h : PuIb w p o n c v L0 k L) (hb : Below w.heap.size w w') : PuIb w' p o n c v L0 k L :=
  ⟨h.at_.below hb, h.len, h.up, h.lt, h.perm⟩
/-- Two items change their places. -/
theorem PuIb.step {w : World} {p o n g m cap : Nat} {c : List Value} {L0 : List (It Value)} {k : Nat} {L : List (It Value)} (h : PuIb w p o n c (.slice (some ⟨g, 0, none⟩) m cap) L0 k L) {x y : It Value} (hk : ¬ k = 0) (hx : L[k]? = some x) (hy : L[par k]? = some y) (ha : Ah x.key y.key) :
    PuIb ((w.setCells g (k * 3) (icells y)).setCells g (par k * 3) (icells x)) p o n c (.slice (some ⟨g, 0, none⟩) m cap) L0 (par k) (sw L k (par k) x y) ∧ Fr (fun j => (Value.slice (some ⟨g, 0, none⟩) m cap).ownBlock = some j) w ((w.setCells g (k * 3) (icells y)).setCells g (par k * 3) (icells x)) := by
  have lk := (List.getElem?_eq_some_iff.1 hx).1
  have lp := (List.getElem?_eq_some_iff.1 hy).1
  have hp := par_lt (j := k) (by omega)
  have s1 := h.at_.setI rfl lk (h.at_.one y (List.mem_of_getElem? hy))
  have s2 := s1.1.setI (k := par k) (x := x) rfl (by simpa using lp) (h.at_.one x (List.mem_of_getElem? hx))
  refine ⟨⟨s2.1, by rw [← h.len]; simp [sw], ?_, by have := h.len; omega, (sw_perm hx hy).trans h.perm⟩, s1.2.trans s2.2 (fun _ e => .inl e)⟩
  show UpI n (kat (sw L k (par k) x y)) (par k)
  rw [kat_sw hx hy]
  exact h.up.step (by omega) (by have := h.len; omega) (by rw [kat_get hx, kat_get hy]; exact ha)
def PuEndb (w : World) (p o : Nat) (c : List Value) (v : Value) (L : List (It Value)) (x : It Value) (w' : World) : Prop :=
  ∃ v' L', HMb w' p o (c.set o v') v' L' ∧ L'.Perm (L ++ [x]) ∧ Hp L'.length (kat L') ∧ Fr (fun j => j = p ∨ v.ownBlock = some j) w w' ∧ ∀ g, v'.ownBlock = some g → v.ownBlock = some g ∨ w.heap.size ≤ g
set_option maxHeartbeats 4000000 in
theorem push_b {w : World} {p o : Nat} {c : List Value} {v : Value} {L : List (It Value)} (h : HMb w p o c v L) (hh : Hp L.length (kat L)) {x : It Value} (hx : x.what.oneCell' = true) (hl : L.length ≤ 2932031007402) :
    Calls Try.prog 36 #[pt p o, .agg (icells x).toArray] w fun e w' => e = .returned (.tuple #[]) ∧ ∃ v' L', HMb w' p o (c.set o v') v' L' ∧ L'.Perm (L ++ [x]) ∧ Hp L'.length (kat L') ∧ Fr (fun j => j = p ∨ v.ownBlock = some j) w w' ∧ ∀ g, v'.ownBlock = some g → v.ownBlock = some g ∨ w.heap.size ≤ g := by
  obtain ⟨xa, xn, xw⟩ := x
  have hbox := below_new w (.cells #[.int .u64 xa, .int .u64 xn, xw] 70)
  have RB := Row.new w [.int .u64 xa, .int .u64 xn, xw] 70
  have h1 := h.below hbox
  have HG := hid hbox
  simp only [icells]
  dsimp only at hx
  go_enter Try.func36, Try.ntmps36
  go_upto_region 1 with fail
  revert hbox RB h1 HG
  generalize w.alloc (.cells #[.int .u64 xa, .int .u64 xn, xw] 70) = w1
  intro hbox RB h1 HG
  have hb2 := below_new w1 (.cells #[.int .u64 xa, .int .u64 xn, xw] 70)
  have hbd := below_drewN hb2 1
  have RX2 := (Row.new w1 [.int .u64 xa, .int .u64 xn, xw] 70).drew 1
  obtain ⟨v', w4, hrun, hM4, hF4, hF5, hn4, g4, cap4, e4⟩ := push_run_b (x := ⟨xa, xn, xw⟩) (h1.below hbd) hx hl RX2 34
  have c1 := h1.cell
  have c1a := (h1.row.alloc (.cells #[.int .u64 xa, .int .u64 xn, xw] 70)).cell o v h1.get
  have RP4 := hF4.row (h1.below hbd).row h1.ap
  have c4 := RP4.cell o v h1.get
  have f4 := RP4.frozen o
  obtain ⟨b0, hb0⟩ : ∃ b0, w.heap.size = b0 := ⟨_, rfl⟩
  rw [hb0] at RB ⊢
  have x0 := RB.cell 0 _ rfl
  have x1 := RB.cell 1 _ rfl
  have x2 := RB.cell 2 _ rfl
  have RBA := RB.alloc (.cells #[.int .u64 xa, .int .u64 xn, xw] 70)
  have x0a := RBA.cell 0 _ rfl
  have x1a := RBA.cell 1 _ rfl
  have x2a := RBA.cell 2 _ rfl
  have hbs := bsl_b
  have HN4 := hid hn4
  have HF5 := hid hF5
  have HM4 := hid hM4
  have HH := hid hh
  have HX := hid hx
  have HL := hid hl
  have HB2 := hid hbd
  obtain ⟨a1, k1, hv1, -⟩ := h1.slice
  rw [hv1] at c1 c1a c4 hrun
  subst e4
  have HRUN := hid hrun
  clear hb2 hbd RX2 hrun hM4 hF4 hF5 hn4 RP4 RB RBA h1 hbox h hh hx hl
  go_cut [] from 6 to 15 (fun wx => wx = w4.setCell ⟨p, o, none⟩ (.slice (some ⟨g4, 0, none⟩) (L.length + 1) cap4))
  case first =>
    go_region_law (refine step_append_byb (by rfl) _ _ _ (by rfl) (by rfl) (by rfl) HRUN.out ?_)
    all_goals go_wp2_with fail
    all_goals go_meet
    all_goals rfl
  case rest =>
    have HE : Hid (∀ wr k Lr, PuIb wr p o (L.length + 1) (c.set o (.slice (some ⟨g4, 0, none⟩) (L.length + 1) cap4)) (.slice (some ⟨g4, 0, none⟩) (L.length + 1) cap4) (L ++ [⟨xa, xn, xw⟩]) k Lr → (k = 0 ∨ Le (kat Lr (par k)) (kat Lr k)) → Fr (fun j => (Value.slice (some ⟨g4, 0, none⟩) (L.length + 1) cap4).ownBlock = some j) wc wr → PuEndb w p o c v L ⟨xa, xn, xw⟩ wr) := fun wr k Lr hI hk hF => by
      rw [hcut] at hF
      obtain ⟨hf, hn⟩ := push_memb HG.out HB2.out HF5.out HN4.out wr hF
      exact ⟨_, _, hI.at_, hI.perm, by rw [hI.len]; exact hI.up.done hk, hf, hn⟩
    have HS : Hid (PuIb _ _ _ (L.length + 1) _ _ _ L.length _) := hid ⟨HM4.out, by simp, up_start HH.out ⟨xa, xn, xw⟩, by omega, List.Perm.refl _⟩
    have hn : L.length + 1 ≤ 2932031007403 := by have := HL.out; omega
    have hnk : (L.length + 1 : Int) - 1 = (L.length : Int) := by omega
    rw [← hcut] at HS
    have c5 := HS.out.at_.cell
    clear hcut c1 c1a c4 f4 x0 x1 x2 x0a x1a x2a hbs HM4 HN4 HF5 HRUN HB2 HG HH HX hb0 hv1
    generalize L ++ [(⟨xa, xn, xw⟩ : It Value)] = L0 at *
    generalize c.set o (.slice (some ⟨g4, 0, none⟩) (L.length + 1) cap4) = c' at *
    have hni : ((L.length + 1 : Nat) : Int) ≤ 2932031007403 := by omega
    generalize L.length = m at *
    go_wp2_with fail
    go_loopw [5] (fun s wr => ∃ (k : Nat) (Lr : List (It Value)), s = .int .i64 k ∧ PuIb wr p o (m + 1) c' (.slice (some ⟨g4, 0, none⟩) (m + 1) cap4) L0 k Lr ∧ Fr (fun k => (Value.slice (some ⟨g4, 0, none⟩) (m + 1) cap4).ownBlock = some k) wc wr) (fun s _ => (intOf s).toNat)
    case atStart => exact ⟨m, L0, by go_num, HS.out, Fr.refl _ _⟩
    case round =>
      obtain ⟨k, Lr, rfl, hI, hF⟩ := hrel
      have HI := hid hI
      have HFr := hid hF
      have hkm := hI.lt
      clear hI hF HS
      by_cases hk : k = 0
      · subst hk
        have hd : decide ((0 : Int) < (((0 : Nat) : Int))) = false := by decide
        go_upto_region 4 with fail
        go_quiet (fail)
        go_wp2_with fail
        refine bodyPost_end (results_none Try.results36 _ _ _) rfl ?_
        exact ⟨rfl, HE.out _ _ _ (HI.out.below (below_drewN (Below.refl _ _) _)) (.inl rfl) (HFr.out.drewN _)⟩
      · have hk1 : (0 : Int) < (k : Int) := by omega
        have hki : (k : Int) ≤ 2932031007403 := by omega
        obtain ⟨x, hx⟩ : ∃ x, Lr[k]? = some x := ⟨_, List.getElem?_eq_getElem (by have := HI.out.len; omega)⟩
        obtain ⟨y, hy⟩ : ∃ y, Lr[par k]? = some y := ⟨_, List.getElem?_eq_getElem (by have := HI.out.len; have := par_lt (j := k) (by omega); omega)⟩
        have HAB : Hid (∀ w', Calls Try.prog 44 #[.int .i64 (k : Int)] w' fun e w2 => ∃ v, e = .returned v ∧ (v = .int .i64 ((par k : Nat) : Int) ∧ w2 = w')) := fun w' => (above_any w' k (by omega) (by omega)).mono fun e w2 ⟨h1, h2⟩ => ⟨_, h1, rfl, h2⟩
        have HAH : Hid (∀ w', Calls Try.prog 45 #[.agg (icells x).toArray, .agg (icells y).toArray] w' fun e w2 => ∃ v, e = .returned v ∧ (v = .bool (decide (Ah x.key y.key)) ∧ Below w'.heap.size w' w2)) := fun w' => (ahead_b w' x y (HI.out.at_.one x (List.mem_of_getElem? hx)) (HI.out.at_.one y (List.mem_of_getElem? hy))).mono fun e w2 ⟨h1, h2⟩ => ⟨_, h1, rfl, h2⟩
        have HLX : Hid (∀ w', Below wr.heap.size wr w' → w'.cell? ⟨g4, k * 3, none⟩ = some (.int .u64 x.at_) ∧ w'.cell? ⟨g4, k * 3 + 1, none⟩ = some (.int .u64 x.num) ∧ w'.cell? ⟨g4, k * 3 + 2, none⟩ = some x.what) := fun w' hb => (HI.out.at_.below hb).cells3 rfl hx
        have HLY : Hid (∀ w', Below wr.heap.size wr w' → w'.cell? ⟨g4, par k * 3, none⟩ = some (.int .u64 y.at_) ∧ w'.cell? ⟨g4, par k * 3 + 1, none⟩ = some (.int .u64 y.num) ∧ w'.cell? ⟨g4, par k * 3 + 2, none⟩ = some y.what) := fun w' hb => (HI.out.at_.below hb).cells3 rfl hy
        have hpk : ((par k : Nat) : Int) < (m : Int) + 1 := by have := par_lt (j := k) (by omega); omega
        have hkm1 : (k : Int) < (m : Int) + 1 := by omega
        have HX := hid hx
        have HY := hid hy
        clear hx hy
        go_upto_region 4 with fail
        refine wp_region_some (fun w' => Below wr.heap.size wr w') [] (by kernel_rfl) ?_
        have hHeld := (show (fun w' => Below wr.heap.size wr w') wr.drew from below_drewN (Below.refl _ _) 1)
        refine wpAnyG_take' (i := 0) (oi := { dst := some 23, op := Go.Op.move (Go.Operand.tmp 5), type := 3, pos := "heap.go:27", after := #[], guard := none }) (v := ?v3_0) rfl (by kernel_rfl) (by kernel_rfl) (by kernel_rfl) (fun _ _ _ h => h) (Or.inl ⟨by kernel_rfl, ?h3_0⟩) ?r3_0
        case h3_0 => (intro wt hSw; clear hSw; go_simp; try with_reducible rfl)
        simp only [Act.put, List.setIfInBounds_toArray, List.set_cons_zero, List.set_cons_succ]
        refine wpAnyG_take' (i := 1) (oi := { dst := some 24, op := Go.Op.binOp Go.BinOp.gtr 3 (Go.Operand.tmp 23) (Go.Operand.const (Go.Value.int Go.IntKind.i64 0)) 3, type := 4, pos := "heap.go:27", after := #[{ on := 0, ground := Go.Ground.data }], guard := none }) (v := .bool true) rfl (by kernel_rfl) (by kernel_rfl) (by kernel_rfl) (fun _ _ _ h => h) (Or.inl ⟨by kernel_rfl, ?h3_1⟩) ?r3_1
        case h3_1 => (intro wt hSw; clear hSw; go_simp; omega)
        simp only [Act.put, List.setIfInBounds_toArray, List.set_cons_zero, List.set_cons_succ]
        refine wpAnyG_take' (i := 2) (oi := { dst := some 25, op := Go.Op.move (Go.Operand.tmp 24), type := 4, pos := "heap.go:27", after := #[{ on := 1, ground := Go.Ground.data }], guard := none }) (v := .bool true) rfl (by kernel_rfl) (by kernel_rfl) (by kernel_rfl) (fun _ _ _ h => h) (Or.inl ⟨by kernel_rfl, ?h3_2⟩) ?r3_2
        case h3_2 => (intro wt hSw; clear hSw; go_simp; try with_reducible rfl)
        simp only [Act.put, List.setIfInBounds_toArray, List.set_cons_zero, List.set_cons_succ]
        refine wpAnyG_take' (i := 3) (oi := { dst := some 26, op := Go.Op.move (Go.Operand.tmp 4), type := 34, pos := "heap.go:27", after := #[{ on := 2, ground := Go.Ground.guard }], guard := some (2, true) }) (v := ?v3_3) rfl (by kernel_rfl) (by kernel_rfl) (by kernel_rfl) (fun _ _ _ h => h) (Or.inl ⟨by kernel_rfl, ?h3_3⟩) ?r3_3
        case h3_3 => (intro wt hSw; clear hSw; go_simp; try with_reducible rfl)
        simp only [Act.put, List.setIfInBounds_toArray, List.set_cons_zero, List.set_cons_succ]
        refine wpAnyG_take' (i := 4) (oi := { dst := some 27, op := Go.Op.move (Go.Operand.tmp 5), type := 3, pos := "heap.go:27", after := #[{ on := 2, ground := Go.Ground.guard }], guard := some (2, true) }) (v := ?v3_4) rfl (by kernel_rfl) (by kernel_rfl) (by kernel_rfl) (fun _ _ _ h => h) (Or.inl ⟨by kernel_rfl, ?h3_4⟩) ?r3_4
        case h3_4 => (intro wt hSw; clear hSw; go_simp; try with_reducible rfl)
        simp only [Act.put, List.setIfInBounds_toArray, List.set_cons_zero, List.set_cons_succ]
        refine wpAnyG_take' (i := 5) (oi := { dst := some 28, op := Go.Op.indexAddr 34 (Go.Operand.tmp 26) (Go.Operand.tmp 27), type := 0, pos := "heap.go:27", after := #[{ on := 3, ground := Go.Ground.data }, { on := 4, ground := Go.Ground.data }, { on := 2, ground := Go.Ground.guard }], guard := some (2, true) }) (v := .pointer (some ⟨g4, k * 3, none⟩)) rfl (by kernel_rfl) (by kernel_rfl) (by kernel_rfl) (fun _ _ _ h => h) (Or.inl ⟨by kernel_rfl, ?h3_5⟩) ?r3_5
        case h3_5 => (intro wt hSw; clear hSw; go_simp; try with_reducible rfl)
        simp only [Act.put, List.setIfInBounds_toArray, List.set_cons_zero, List.set_cons_succ]
        refine wpAnyG_take (i := 6) (oi := { dst := some 29, op := Go.Op.load 70 (Go.Operand.tmp 28), type := 70, pos := "heap.go:27", after := #[{ on := 5, ground := Go.Ground.data }, { on := 2, ground := Go.Ground.guard }], guard := some (2, true) }) (v := .agg (icells x).toArray) (by kernel_rfl) rfl (by kernel_rfl) (by kernel_rfl) (by kernel_rfl) (by kernel_rfl) (fun _ _ _ h => h) (Or.inl ⟨by kernel_rfl, ?h3_6⟩) (by assumption) ?r3_6
        case h3_6 => (intro wt hSw; (try dsimp only at hSw); obtain ⟨l0, l1, l2⟩ := HLX.out _ hSw; go_simp; try rfl)
        simp only [Act.put, List.setIfInBounds_toArray, List.set_cons_zero, List.set_cons_succ]
        refine wpAnyG_take' (i := 7) (oi := { dst := some 30, op := Go.Op.move (Go.Operand.tmp 4), type := 34, pos := "heap.go:27", after := #[{ on := 2, ground := Go.Ground.guard }], guard := some (2, true) }) (v := ?v3_7) rfl (by kernel_rfl) (by kernel_rfl) (by kernel_rfl) (fun _ _ _ h => h) (Or.inl ⟨by kernel_rfl, ?h3_7⟩) ?r3_7
        case h3_7 => (intro wt hSw; clear hSw; go_simp; try with_reducible rfl)
        simp only [Act.put, List.setIfInBounds_toArray, List.set_cons_zero, List.set_cons_succ]
        refine wpAnyG_take' (i := 8) (oi := { dst := some 31, op := Go.Op.move (Go.Operand.tmp 5), type := 3, pos := "heap.go:27", after := #[{ on := 2, ground := Go.Ground.guard }], guard := some (2, true) }) (v := ?v3_8) rfl (by kernel_rfl) (by kernel_rfl) (by kernel_rfl) (fun _ _ _ h => h) (Or.inl ⟨by kernel_rfl, ?h3_8⟩) ?r3_8
        case h3_8 => (intro wt hSw; clear hSw; go_simp; try with_reducible rfl)
        simp only [Act.put, List.setIfInBounds_toArray, List.set_cons_zero, List.set_cons_succ]
        refine wpAnyG_one (i := 9) (o := { dst := some 32, op := Go.Op.call { callee := Go.Callee.value (Go.Operand.func 44), args := #[Go.Operand.tmp 31], argTypes := #[3] }, type := 3, pos := "heap.go:27", after := #[{ on := 8, ground := Go.Ground.data }, { on := 2, ground := Go.Ground.chain }, { on := 2, ground := Go.Ground.guard }], guard := some (2, true) }) rfl (by kernel_rfl) (by kernel_rfl) ?_
        refine step_callxb (f := 44) (args := #[.int .i64 (k : Int)]) (by first | kernel_rfl | go_simp) (HAB.out _) ?_
        rintro v5 w5 ⟨rfl, rfl⟩
        refine ⟨fun _ h => h, ?_⟩
        simp only [Act.put, List.setIfInBounds_toArray, List.set_cons_zero, List.set_cons_succ]
        refine wpAnyG_take' (i := 10) (oi := { dst := some 33, op := Go.Op.indexAddr 34 (Go.Operand.tmp 30) (Go.Operand.tmp 32), type := 0, pos := "heap.go:27", after := #[{ on := 7, ground := Go.Ground.data }, { on := 9, ground := Go.Ground.data }, { on := 2, ground := Go.Ground.guard }], guard := some (2, true) }) (v := .pointer (some ⟨g4, par k * 3, none⟩)) rfl (by kernel_rfl) (by kernel_rfl) (by kernel_rfl) (fun _ _ _ h => h) (Or.inl ⟨by kernel_rfl, ?h3_10⟩) ?r3_10
        case h3_10 => (intro wt hSw; clear hSw; go_simp; try with_reducible rfl)
        simp only [Act.put, List.setIfInBounds_toArray, List.set_cons_zero, List.set_cons_succ]
        refine wpAnyG_take (i := 11) (oi := { dst := some 34, op := Go.Op.load 70 (Go.Operand.tmp 33), type := 70, pos := "heap.go:27", after := #[{ on := 10, ground := Go.Ground.data }, { on := 2, ground := Go.Ground.guard }], guard := some (2, true) }) (v := .agg (icells y).toArray) (by kernel_rfl) rfl (by kernel_rfl) (by kernel_rfl) (by kernel_rfl) (by kernel_rfl) (fun _ _ _ h => h) (Or.inl ⟨by kernel_rfl, ?h3_11⟩) (by assumption) ?r3_11
        case h3_11 => (intro wt hSw; (try dsimp only at hSw); obtain ⟨l0, l1, l2⟩ := HLY.out _ hSw; go_simp; try rfl)
        simp only [Act.put, List.setIfInBounds_toArray, List.set_cons_zero, List.set_cons_succ]
        refine wpAnyG_one (i := 12) (o := { dst := some 35, op := Go.Op.call { callee := Go.Callee.value (Go.Operand.func 45), args := #[Go.Operand.tmp 29, Go.Operand.tmp 34], argTypes := #[70, 70] }, type := 4, pos := "heap.go:27", after := #[{ on := 6, ground := Go.Ground.data }, { on := 11, ground := Go.Ground.data }, { on := 9, ground := Go.Ground.chain }, { on := 2, ground := Go.Ground.guard }], guard := some (2, true) }) rfl (by kernel_rfl) (by kernel_rfl) ?_
        refine step_callxb (f := 45) (args := #[.agg (icells x).toArray, .agg (icells y).toArray]) (by first | kernel_rfl | go_simp) (HAH.out _) ?_
        rintro v6 w6 ⟨rfl, hb6⟩
        have hHeld2 := (show (fun w' => Below wr.heap.size wr w') w6 from below_two hHeld hb6 (Nat.le_refl _))
        refine ⟨fun _ _ => hHeld2, ?_⟩
        simp only [Act.put, List.setIfInBounds_toArray, List.set_cons_zero, List.set_cons_succ]
        refine wpAnyG_take' (i := 13) (oi := { dst := some 36, op := Go.Op.pick (Go.Operand.tmp 25) (Go.Operand.tmp 35) (Go.Operand.const (Go.Value.bool false)), type := 4, pos := "heap.go:27", after := #[{ on := 2, ground := Go.Ground.data }, { on := 12, ground := Go.Ground.data }], guard := none }) (v := ?v3_13) rfl (by kernel_rfl) (by kernel_rfl) (by kernel_rfl) (fun _ _ _ h => h) (Or.inl ⟨by kernel_rfl, ?h3_13⟩) ?r3_13
        case h3_13 => (intro wt hSw; clear hSw; go_simp; try with_reducible rfl)
        simp only [Act.put, List.setIfInBounds_toArray, List.set_cons_zero, List.set_cons_succ]
        refine wpAnyG_done (by kernel_rfl) ?_ _
        have HB6 : Hid (Below wr.heap.size wr w6) := hHeld2
        clear hHeld hHeld2 hb6 HAH HLX HLY
        by_cases hAh : Ah x.key y.key
        · have hd1 : decide (Ah x.key y.key) = true := decide_eq_true hAh
          rw [hd1]
          go_upto_region 6 with fail
          have HI6 : Hid (PuIb w6.drew p o (m + 1) c' (.slice (some ⟨g4, 0, none⟩) (m + 1) cap4) L0 k Lr) := hid ((HI.out.below HB6.out).below (below_drewN (Below.refl _ _) 1))
          have HT := hid (HI6.out.step hk HX.out HY.out hAh)
          have HF6 : Hid (Fr (fun j => (Value.slice (some ⟨g4, 0, none⟩) (m + 1) cap4).ownBlock = some j) wc w6.drew) := (HFr.out.trans (T := fun _ => False) (Fr.of_below HB6.out (Nat.le_refl _)) (fun _ e => e.elim)).drewN 1
          have hkl : k < Lr.length := (List.getElem?_eq_some_iff.1 HX.out).1
          have hpl : par k < Lr.length := (List.getElem?_eq_some_iff.1 HY.out).1
          have HLX : Hid (_ ∧ _ ∧ _) := hid ((HI.out.below HB6.out).at_.cells3 rfl HX.out)
          have HLY : Hid (_ ∧ _ ∧ _) := hid ((HI.out.below HB6.out).at_.cells3 rfl HY.out)
          have HTX := hid (HI6.out.at_.frozen3 rfl hkl)
          have HTY := hid (HI6.out.at_.frozen3 rfl hpl)
          have hox := HI6.out.at_.one x (List.mem_of_getElem? HX.out)
          have hoy := HI6.out.at_.one y (List.mem_of_getElem? HY.out)
          clear HI HFr HB6
          refine wp_region_some (fun w' => w' = w6.drew) [15, 17] (by kernel_rfl) ?_
          have hHeld := (show (fun w' => w' = w6.drew) w6.drew from rfl)
          refine wpAnyG_take' (i := 0) (oi := { dst := some 39, op := Go.Op.move (Go.Operand.tmp 4), type := 34, pos := "heap.go:28", after := #[], guard := none }) (v := ?v4_0) rfl (by kernel_rfl) (by kernel_rfl) (by kernel_rfl) (fun _ _ _ h => h) (Or.inl ⟨by kernel_rfl, ?h4_0⟩) ?r4_0
          case h4_0 => (intro wt hSw; clear hSw; go_simp; try with_reducible rfl)
          simp only [Act.put, List.setIfInBounds_toArray, List.set_cons_zero, List.set_cons_succ]
          refine wpAnyG_take' (i := 1) (oi := { dst := some 40, op := Go.Op.move (Go.Operand.tmp 5), type := 3, pos := "heap.go:28", after := #[], guard := none }) (v := ?v4_1) rfl (by kernel_rfl) (by kernel_rfl) (by kernel_rfl) (fun _ _ _ h => h) (Or.inl ⟨by kernel_rfl, ?h4_1⟩) ?r4_1
          case h4_1 => (intro wt hSw; clear hSw; go_simp; try with_reducible rfl)
          simp only [Act.put, List.setIfInBounds_toArray, List.set_cons_zero, List.set_cons_succ]
          refine wpAnyG_take' (i := 2) (oi := { dst := some 41, op := Go.Op.move (Go.Operand.tmp 4), type := 34, pos := "heap.go:28", after := #[{ on := 15, ground := Go.Ground.gcOnly Go.Departure.lateStores }], guard := none }) (v := ?v4_2) rfl (by kernel_rfl) (by kernel_rfl) (by kernel_rfl) (fun _ _ _ h => h) (Or.inl ⟨by kernel_rfl, ?h4_2⟩) ?r4_2
          case h4_2 => (intro wt hSw; clear hSw; go_simp; try with_reducible rfl)
          simp only [Act.put, List.setIfInBounds_toArray, List.set_cons_zero, List.set_cons_succ]
          refine wpAnyG_take' (i := 3) (oi := { dst := some 42, op := Go.Op.move (Go.Operand.tmp 5), type := 3, pos := "heap.go:28", after := #[], guard := none }) (v := ?v4_3) rfl (by kernel_rfl) (by kernel_rfl) (by kernel_rfl) (fun _ _ _ h => h) (Or.inl ⟨by kernel_rfl, ?h4_3⟩) ?r4_3
          case h4_3 => (intro wt hSw; clear hSw; go_simp; try with_reducible rfl)
          simp only [Act.put, List.setIfInBounds_toArray, List.set_cons_zero, List.set_cons_succ]
          refine wpAnyG_take' (i := 5) (oi := { dst := some 44, op := Go.Op.move (Go.Operand.tmp 4), type := 34, pos := "heap.go:28", after := #[], guard := none }) (v := ?v4_5) rfl (by kernel_rfl) (by kernel_rfl) (by kernel_rfl) (fun _ _ _ h => h) (Or.inl ⟨by kernel_rfl, ?h4_5⟩) ?r4_5
          case h4_5 => (intro wt hSw; clear hSw; go_simp; try with_reducible rfl)
          simp only [Act.put, List.setIfInBounds_toArray, List.set_cons_zero, List.set_cons_succ]
          refine wpAnyG_take' (i := 6) (oi := { dst := some 45, op := Go.Op.move (Go.Operand.tmp 5), type := 3, pos := "heap.go:28", after := #[], guard := none }) (v := ?v4_6) rfl (by kernel_rfl) (by kernel_rfl) (by kernel_rfl) (fun _ _ _ h => h) (Or.inl ⟨by kernel_rfl, ?h4_6⟩) ?r4_6
          case h4_6 => (intro wt hSw; clear hSw; go_simp; try with_reducible rfl)
          simp only [Act.put, List.setIfInBounds_toArray, List.set_cons_zero, List.set_cons_succ]
          refine wpAnyG_take' (i := 10) (oi := { dst := some 49, op := Go.Op.move (Go.Operand.tmp 4), type := 34, pos := "heap.go:28", after := #[], guard := none }) (v := ?v4_10) rfl (by kernel_rfl) (by kernel_rfl) (by kernel_rfl) (fun _ _ _ h => h) (Or.inl ⟨by kernel_rfl, ?h4_10⟩) ?r4_10
          case h4_10 => (intro wt hSw; clear hSw; go_simp; try with_reducible rfl)
          simp only [Act.put, List.setIfInBounds_toArray, List.set_cons_zero, List.set_cons_succ]
          refine wpAnyG_take' (i := 11) (oi := { dst := some 50, op := Go.Op.move (Go.Operand.tmp 5), type := 3, pos := "heap.go:28", after := #[], guard := none }) (v := ?v4_11) rfl (by kernel_rfl) (by kernel_rfl) (by kernel_rfl) (fun _ _ _ h => h) (Or.inl ⟨by kernel_rfl, ?h4_11⟩) ?r4_11
          case h4_11 => (intro wt hSw; clear hSw; go_simp; try with_reducible rfl)
          simp only [Act.put, List.setIfInBounds_toArray, List.set_cons_zero, List.set_cons_succ]
          refine wpAnyG_take' (i := 12) (oi := { dst := some 51, op := Go.Op.indexAddr 34 (Go.Operand.tmp 49) (Go.Operand.tmp 50), type := 0, pos := "heap.go:28", after := #[{ on := 10, ground := Go.Ground.data }, { on := 11, ground := Go.Ground.data }], guard := none }) (v := .pointer (some ⟨g4, k * 3, none⟩)) rfl (by kernel_rfl) (by kernel_rfl) (by kernel_rfl) (fun _ _ _ h => h) (Or.inl ⟨by kernel_rfl, ?h4_12⟩) ?r4_12
          case h4_12 => (intro wt hSw; clear hSw; go_simp; try with_reducible rfl)
          simp only [Act.put, List.setIfInBounds_toArray, List.set_cons_zero, List.set_cons_succ]
          refine wpAnyG_take (i := 13) (oi := { dst := some 52, op := Go.Op.load 70 (Go.Operand.tmp 51), type := 70, pos := "heap.go:28", after := #[{ on := 12, ground := Go.Ground.data }], guard := none }) (v := .agg (icells x).toArray) (by kernel_rfl) rfl (by kernel_rfl) (by kernel_rfl) (by kernel_rfl) (by kernel_rfl) (fun _ _ _ h => h) (Or.inl ⟨by kernel_rfl, ?h4_13⟩) (by assumption) ?r4_13
          case h4_13 => (intro wt hSw; (try dsimp only at hSw); subst hSw; obtain ⟨l0, l1, l2⟩ := HLX.out; go_simp; try rfl)
          simp only [Act.put, List.setIfInBounds_toArray, List.set_cons_zero, List.set_cons_succ]
          refine wpAnyG_one (i := 4) (o := { dst := some 43, op := Go.Op.call { callee := Go.Callee.value (Go.Operand.func 44), args := #[Go.Operand.tmp 42], argTypes := #[3] }, type := 3, pos := "heap.go:28", after := #[{ on := 3, ground := Go.Ground.data }], guard := none }) rfl (by kernel_rfl) (by kernel_rfl) ?_
          refine step_callxb (f := 44) (args := #[.int .i64 (k : Int)]) (by first | kernel_rfl | go_simp) (HAB.out _) ?_
          rintro v7 w7 ⟨rfl, rfl⟩
          refine ⟨fun _ h => h, ?_⟩
          simp only [Act.put, List.setIfInBounds_toArray, List.set_cons_zero, List.set_cons_succ]
          refine wpAnyG_one (i := 7) (o := { dst := some 46, op := Go.Op.call { callee := Go.Callee.value (Go.Operand.func 44), args := #[Go.Operand.tmp 45], argTypes := #[3] }, type := 3, pos := "heap.go:28", after := #[{ on := 6, ground := Go.Ground.data }, { on := 4, ground := Go.Ground.chain }], guard := none }) rfl (by kernel_rfl) (by kernel_rfl) ?_
          refine step_callxb (f := 44) (args := #[.int .i64 (k : Int)]) (by first | kernel_rfl | go_simp) (HAB.out _) ?_
          rintro v8 w8 ⟨rfl, rfl⟩
          refine ⟨fun _ h => h, ?_⟩
          simp only [Act.put, List.setIfInBounds_toArray, List.set_cons_zero, List.set_cons_succ]
          refine wpAnyG_take' (i := 8) (oi := { dst := some 47, op := Go.Op.indexAddr 34 (Go.Operand.tmp 44) (Go.Operand.tmp 46), type := 0, pos := "heap.go:28", after := #[{ on := 5, ground := Go.Ground.data }, { on := 7, ground := Go.Ground.data }], guard := none }) (v := .pointer (some ⟨g4, par k * 3, none⟩)) rfl (by kernel_rfl) (by kernel_rfl) (by kernel_rfl) (fun _ _ _ h => h) (Or.inl ⟨by kernel_rfl, ?h4_8⟩) ?r4_8
          case h4_8 => (intro wt hSw; clear hSw; go_simp; try with_reducible rfl)
          simp only [Act.put, List.setIfInBounds_toArray, List.set_cons_zero, List.set_cons_succ]
          refine wpAnyG_take (i := 9) (oi := { dst := some 48, op := Go.Op.load 70 (Go.Operand.tmp 47), type := 70, pos := "heap.go:28", after := #[{ on := 8, ground := Go.Ground.data }], guard := none }) (v := .agg (icells y).toArray) (by kernel_rfl) rfl (by kernel_rfl) (by kernel_rfl) (by kernel_rfl) (by kernel_rfl) (fun _ _ _ h => h) (Or.inl ⟨by kernel_rfl, ?h4_9⟩) (by assumption) ?r4_9
          case h4_9 => (intro wt hSw; (try dsimp only at hSw); subst hSw; obtain ⟨l0, l1, l2⟩ := HLY.out; go_simp; try rfl)
          simp only [Act.put, List.setIfInBounds_toArray, List.set_cons_zero, List.set_cons_succ]
          refine wpAnyG_take' (i := 14) (oi := { dst := some 53, op := Go.Op.indexAddr 34 (Go.Operand.tmp 39) (Go.Operand.tmp 40), type := 0, pos := "heap.go:28", after := #[{ on := 0, ground := Go.Ground.data }, { on := 1, ground := Go.Ground.data }, { on := 0, ground := Go.Ground.phase }, { on := 1, ground := Go.Ground.phase }, { on := 2, ground := Go.Ground.textOnly Go.Departure.lateStores }, { on := 3, ground := Go.Ground.textOnly Go.Departure.lateStores }, { on := 4, ground := Go.Ground.phase }, { on := 5, ground := Go.Ground.phase }, { on := 6, ground := Go.Ground.phase }, { on := 7, ground := Go.Ground.phase }, { on := 8, ground := Go.Ground.phase }, { on := 9, ground := Go.Ground.phase }, { on := 10, ground := Go.Ground.textOnly Go.Departure.lateStores }, { on := 11, ground := Go.Ground.textOnly Go.Departure.lateStores }, { on := 12, ground := Go.Ground.textOnly Go.Departure.lateStoresUnsure }, { on := 13, ground := Go.Ground.phase }], guard := none }) (v := .pointer (some ⟨g4, k * 3, none⟩)) rfl (by kernel_rfl) (by kernel_rfl) (by kernel_rfl) (fun _ _ _ h => h) (Or.inl ⟨by kernel_rfl, ?h4_14⟩) ?r4_14
          case h4_14 => (intro wt hSw; clear hSw; go_simp; try with_reducible rfl)
          simp only [Act.put, List.setIfInBounds_toArray, List.set_cons_zero, List.set_cons_succ]
          refine wpAnyG_one (i := 15) (o := { dst := none, op := Go.Op.store 70 (Go.Operand.tmp 53) (Go.Operand.tmp 48), type := 0, pos := "heap.go:28", after := #[{ on := 14, ground := Go.Ground.data }, { on := 9, ground := Go.Ground.data }, { on := 7, ground := Go.Ground.chain }, { on := 0, ground := Go.Ground.phase }, { on := 1, ground := Go.Ground.phase }, { on := 2, ground := Go.Ground.textOnly Go.Departure.lateStores }, { on := 3, ground := Go.Ground.textOnly Go.Departure.lateStores }, { on := 4, ground := Go.Ground.phase }, { on := 5, ground := Go.Ground.phase }, { on := 6, ground := Go.Ground.phase }, { on := 7, ground := Go.Ground.phase }, { on := 8, ground := Go.Ground.phase }, { on := 9, ground := Go.Ground.phase }, { on := 10, ground := Go.Ground.textOnly Go.Departure.lateStores }, { on := 11, ground := Go.Ground.textOnly Go.Departure.lateStores }, { on := 12, ground := Go.Ground.textOnly Go.Departure.lateStoresUnsure }, { on := 13, ground := Go.Ground.phase }], guard := none }) rfl (by kernel_rfl) (by kernel_rfl) ?_
          refine step_storeI_b (it := y) (b := g4) (j := k * 3) rfl rfl rfl HTX.out hoy ?_
          refine ⟨fun h => absurd (by simp) h, ?_⟩
          simp only [Act.put]
          refine wpAnyG_take' (i := 16) (oi := { dst := some 54, op := Go.Op.indexAddr 34 (Go.Operand.tmp 41) (Go.Operand.tmp 43), type := 0, pos := "heap.go:28", after := #[{ on := 2, ground := Go.Ground.data }, { on := 4, ground := Go.Ground.data }, { on := 0, ground := Go.Ground.phase }, { on := 1, ground := Go.Ground.phase }, { on := 2, ground := Go.Ground.phase }, { on := 3, ground := Go.Ground.phase }, { on := 4, ground := Go.Ground.phase }, { on := 5, ground := Go.Ground.phase }, { on := 6, ground := Go.Ground.phase }, { on := 7, ground := Go.Ground.phase }, { on := 8, ground := Go.Ground.phase }, { on := 9, ground := Go.Ground.phase }, { on := 10, ground := Go.Ground.phase }, { on := 11, ground := Go.Ground.phase }, { on := 12, ground := Go.Ground.phase }, { on := 13, ground := Go.Ground.phase }, { on := 14, ground := Go.Ground.phase }, { on := 15, ground := Go.Ground.phase }], guard := none }) (v := .pointer (some ⟨g4, par k * 3, none⟩)) rfl (by kernel_rfl) (by kernel_rfl) (by kernel_rfl) (fun _ _ _ h => h) (Or.inl ⟨by kernel_rfl, ?h4_16⟩) ?r4_16
          case h4_16 => (intro wt hSw; clear hSw; go_simp; try with_reducible rfl)
          simp only [Act.put, List.setIfInBounds_toArray, List.set_cons_zero, List.set_cons_succ]
          refine wpAnyG_one (i := 17) (o := { dst := none, op := Go.Op.store 70 (Go.Operand.tmp 54) (Go.Operand.tmp 52), type := 0, pos := "heap.go:28", after := #[{ on := 16, ground := Go.Ground.data }, { on := 13, ground := Go.Ground.data }, { on := 15, ground := Go.Ground.chain }, { on := 0, ground := Go.Ground.phase }, { on := 1, ground := Go.Ground.phase }, { on := 2, ground := Go.Ground.phase }, { on := 3, ground := Go.Ground.phase }, { on := 4, ground := Go.Ground.phase }, { on := 5, ground := Go.Ground.phase }, { on := 6, ground := Go.Ground.phase }, { on := 7, ground := Go.Ground.phase }, { on := 8, ground := Go.Ground.phase }, { on := 9, ground := Go.Ground.phase }, { on := 10, ground := Go.Ground.phase }, { on := 11, ground := Go.Ground.phase }, { on := 12, ground := Go.Ground.phase }, { on := 13, ground := Go.Ground.phase }, { on := 14, ground := Go.Ground.phase }, { on := 15, ground := Go.Ground.phase }], guard := none }) rfl (by kernel_rfl) (by kernel_rfl) ?_
          refine step_storeI_b (it := x) (b := g4) (j := par k * 3) rfl rfl rfl (World.there_setCells HTY.out _ _ _) hox ?_
          refine ⟨fun h => absurd (by simp) h, ?_⟩
          simp only [Act.put]
          refine wpAnyG_done (by kernel_rfl) ?_ _
          clear hHeld HLX HLY HTX HTY HI6 hkl hpl
          generalize (w6.drew.setCells g4 (k * 3) (icells y)).setCells g4 (par k * 3) (icells x) = w9 at *
          go_wp2_with (go_at_call 44; refine Calls.mono (HAB.out _) ?_; rintro e w10 ⟨_, rfl, rfl, rfl⟩)
          go_roundw
          case rel => exact ⟨par k, _, by go_num, HT.out.1, HF6.out.trans HT.out.2 (fun _ e => .inl e)⟩
          case measure => simp [intOf]; have := par_lt (j := k) (by omega); omega
        · have hd1 : decide (Ah x.key y.key) = false := decide_eq_false hAh
          rw [hd1]
          go_wp2_with fail
          refine bodyPost_end (results_none Try.results36 _ _ _) rfl ?_
          refine ⟨rfl, HE.out _ _ _ (HI.out.below HB6.out) (.inr ?_) (HFr.out.trans (T := fun _ => False) (Fr.of_below HB6.out (Nat.le_refl _)) (fun _ e => e.elim))⟩
          rw [kat_get HX.out, kat_get HY.out]
          exact hAh
end Go.Proofs.Ytoeldomhkeancaa
