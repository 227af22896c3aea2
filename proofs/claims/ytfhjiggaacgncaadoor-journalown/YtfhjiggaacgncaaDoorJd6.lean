import Derived.Test.YtfhjiggaacgncaaDoorJd5
import Derived.Test.YtfhjiggaacgncaaDoorRegL
namespace Go.Proofs.YtfhjiggaacgncaaDoor
open Go.RowKit Go.Maps Go.Sort
set_option maxRecDepth 100000

theorem wp_copy_by {o : Oper} {a : Act} {w : World} {K : Act → World → Prop} {Q : Exit → Act → World → Prop} (d s : Operand)
    (ho : o.op = .call { callee := .builtin .copy, args := #[d, s], argTypes := #[30, 30] }) (hty : o.type = 3) (v u : Value) (hd : a.eval d = v) (hs : a.eval s = u) {v' : Value} {w' : World}
    (hr : (Builtin.copy_ #[30, 30] 3 #[v, u]).run Tryd.prog w = .ok v' w') (h : K (a.put o.dst v') w') : Oper.wp Tryd.prog o a w K Q := by
  rw [← hty] at hr
  unfold Oper.wp
  simp [execOp, ho, resolve, invoke, builtin, hd, hs, hr, Result.andThen]
  exact h
theorem BytesAt.sub {w : World} {g o : Nat} {S : List (BitVec 8)} (h : BytesAt w (some ⟨g, o, none⟩) S) (k n : Nat) : BytesAt w (some ⟨g, o + k, none⟩) ((S.drop k).take n) := fun j hj => by
  have hj2 : k + j < S.length := by simp at hj; omega
  obtain ⟨g', o', e, c⟩ := h (k + j) hj2
  cases e
  refine ⟨g, o + k, rfl, ?_⟩
  rw [Nat.add_assoc, c, List.getElem_take, List.getElem_drop]
theorem BytesAt.front {w : World} {a : Option Addr} {S : List (BitVec 8)} (h : BytesAt w a S) (n : Nat) : BytesAt w a (S.take n) := fun j hj => by
  have hj2 : j < S.length := by rw [List.length_take] at hj; omega
  obtain ⟨g', o', e, c⟩ := h j hj2
  exact ⟨g', o', e, by rw [c, List.getElem_take]⟩
set_option maxHeartbeats 1000000 in
theorem torn_any (w : World) (at_ : Int) (ad : Addr) (n cp k : Nat) (t : Int) (hc : n ≤ cp) (hm : cp ≤ maxLen) (hk : max 0 (min t n) = (k : Int)) :
    Calls Tryd.prog 43 #[.agg #[.int .i64 at_, .slice (some ad) n cp], .int .i64 t] w fun e w' => e = .returned (.agg #[.int .i64 at_, .slice (some ad) k k]) ∧ Below w.heap.size w w' := by
  have HC := hid (within_any ((w.alloc (.cells #[.int .i64 at_, .slice (some ad) n cp] 92)).alloc (.cells #[.int .i64 0, .slice none 0 0] 92)) t n (by omega))
  rw [hk] at HC
  unfold maxLen at hm
  have i1 : (k : Int) ≤ n := by omega
  have i2 : (k : Int) ≤ cp := by omega
  have i3 : (cp : Int) ≤ 9223372036854775807 := by omega
  have i4 : (0 : Int) ≤ k := by omega
  have b1 := below_new w (.cells #[.int .i64 at_, .slice (some ad) n cp] 92)
  have b2 := below_new (w.alloc (.cells #[.int .i64 at_, .slice (some ad) n cp] 92)) (.cells #[.int .i64 0, .slice none 0 0] 92)
  have hs1 : (w.alloc (.cells #[.int .i64 at_, .slice (some ad) n cp] 92)).heap.size = w.heap.size + 1 := by simp
  have R1 := (Row.new w [.int .i64 at_, .slice (some ad) n cp] 92).kept b2 (by rw [hs1]; omega)
  have R2 := Row.new (w.alloc (.cells #[.int .i64 at_, .slice (some ad) n cp] 92)) [.int .i64 0, .slice none 0 0] 92
  rw [hs1] at R2
  have hb := below_two b1 b2 (Nat.le_refl _)
  clear b1 b2 hs1
  go_enter Tryd.func43, Tryd.ntmps43
  go_upto_region 1 with fail
  revert HC R1 R2 hb
  generalize (w.alloc (.cells #[.int .i64 at_, .slice (some ad) n cp] 92)).alloc (.cells #[.int .i64 0, .slice none 0 0] 92) = w2
  intro HC R1 R2 hb
  have HB := hid hb
  have HR2 := hid R2
  have c0 := R1.cell 0 _ rfl
  have c1 := R1.cell 1 _ rfl
  have d0 := R2.cell 0 _ rfl
  have d1 := R2.cell 1 _ rfl
  have f0 := R2.frozen 0
  have f1 := R2.frozen 1
  clear R1 R2 hb hk
  go_upto_region 2 with (go_at_call 42; refine HC.out.mono ?_; rintro e w3 ⟨rfl, rfl⟩)
  go_region
  all_goals go_wp2_with fail
  all_goals (
    have RR := ((HR2.out.set 0 (.int .i64 at_)).set 1 (.slice (some ad) k k)).drew 1
    refine bodyPost_ret (Row.result RR Tryd.results43 _ rfl _ Tryd.underlying92 rfl (by kernel_rfl)) rfl ?_
    exact ⟨rfl, HB.out.trans ((((Fr.refl (fun x => x = w.heap.size + 1) w3).setCell _ 0 _ (.inl rfl)).setCell _ 1 _ (.inl rfl)).drewN 1 |>.below (fun x e => by omega) HB.out.size)⟩)
def fgt (S N : List (BitVec 8)) (x : Wr) : List (BitVec 8) := lay N x.at_ ((S.drop x.at_).take x.bs.length)
def forgetN (S N : List (BitVec 8)) (W : List Wr) : List (BitVec 8) := W.foldl (fgt S) N
theorem fgt_len {S N : List (BitVec 8)} {x : Wr} (hx : x.at_ + x.bs.length ≤ S.length) (h : N.length = S.length) : (fgt S N x).length = S.length := by
  rw [fgt, lay_len, h]
  simp
  omega
theorem forgetN_len {S : List (BitVec 8)} : ∀ (W : List Wr) {N : List (BitVec 8)}, Fits S.length W → N.length = S.length → (forgetN S N W).length = S.length
  | [], _, _, h => h
  | x :: r, N, hf, h => forgetN_len r (fun y hy => hf y (List.mem_cons_of_mem _ hy)) (fgt_len (hf x (by simp)).1 h)
theorem forgetN_take (S N : List (BitVec 8)) (W : List Wr) (k : Nat) (h : k < W.length) : forgetN S N (W.take (k + 1)) = fgt S (forgetN S N (W.take k)) W[k] := by
  rw [List.take_succ_eq_append_getElem h, forgetN, List.foldl_append]; rfl
set_option maxHeartbeats 1000000 in
/-- What is not safe is forgotten. -/
theorem forget_any {w : World} {p : Nat} {D : Dk} (h : DkAt w p D) (hlen : D.N.length = D.S.length) (hfit : Fits D.S.length D.W) (_hs2 : D.S.length ≤ 16777216) (hl : D.W.length ≤ 1099511627776) :
    Calls Tryd.prog 45 #[pt p 0] w fun e w' => e = .returned (.tuple #[]) ∧ DkAt w' p (D.calm D.S (forgetN D.S D.N D.W)) ∧ Fr (fun k => k = p ∨ k = D.gn) w w' := by
  obtain ⟨a, cap, ew, hE, hcw1, hcw2⟩ := eltAt_own h.wait h.nw
  obtain ⟨asx, ccs, es, hBs, hs3, hs4, _⟩ := ownBy_shape h.safe
  obtain ⟨_, _, en, hn3, hn4, _⟩ := own_len h.now
  have es' : asx = some ⟨D.gs, 0, none⟩ ∧ ccs = D.cs := by unfold Dk.sv at es; injection es with e1 e2 e3; exact ⟨e1.symm, e3.symm⟩
  obtain ⟨rfl, rfl⟩ := es'
  have en' : _ := en
  unfold Dk.nv at en'
  injection en' with e1 e2 e3
  subst e3
  have HR : Hid (∀ k wr, k < D.W.length → OwnBy wr 0 D.nv (forgetN D.S D.N (D.W.take k)) → Fr (fun x => x = D.gn) w wr →
      ∃ g2 o2 a2 n2 c2 at_ e, a = some ⟨g2, o2, none⟩ ∧ at_ + n2 = e ∧ e ≤ D.S.length ∧ at_ < D.S.length ∧ wr.cell? ⟨p, 0, none⟩ = some (.slice (some ⟨D.gs, 0, none⟩) D.S.length D.cs) ∧ wr.cell? ⟨p, 1, none⟩ = some (.slice (some ⟨D.gn, 0, none⟩) D.S.length D.cn) ∧ wr.cell? ⟨g2, o2 + k * 2, none⟩ = some (.int .i64 (at_ : Nat)) ∧ wr.cell? ⟨g2, o2 + k * 2 + 1, none⟩ = some (.slice a2 n2 c2) ∧ p < wr.heap.size ∧
        ∀ w1, Below wr.heap.size wr w1 → ∃ w2, (Builtin.copy_ #[30, 30] 3 #[.slice (some ⟨D.gn, at_, none⟩) (e - at_) (D.cn - at_), .slice (some ⟨D.gs, at_, none⟩) (e - at_) (D.cs - at_)]).run Tryd.prog w1 = .ok (.int .i64 (e - at_ : Nat)) w2 ∧ OwnBy w2 0 D.nv (forgetN D.S D.N (D.W.take (k + 1))) ∧ Fr (fun x => x = D.gn) w w2) := by
    intro k wr hk hO1 hF1
    obtain ⟨g2, o2, rfl, hg2, c1, c2⟩ := hE k hk
    have hx := h.by_ _ (List.getElem_mem hk)
    have hxF := hfit _ (List.getElem_mem hk)
    obtain ⟨a2, cc2, e2, hBy, hlc, hcm, hz, _⟩ := ownBy_shape hx
    have hl1 : (forgetN D.S D.N (D.W.take k)).length = D.S.length := forgetN_len _ (fun y hy => hfit y (List.mem_of_mem_take hy)) hlen
    rw [e2] at c2
    refine ⟨g2, o2, a2, D.W[k].bs.length, cc2, D.W[k].at_, D.W[k].at_ + D.W[k].bs.length, rfl, rfl, hxF.1, hxF.2, hF1.cell (h.row.cell 0 _ rfl) (fun e => h.pn e), by rw [← hlen]; exact hF1.cell (h.row.cell 1 _ rfl) (fun e => h.pn e), hF1.cell c1 (fun e => hg2 e), hF1.cell c2 (fun e => hg2 e), (hF1.row h.row (fun e => h.pn e)).lt, fun w1 hb1 => ?_⟩
    have hbs1 : BytesAt w1 (some ⟨D.gs, 0, none⟩) D.S := fun j hj => by
      obtain ⟨g', o', e', c'⟩ := hBs j hj
      exact ⟨g', o', e', cell_kept hb1 (hF1.cell c' (fun e => by cases e'; exact h.sn e))⟩
    have hsub := hbs1.sub D.W[k].at_ D.W[k].bs.length
    rw [Nat.zero_add] at hsub
    have hO2 := own_below hO1 hb1
    have hnl : D.nv = .slice (some ⟨D.gn, 0, none⟩) (forgetN D.S D.N (D.W.take k)).length D.cn := by rw [hl1, ← hlen]; rfl
    rw [hnl] at hO2 ⊢
    obtain ⟨w2, hr, ho, hf⟩ := run_copyB (off := D.W[k].at_) (n := D.W[k].bs.length) (cp := D.cs - D.W[k].at_) (dLen := D.W[k].bs.length) (dCap := D.cn - D.W[k].at_) hO2 hsub (by simp; omega) (fun e => by cases e) (by rw [hl1]; exact hxF.1) (Nat.le_refl _)
    rw [Nat.add_sub_cancel_left]
    refine ⟨w2, hr, by rw [forgetN_take D.S D.N D.W k hk]; exact ho, ?_⟩
    exact (hF1.trans (T := fun _ => False) (Fr.of_below hb1 (Nat.le_refl _)) (fun _ e => e.elim)).trans hf (fun _ e => .inl e)
  have HE : Hid (∀ wr, OwnBy wr 0 D.nv (forgetN D.S D.N (D.W.take D.W.length)) → Fr (fun x => x = D.gn) w wr → (wr.frozen? ⟨p, 2, none⟩ = false ∧ wr.cell? ⟨p, 2, none⟩ = some D.wv) ∧ DkAt (wr.setCell ⟨p, 2, none⟩ (.slice none 0 0)) p (D.calm D.S (forgetN D.S D.N D.W)) ∧ Fr (fun k => k = p ∨ k = D.gn) w (wr.setCell ⟨p, 2, none⟩ (.slice none 0 0))) := by
    intro wr ho hf
    rw [List.take_length] at ho
    have hr := hf.row h.row (fun e => h.pn e)
    exact ⟨⟨hr.frozen 2, hr.cell 2 _ rfl⟩, calm_mem h rfl (by rw [forgetN_len _ hfit hlen, hlen]) hf (fun e => h.pn e) (hf.own h.safe (fun x e e' => h.sn (by simp [Dk.sv, Value.ownBlock] at e; exact e.trans e'))) ho, (hf.wider (fun _ e => .inr e)).setCell p 2 _ (.inl (.inl rfl))⟩
  have c2 := h.row.cell 2 _ rfl
  have HO := hid (show OwnBy w 0 D.nv (forgetN D.S D.N (D.W.take 0)) from by rw [List.take_zero]; exact h.now)
  rw [ew] at c2
  have hl' : (D.W.length : Int) ≤ 1099511627776 := by omega
  unfold maxLen at hs4 hn4
  have i1 : D.S.length ≤ D.cs := by omega
  have i2 : D.S.length ≤ D.cn := by omega
  have i3 : (D.cs : Int) ≤ 9223372036854775807 := by omega
  have i4 : (D.cn : Int) ≤ 9223372036854775807 := by omega
  rw [ew] at HE
  generalize hm : D.W.length = m at *
  clear hE h hfit hBs es en ew hl hcw1 hcw2 hs3 hs4 hn3 hn4 hlen e1 e2
  generalize D.S.length = L at *
  generalize D.gs = gs at *
  generalize D.cs = cs at *
  generalize D.cn = cn at *
  generalize hgn : D.gn = gn at *
  go_enter Tryd.func45, Tryd.ntmps45
  go_wp2
  go_loopw [10] (fun i wr => ∃ k : Nat, k ≤ m ∧ i = .int .i64 k ∧ OwnBy wr 0 D.nv (forgetN D.S D.N (D.W.take k)) ∧ Fr (fun x => x = gn) w wr) (fun i _ => m - (intOf i).toNat)
  case atStart => exact ⟨0, Nat.zero_le _, rfl, HO.out, Fr.refl _ _⟩
  case round =>
    obtain ⟨k, hk, rfl, hO1, hF1⟩ := hrel
    by_cases hlt : k < m
    · obtain ⟨g2, o2, a2, n2, c2', at_, e, rfl, he1, he2, he3, d0, d1, d2, d3, hpl, hC⟩ := HR.out k wr hlt hO1 hF1
      have HC := hid hC
      clear hC hO1 hF1 HR HO hm HE c2
      have j1 : (at_ : Int) + n2 = e := by omega
      have j2 : IntKind.i64.wrap (e : Int) = e := by rw [IntKind.wrap_i64]; omega
      go_upto_region 4 with fail
      have hb1 := below_new wr (.cells #[.int .i64 at_, .slice a2 n2 c2'] 92)
      have R1 := Row.new wr [.int .i64 at_, .slice a2 n2 c2'] 92
      have e0 := cell_kept hb1 d0
      have e1 := cell_kept hb1 d1
      obtain ⟨w2, hr, ho2, hf2⟩ := HC.out _ (below_drewN hb1 1)
      have HX := hid (And.intro ho2 hf2)
      have HRUN := hid hr
      clear hb1 HC d0 d1 d2 d3 ho2 hf2 hr
      revert R1 e0 e1 HRUN
      generalize wr.alloc (.cells #[.int .i64 at_, .slice a2 n2 c2'] 92) = w1
      intro R1 e0 e1 HRUN
      have q0 := R1.cell 0 _ rfl
      have q1 := R1.cell 1 _ rfl
      have j3 : (at_ : Int) ≤ e := by omega
      have j4 : (e : Int) ≤ L := by omega
      have j5 : (e : Int) ≤ cs := by omega
      have j6 : (e : Int) ≤ cn := by omega
      have j7 : ¬ cs = at_ := by omega
      have j8 : ¬ cn = at_ := by omega
      clear R1 _hs2 i1 i2 he1 he2 he3 j1 j2 hpl
      refine wp_region_last (S := fun w' => w'.cell? ⟨p, 0, none⟩ = some (.slice (some ⟨gs, 0, none⟩) L cs) ∧ w'.cell? ⟨p, 1, none⟩ = some (.slice (some ⟨gn, 0, none⟩) L cn) ∧ w'.cell? ⟨wr.heap.size, 0, none⟩ = some (.int .i64 (at_ : Nat))) (N := 16) (by kernel_rfl) (by kernel_rfl) fun hNW => ?_
      have hHeld := (show (fun w' => w'.cell? ⟨p, 0, none⟩ = some (.slice (some ⟨gs, 0, none⟩) L cs) ∧ w'.cell? ⟨p, 1, none⟩ = some (.slice (some ⟨gn, 0, none⟩) L cn) ∧ w'.cell? ⟨wr.heap.size, 0, none⟩ = some (.int .i64 (at_ : Nat))) w1.drew from ⟨e0, e1, q0⟩)
      refine wpAnyF_take (i := 0) (oi := { dst := some 20, op := Go.Op.move (Go.Operand.tmp 0), type := 22, pos := "disk.go:118", after := #[], guard := none }) (v := ?v1_0) hNW (by decide) rfl (by kernel_rfl) (by kernel_rfl) (by kernel_rfl) (by kernel_rfl) (fun _ _ _ h => h) (Or.inl ⟨by kernel_rfl, ?h1_0⟩) (by assumption) ?r1_0
      case h1_0 => (intro wt hSw; obtain ⟨hs0, hs1, hs3⟩ := hSw; go_simp; try with_reducible rfl)
      simp only [Act.put, List.setIfInBounds_toArray, List.set_cons_zero, List.set_cons_succ]
      refine wpAnyF_take (i := 1) (oi := { dst := some 21, op := Go.Op.nilCheck (Go.Operand.tmp 20), type := 0, pos := "disk.go:118", after := #[{ on := 0, ground := Go.Ground.data }], guard := none }) (v := ?v1_1) hNW (by decide) rfl (by kernel_rfl) (by kernel_rfl) (by kernel_rfl) (by kernel_rfl) (fun _ _ _ h => h) (Or.inl ⟨by kernel_rfl, ?h1_1⟩) (by assumption) ?r1_1
      case h1_1 => (intro wt hSw; obtain ⟨hs0, hs1, hs3⟩ := hSw; go_simp; try with_reducible rfl)
      simp only [Act.put, List.setIfInBounds_toArray, List.set_cons_zero, List.set_cons_succ]
      refine wpAnyF_take (i := 2) (oi := { dst := some 22, op := Go.Op.fieldAddr 78 (Go.Operand.tmp 21) 1, type := 0, pos := "disk.go:118", after := #[{ on := 1, ground := Go.Ground.data }], guard := none }) (v := ?v1_2) hNW (by decide) rfl (by kernel_rfl) (by kernel_rfl) (by kernel_rfl) (by kernel_rfl) (fun _ _ _ h => h) (Or.inl ⟨by kernel_rfl, ?h1_2⟩) (by assumption) ?r1_2
      case h1_2 => (intro wt hSw; obtain ⟨hs0, hs1, hs3⟩ := hSw; go_simp; try with_reducible rfl)
      simp only [Act.put, List.setIfInBounds_toArray, List.set_cons_zero, List.set_cons_succ]
      refine wpAnyF_take (i := 3) (oi := { dst := some 23, op := Go.Op.load 30 (Go.Operand.tmp 22), type := 30, pos := "disk.go:118", after := #[{ on := 2, ground := Go.Ground.data }], guard := none }) (v := ?v1_3) hNW (by decide) rfl (by kernel_rfl) (by kernel_rfl) (by kernel_rfl) (by kernel_rfl) (fun _ _ _ h => h) (Or.inl ⟨by kernel_rfl, ?h1_3⟩) (by assumption) ?r1_3
      case h1_3 => (intro wt hSw; obtain ⟨hs0, hs1, hs3⟩ := hSw; go_simp; try with_reducible rfl)
      simp only [Act.put, List.setIfInBounds_toArray, List.set_cons_zero, List.set_cons_succ]
      refine wpAnyF_take (i := 4) (oi := { dst := some 24, op := Go.Op.fieldAddr 92 (Go.Operand.tmp 3) 0, type := 0, pos := "disk.go:118", after := #[], guard := none }) (v := ?v1_4) hNW (by decide) rfl (by kernel_rfl) (by kernel_rfl) (by kernel_rfl) (by kernel_rfl) (fun _ _ _ h => h) (Or.inl ⟨by kernel_rfl, ?h1_4⟩) (by assumption) ?r1_4
      case h1_4 => (intro wt hSw; obtain ⟨hs0, hs1, hs3⟩ := hSw; go_simp; try with_reducible rfl)
      simp only [Act.put, List.setIfInBounds_toArray, List.set_cons_zero, List.set_cons_succ]
      refine wpAnyF_take (i := 5) (oi := { dst := some 25, op := Go.Op.load 3 (Go.Operand.tmp 24), type := 3, pos := "disk.go:118", after := #[{ on := 4, ground := Go.Ground.data }], guard := none }) (v := ?v1_5) hNW (by decide) rfl (by kernel_rfl) (by kernel_rfl) (by kernel_rfl) (by kernel_rfl) (fun _ _ _ h => h) (Or.inl ⟨by kernel_rfl, ?h1_5⟩) (by assumption) ?r1_5
      case h1_5 => (intro wt hSw; obtain ⟨hs0, hs1, hs3⟩ := hSw; go_simp; try with_reducible rfl)
      simp only [Act.put, List.setIfInBounds_toArray, List.set_cons_zero, List.set_cons_succ]
      refine wpAnyF_take (i := 6) (oi := { dst := some 26, op := Go.Op.move (Go.Operand.tmp 4), type := 3, pos := "disk.go:118", after := #[], guard := none }) (v := ?v1_6) hNW (by decide) rfl (by kernel_rfl) (by kernel_rfl) (by kernel_rfl) (by kernel_rfl) (fun _ _ _ h => h) (Or.inl ⟨by kernel_rfl, ?h1_6⟩) (by assumption) ?r1_6
      case h1_6 => (intro wt hSw; obtain ⟨hs0, hs1, hs3⟩ := hSw; go_simp; try with_reducible rfl)
      simp only [Act.put, List.setIfInBounds_toArray, List.set_cons_zero, List.set_cons_succ]
      refine wpAnyF_take (i := 7) (oi := { dst := some 27, op := Go.Op.slice 30 (Go.Operand.tmp 23) (some (Go.Operand.tmp 25)) (some (Go.Operand.tmp 26)) none, type := 30, pos := "disk.go:118", after := #[{ on := 3, ground := Go.Ground.data }, { on := 5, ground := Go.Ground.data }, { on := 6, ground := Go.Ground.data }], guard := none }) (v := ?v1_7) hNW (by decide) rfl (by kernel_rfl) (by kernel_rfl) (by kernel_rfl) (by kernel_rfl) (fun _ _ _ h => h) (Or.inl ⟨by kernel_rfl, ?h1_7⟩) (by assumption) ?r1_7
      case h1_7 => (intro wt hSw; obtain ⟨hs0, hs1, hs3⟩ := hSw; go_simp; try with_reducible rfl)
      simp only [Act.put, List.setIfInBounds_toArray, List.set_cons_zero, List.set_cons_succ]
      refine wpAnyF_take (i := 8) (oi := { dst := some 28, op := Go.Op.move (Go.Operand.tmp 0), type := 22, pos := "disk.go:118", after := #[], guard := none }) (v := ?v1_8) hNW (by decide) rfl (by kernel_rfl) (by kernel_rfl) (by kernel_rfl) (by kernel_rfl) (fun _ _ _ h => h) (Or.inl ⟨by kernel_rfl, ?h1_8⟩) (by assumption) ?r1_8
      case h1_8 => (intro wt hSw; obtain ⟨hs0, hs1, hs3⟩ := hSw; go_simp; try with_reducible rfl)
      simp only [Act.put, List.setIfInBounds_toArray, List.set_cons_zero, List.set_cons_succ]
      refine wpAnyF_take (i := 9) (oi := { dst := some 29, op := Go.Op.nilCheck (Go.Operand.tmp 28), type := 0, pos := "disk.go:118", after := #[{ on := 8, ground := Go.Ground.data }], guard := none }) (v := ?v1_9) hNW (by decide) rfl (by kernel_rfl) (by kernel_rfl) (by kernel_rfl) (by kernel_rfl) (fun _ _ _ h => h) (Or.inl ⟨by kernel_rfl, ?h1_9⟩) (by assumption) ?r1_9
      case h1_9 => (intro wt hSw; obtain ⟨hs0, hs1, hs3⟩ := hSw; go_simp; try with_reducible rfl)
      simp only [Act.put, List.setIfInBounds_toArray, List.set_cons_zero, List.set_cons_succ]
      refine wpAnyF_take (i := 10) (oi := { dst := some 30, op := Go.Op.fieldAddr 78 (Go.Operand.tmp 29) 0, type := 0, pos := "disk.go:118", after := #[{ on := 9, ground := Go.Ground.data }], guard := none }) (v := ?v1_10) hNW (by decide) rfl (by kernel_rfl) (by kernel_rfl) (by kernel_rfl) (by kernel_rfl) (fun _ _ _ h => h) (Or.inl ⟨by kernel_rfl, ?h1_10⟩) (by assumption) ?r1_10
      case h1_10 => (intro wt hSw; obtain ⟨hs0, hs1, hs3⟩ := hSw; go_simp; try with_reducible rfl)
      simp only [Act.put, List.setIfInBounds_toArray, List.set_cons_zero, List.set_cons_succ]
      refine wpAnyF_take (i := 11) (oi := { dst := some 31, op := Go.Op.load 30 (Go.Operand.tmp 30), type := 30, pos := "disk.go:118", after := #[{ on := 10, ground := Go.Ground.data }], guard := none }) (v := ?v1_11) hNW (by decide) rfl (by kernel_rfl) (by kernel_rfl) (by kernel_rfl) (by kernel_rfl) (fun _ _ _ h => h) (Or.inl ⟨by kernel_rfl, ?h1_11⟩) (by assumption) ?r1_11
      case h1_11 => (intro wt hSw; obtain ⟨hs0, hs1, hs3⟩ := hSw; go_simp; try with_reducible rfl)
      simp only [Act.put, List.setIfInBounds_toArray, List.set_cons_zero, List.set_cons_succ]
      refine wpAnyF_take (i := 12) (oi := { dst := some 32, op := Go.Op.fieldAddr 92 (Go.Operand.tmp 3) 0, type := 0, pos := "disk.go:118", after := #[], guard := none }) (v := ?v1_12) hNW (by decide) rfl (by kernel_rfl) (by kernel_rfl) (by kernel_rfl) (by kernel_rfl) (fun _ _ _ h => h) (Or.inl ⟨by kernel_rfl, ?h1_12⟩) (by assumption) ?r1_12
      case h1_12 => (intro wt hSw; obtain ⟨hs0, hs1, hs3⟩ := hSw; go_simp; try with_reducible rfl)
      simp only [Act.put, List.setIfInBounds_toArray, List.set_cons_zero, List.set_cons_succ]
      refine wpAnyF_take (i := 13) (oi := { dst := some 33, op := Go.Op.load 3 (Go.Operand.tmp 32), type := 3, pos := "disk.go:118", after := #[{ on := 12, ground := Go.Ground.data }], guard := none }) (v := ?v1_13) hNW (by decide) rfl (by kernel_rfl) (by kernel_rfl) (by kernel_rfl) (by kernel_rfl) (fun _ _ _ h => h) (Or.inl ⟨by kernel_rfl, ?h1_13⟩) (by assumption) ?r1_13
      case h1_13 => (intro wt hSw; obtain ⟨hs0, hs1, hs3⟩ := hSw; go_simp; try with_reducible rfl)
      simp only [Act.put, List.setIfInBounds_toArray, List.set_cons_zero, List.set_cons_succ]
      refine wpAnyF_take (i := 14) (oi := { dst := some 34, op := Go.Op.move (Go.Operand.tmp 4), type := 3, pos := "disk.go:118", after := #[], guard := none }) (v := ?v1_14) hNW (by decide) rfl (by kernel_rfl) (by kernel_rfl) (by kernel_rfl) (by kernel_rfl) (fun _ _ _ h => h) (Or.inl ⟨by kernel_rfl, ?h1_14⟩) (by assumption) ?r1_14
      case h1_14 => (intro wt hSw; obtain ⟨hs0, hs1, hs3⟩ := hSw; go_simp; try with_reducible rfl)
      simp only [Act.put, List.setIfInBounds_toArray, List.set_cons_zero, List.set_cons_succ]
      refine wpAnyF_take (i := 15) (oi := { dst := some 35, op := Go.Op.slice 30 (Go.Operand.tmp 31) (some (Go.Operand.tmp 33)) (some (Go.Operand.tmp 34)) none, type := 30, pos := "disk.go:118", after := #[{ on := 11, ground := Go.Ground.data }, { on := 13, ground := Go.Ground.data }, { on := 14, ground := Go.Ground.data }], guard := none }) (v := ?v1_15) hNW (by decide) rfl (by kernel_rfl) (by kernel_rfl) (by kernel_rfl) (by kernel_rfl) (fun _ _ _ h => h) (Or.inl ⟨by kernel_rfl, ?h1_15⟩) (by assumption) ?r1_15
      case h1_15 => (intro wt hSw; obtain ⟨hs0, hs1, hs3⟩ := hSw; go_simp; try with_reducible rfl)
      simp only [Act.put, List.setIfInBounds_toArray, List.set_cons_zero, List.set_cons_succ]
      refine wpAnyF_one (i := 16) (o := { dst := some 36, op := Go.Op.call { callee := Go.Callee.builtin Go.Builtin.copy, args := #[Go.Operand.tmp 27, Go.Operand.tmp 35], argTypes := #[30, 30] }, type := 3, pos := "disk.go:118", after := #[{ on := 7, ground := Go.Ground.data }, { on := 15, ground := Go.Ground.data }], guard := none }) rfl rfl (by kernel_rfl) ?_
      refine wp_copy_by (.tmp 27) (.tmp 35) rfl rfl _ _ rfl rfl HRUN.out ?_
      refine ⟨fun h => absurd rfl h, ?_⟩
      simp only [Act.put]
      refine wpAnyF_done (by kernel_rfl) ?_ _
      clear hNW hHeld
      go_wp2
      go_roundw
      case rel => exact ⟨k + 1, hlt, by go_num, HX.out.1, HX.out.2⟩
      case measure => simp [intOf]; omega
    · have e : k = m := by omega
      subst e
      obtain ⟨⟨f2, d2⟩, hE⟩ := HE.out wr hO1 hF1
      have HZ := hid hE
      clear hO1 hF1 hE HE HR HO
      go_wp2
      refine bodyPost_end (results_none Tryd.results45 _ _ _) rfl ?_
      exact ⟨rfl, HZ.out⟩
end Go.Proofs.YtfhjiggaacgncaaDoor
