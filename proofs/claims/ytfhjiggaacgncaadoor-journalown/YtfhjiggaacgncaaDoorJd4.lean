import Derived.Test.YtfhjiggaacgncaaDoorJd5
import Derived.Maps.AppendAt
import Derived.Deep.CutRange
namespace Go.Proofs.YtfhjiggaacgncaaDoor
open Go.RowKit Go.Maps Go.Sort
set_option maxRecDepth 100000

theorem wp_append_by {P : Program} {w : World} {o : Oper} {a : Act} {K : Act → World → Prop} {Q : Exit → Act → World → Prop} (s x : Operand) (t : TypeId)
    (ho : o.op = .call { callee := .builtin .append, args := #[s, x], argTypes := #[t, t] }) {v u v' : Value} {w' : World} (hs : a.eval s = v) (hx : a.eval x = u)
    (hr : (Builtin.append_ #[t, t] o.type #[v, u]).run P w = .ok v' w') (h : K (a.put o.dst v') w') : o.wp P a w K Q := by
  unfold Oper.wp execOp
  simp only [ho, resolve, invoke, builtin, Sem.run_bind, Sem.run_pure, Result.andThen_ok, List.map_toArray, List.map_cons, List.map_nil, hs, hx, hr]
  exact h
theorem wpList_append_by {P : Program} {w : World} {ops : Array Oper} {rest : List Oper} {o : Oper} {a : Act} {Q : Exit → Act → World → Prop} (hgd : o.guard = none) (s x : Operand) (t : TypeId)
    (ho : o.op = .call { callee := .builtin .append, args := #[s, x], argTypes := #[t, t] }) {v u v' : Value} {w' : World} (hs : a.eval s = v) (hx : a.eval x = u)
    (hr : (Builtin.append_ #[t, t] o.type #[v, u]).run P w = .ok v' w') (h : wpList P ops Q rest (a.put o.dst v') w') : wpList P ops Q (o :: rest) a w :=
  wpList_plain hgd fun _ hK => wp_append_by s x t ho hs hx hr (hK _ _ h)
theorem step_append_by {P : Program} {w : World} {ops : Array Oper} {o : Oper} {a : Act} {K : Act → World → Prop} {Q : Exit → Act → World → Prop} {E : Prop} (hgd : o.guard = none) (s x : Operand) (t : TypeId)
    (ho : o.op = .call { callee := .builtin .append, args := #[s, x], argTypes := #[t, t] }) {v u v' : Value} {w' : World} (hs : a.eval s = v) (hx : a.eval x = u)
    (hr : (Builtin.append_ #[t, t] o.type #[v, u]).run P w = .ok v' w') (h : K (a.put o.dst v') w') : if Region.wanted o (yielded ops a.tmps) = true then Oper.wp P o a w K Q else E := by
  have hw : Region.wanted o (yielded ops a.tmps) = true := by simp [Region.wanted, hgd]
  rw [if_pos hw]
  exact wp_append_by s x t ho hs hx hr h
theorem info92 : ∃ i : TypeInfo, Tryd.prog.info? 92 = some i ∧ i.zero = some (.agg #[.int .i64 0, .slice none 0 0]) ∧ i.size = 2 ∧ i.bytes = 32 := by
  have h : (Tryd.prog.info? 92).map (fun i => (i.zero, i.size, i.bytes)) = some (some (.agg #[.int .i64 0, .slice none 0 0]), 2, 32) := by kernel_rfl
  cases hq : Tryd.prog.info? 92 with
  | none => rw [hq] at h; cases h
  | some i => rw [hq] at h; simp at h; exact ⟨i, rfl, h.1, h.2.1, h.2.2⟩
/-- A write behind an own row of them. -/
theorem push92 {w : World} {v : Value} {W : List Wr} {x : Wr} {bx : Nat} (h : w.ownsRow 0 92 2 v W.length (flatW W)) (hl : W.length ≤ 1099511627776) (h0 : w.cell? ⟨bx, 0, none⟩ = some (.int .i64 x.at_)) (h1' : w.cell? ⟨bx, 1, none⟩ = some x.v) (hv : x.v.oneCell' = true) (ty : TypeId) :
    ∃ v' w', (Builtin.append_ #[76, 76] ty #[v, .slice (some ⟨bx, 0, none⟩) 1 1]).run Tryd.prog w = .ok v' w' ∧ w'.ownsRow 0 92 2 v' (W ++ [x]).length (flatW (W ++ [x])) ∧ Fr (fun k => v.ownBlock = some k) w w' ∧ ∀ g, v'.ownBlock = some g → v.ownBlock = some g ∨ w.heap.size ≤ g := by
  obtain ⟨i, h1, h2, h3, h4⟩ := info92
  obtain ⟨v', w', hr, ho, hg, _, ha⟩ := run_append_own_at (P := Tryd.prog) w 0 76 ty 92 i (.agg #[.int .i64 0, .slice none 0 0]) 2 32 Tryd.underlying76 h1 h2 h3 h4 rfl (by decide) v W.length (flatW W) h ⟨bx, 0, none⟩ 1 1 (flatW [x]) rfl (fun j u hu => by
    have hj : j < 2 := (List.getElem?_eq_some_iff.1 hu).1
    rw [Addr.add_mid, Nat.zero_add]
    obtain rfl | rfl : j = 0 ∨ j = 1 := by omega
    · rw [h0, ← hu]; rfl
    · rw [h1', ← hu]; rfl) (fun u hu => by
      have : u = .int .i64 x.at_ ∨ u = x.v := by simpa [flatW, wcells] using hu
      rcases this with rfl | rfl
      · rfl
      · exact hv) (by unfold maxLen; omega) (by omega) (Nat.zero_le _)
  refine ⟨v', w', hr, ?_, Fr.of_grown hg (fun k e => .inl e), fun g e => ?_⟩
  · rw [flatW_app, show (W ++ [x]).length = W.length + 1 by simp]
    exact ho
  · rcases ha with e' | e'
    · exact .inl (e' ▸ e)
    · rw [e'] at e
      injection e with e
      exact .inr (Nat.le_of_eq e)
theorem bsl76 (w : World) (i : Int) (a : Option Addr) (n c : Nat) : (Instr.buildSlice 76 1 #[(0, .agg #[.int .i64 i, .slice a n c])]).run Tryd.prog w = .ok (.slice (some ⟨w.heap.size, 0, none⟩) 1 1) (w.alloc (.cells #[.int .i64 i, .slice a n c] 92)) := by kernel_rfl
/-- A disk with a write more. -/
def Dk.put (D : Dk) (at_ : Nat) (v : Value) (bs : List (BitVec 8)) (v' : Value) : Dk := { D with N := lay D.N at_ bs, W := D.W ++ [⟨at_, v, bs⟩], wv := v' }
/-- What may be turned by a put. -/
def Dk.PutM (D : Dk) (p k : Nat) : Prop := k = p ∨ k = D.gn ∨ D.wv.ownBlock = some k
theorem put_mem {w w1 w2 w3 w4 : World} {p : Nat} {D : Dk} (h : DkAt w1 p D) (hk : D.Ok) (hb1 : Below w.heap.size w w1) (hw1 : ∀ k, D.Mem p k → k < w.heap.size) {at_ : Nat} {v v' : Value} {bs : List (BitVec 8)} (hv : OwnBy w1 0 v bs) (hvs : v.ownBlock ≠ some D.gs) (hvn : v.ownBlock ≠ some D.gn) (hfit : at_ + bs.length ≤ D.S.length)
    (hO2 : OwnBy w2 0 D.nv (lay D.N at_ bs)) (hF2 : Fr (fun x => x = D.gn) w1 w2) (hb3 : Below w2.heap.size w2 w3) (hW4 : w4.ownsRow 0 92 2 v' (D.W ++ [(⟨at_, v, bs⟩ : Wr)]).length (flatW (D.W ++ [(⟨at_, v, bs⟩ : Wr)]))) (hF4 : Fr (fun k => D.wv.ownBlock = some k) w3 w4) (hn4 : ∀ g, v'.ownBlock = some g → D.wv.ownBlock = some g ∨ w3.heap.size ≤ g) :
    DkAt (w4.setCell ⟨p, 2, none⟩ v') p (D.put at_ v bs v') ∧ Fr (D.PutM p) w (w4.setCell ⟨p, 2, none⟩ v') ∧ ∀ g, v'.ownBlock = some g → D.wv.ownBlock = some g ∨ w.heap.size ≤ g := by
  have hlen : (lay D.N at_ bs).length = D.N.length := lay_len (by rw [hk.len]; exact hfit)
  have f3 : Fr (fun x => x = D.gn) w1 w3 := hF2.trans (T := fun _ => False) (Fr.of_below hb3 (Nat.le_refl _)) (fun _ e => e.elim)
  have f4 : Fr (fun x => x = D.gn ∨ D.wv.ownBlock = some x) w1 w4 := (f3.wider (fun _ e => .inl e)).trans hF4 (fun _ e => .inl (.inr e))
  have hpv : v'.ownBlock ≠ some p := fun e => by
    obtain ⟨cur, hg⟩ := own_blk hW4 e
    have hr := f4.row h.row (by rintro (e | e); exact h.pn e; exact h.pw e)
    exact absurd (cells_type hr.at_ hg) (by decide)
  have hvw : ∀ g, v'.ownBlock = some g → g ≠ D.gn := fun g e e' => by
    subst e'
    obtain ⟨cur, hg⟩ := own_blk hW4 e
    obtain ⟨cur', hg'⟩ := own_blk (hF4.own (own_below hO2 hb3) (fun x e1 => by simp [Dk.nv, Value.ownBlock] at e1; subst e1; exact h.nw)) (g := D.gn) rfl
    exact absurd (cells_type hg hg') (by decide)
  have f5 : Fr (fun x => x = p ∨ x = D.gn ∨ D.wv.ownBlock = some x) w1 (w4.setCell ⟨p, 2, none⟩ v') := (f4.wider (fun _ e => .inr e)).setCell p 2 v' (.inl (.inl rfl))
  have own5 : ∀ {t : TypeId} {sz : Nat} {u : Value} {n : Nat} {xs : List Value}, w4.ownsRow 0 t sz u n xs → u.ownBlock ≠ some p → (w4.setCell ⟨p, 2, none⟩ v').ownsRow 0 t sz u n xs := fun ho hne =>
    ((Fr.refl (fun x => x = p) w4).setCell p 2 v' (.inl rfl)).own ho (fun x e e' => hne (e' ▸ e))
  have gs_ne : ∀ x, D.sv.ownBlock = some x → ¬ (x = p ∨ x = D.gn ∨ D.wv.ownBlock = some x) := fun x e => by
    simp [Dk.sv, Value.ownBlock] at e
    subst e
    rintro (e | e | e)
    · exact h.ps e.symm
    · exact h.sn e
    · exact h.sw e
  refine ⟨⟨?_, ?_, ?_, ?_, ?_, ?_, h.sn⟩, ?_, ?_⟩
  · have := (f4.row h.row (by rintro (e | e); exact h.pn e; exact h.pw e)).set 2 v'
    simpa [Dk.put, Dk.sv, Dk.nv, hlen] using this
  · exact f5.own h.safe gs_ne
  · have := own5 (hF4.own (own_below hO2 hb3) (fun x e1 => by simp [Dk.nv, Value.ownBlock] at e1; subst e1; exact h.nw)) (fun e => by simp [Dk.nv, Value.ownBlock] at e; exact h.pn e.symm)
    show World.ownsRow _ _ _ _ _ _ _
    simpa [Dk.put, Dk.nv, hlen] using this
  · exact own5 hW4 hpv
  · intro x hx
    rcases List.mem_append.1 (show x ∈ D.W ++ [⟨at_, v, bs⟩] from hx) with hx | hx
    · refine f5.own (h.by_ x hx) (fun g e => ?_)
      rintro (rfl | rfl | e')
      · exact h.px hx e
      · exact (h.ap x hx).2 e
      · exact h.wx hx e' e
    · simp at hx
      subst hx
      refine f5.own hv (fun g e => ?_)
      rintro (rfl | rfl | e')
      · obtain ⟨cur, hg⟩ := own_blk hv e
        exact absurd (cells_type h.row.at_ hg) (by decide)
      · exact hvn e
      · obtain ⟨cur, hg⟩ := own_blk hv e
        obtain ⟨cur', hg'⟩ := own_blk h.wait e'
        exact absurd (cells_type hg hg') (by decide)
  · intro x hx
    rcases List.mem_append.1 (show x ∈ D.W ++ [⟨at_, v, bs⟩] from hx) with hx | hx
    · exact h.ap x hx
    · simp at hx
      subst hx
      exact ⟨hvs, hvn⟩
  · exact (Fr.of_below (S := D.PutM p) hb1 (Nat.le_refl _)).trans f5 (fun x e => .inl e)
  · intro g e
    rcases hn4 g e with e' | e'
    · exact .inl e'
    · exact .inr (Nat.le_trans hb1.size (Nat.le_trans f3.size e'))
set_option maxHeartbeats 2000000 in
theorem put_any {w : World} {p : Nat} {D : Dk} (h : DkAt w p D) (hk : D.Ok) (hw : D.W.length ≤ 1099511627776) {at_ : Nat} {v : Value} {bs : List (BitVec 8)} (hv : OwnBy w 0 v bs) (hvs : v.ownBlock ≠ some D.gs) (hvn : v.ownBlock ≠ some D.gn) (h1 : 1 ≤ bs.length) (hfit : at_ + bs.length ≤ D.S.length) :
    Calls Tryd.prog 66 #[pt p 0, .int .i64 at_, v] w fun e w' => e = .returned (.tuple #[]) ∧ ∃ v', DkAt w' p (D.put at_ v bs v') ∧ Fr (D.PutM p) w w' ∧ ∀ g, v'.ownBlock = some g → D.wv.ownBlock = some g ∨ w.heap.size ≤ g := by
  obtain ⟨a, cap, ev, hBy, hlc, hcm, hz, _⟩ := ownBy_shape hv
  obtain ⟨wa, wcp, ew, _⟩ := own_len h.wait
  have hb1 := below_new w (.cells #[.int .i64 at_, v] 92)
  have R1 := Row.new w [.int .i64 at_, v] 92
  have hgl : D.gn < w.heap.size := h.lt (.inr (.inr (.inl rfl)))
  have HL := hid (fun k (hk : D.Mem p k) => h.lt hk)
  have hM1 := h.kept hb1
  have hv1 := own_below hv hb1
  have hB1 := hBy.kept hb1
  have hpn := h.pn
  have hpw := h.pw
  clear hv hBy h
  subst ev
  go_enter Tryd.func66, Tryd.ntmps66
  go_upto_region 1 with fail
  revert hb1 R1 hM1 hv1 hB1
  generalize w.alloc (.cells #[.int .i64 at_, .slice a bs.length cap] 92) = w1
  intro hb1 R1 hM1 hv1 hB1
  have HC := hid (onto_any (at_ := at_) (cp := cap) (own_below hM1.now (below_drewN (Below.refl _ _) 1)) (hB1.kept (below_drewN (Below.refl _ _) 1)) rfl hz (by rw [hk.len]; exact hfit) (by rw [hk.len]; omega))
  have HM := hid hM1
  have HV := hid hv1
  have HB1 := hid hb1
  have HR1 := hid R1
  have c1 := hM1.row.cell 1 _ rfl
  have e0 := R1.cell 0 _ rfl
  have e1 := R1.cell 1 _ rfl
  have HK := hid hk
  have HFI := hid hfit
  unfold Dk.nv at c1
  clear hM1 hv1 hB1 hb1 R1 hk hfit h1 hlc hcm hz
  go_cut [] from 10 to 15 (fun wx => OwnBy wx 0 D.nv (lay D.N at_ bs) ∧ Fr (fun x => x = D.gn) w1 wx)
  case first =>
    go_region_with (go_at_call 44; refine HC.out.mono ?_; rintro e w2 ⟨rfl, hO2, hF2⟩; have HO2 := hid hO2; have HF2 : Hid (Fr (fun x => x = D.gn) w1 w2) := ((Fr.refl _ _).drewN 1).trans hF2 (fun _ e => .inl e); clear hO2 hF2 HC)
    all_goals (go_wp2_with fail; go_meet; exact ⟨HO2.out, HF2.out⟩)
  case rest =>
    obtain ⟨hO2, hF2⟩ := hcut
    have hba := below_new wc (.cells #[.int .i64 at_, .slice a bs.length cap] 92)
    have hbd := below_drewN hba 1
    have hcell : ((wc.alloc (.cells #[.int .i64 at_, .slice a bs.length cap] 92)).drewN 1).cell? ⟨wc.heap.size, 0, none⟩ = some (.int .i64 at_) := (Row.new wc [.int .i64 at_, .slice a bs.length cap] 92).cell 0 _ rfl
    have hcell1 : ((wc.alloc (.cells #[.int .i64 at_, .slice a bs.length cap] 92)).drewN 1).cell? ⟨wc.heap.size, 1, none⟩ = some (.slice a bs.length cap) := (Row.new wc [.int .i64 at_, .slice a bs.length cap] 92).cell 1 _ rfl
    have hwt := own_below (hF2.own HM.out.wait (fun x e e' => HM.out.nw (e' ▸ e))) hbd
    obtain ⟨v', w4, hrun, hW4, hF4, hn4⟩ := push92 (x := ⟨at_, .slice a bs.length cap, bs⟩) hwt hw hcell hcell1 rfl 76
    obtain ⟨a4, c4, e4, _⟩ := own_len hW4
    rw [show (D.W ++ [(⟨at_, .slice a bs.length cap, bs⟩ : Wr)]).length = D.W.length + 1 by simp] at e4
    have Rp := hF2.row HM.out.row (fun e => hpn e)
    have RpA := Rp.alloc (.cells #[.int .i64 at_, .slice a bs.length cap] 92)
    have RpB := hF4.row (Rp.kept hbd Rp.lt) hpw
    have RX := hF2.row HR1.out (fun e => by omega)
    have RXA := RX.alloc (.cells #[.int .i64 at_, .slice a bs.length cap] 92)
    have p2 := Rp.cell 2 _ rfl
    have p2a := RpA.cell 2 _ rfl
    have p2b := RpB.cell 2 _ rfl
    have f2b := RpB.frozen 2
    have x0 := RX.cell 0 _ rfl
    have x1 := RX.cell 1 _ rfl
    have x0a := RXA.cell 0 _ rfl
    have x1a := RXA.cell 1 _ rfl
    have hbs := bsl76
    have HE := hid (put_mem HM.out HK.out HB1.out HL.out HV.out hvs hvn HFI.out hO2 hF2 hbd hW4 hF4 hn4)
    rw [ew] at hrun p2 p2a p2b
    have HRUN := hid hrun
    subst e4
    clear hba hbd hcell hcell1 hwt hrun hW4 hF4 hn4 Rp RpA RpB RX RXA hO2 hF2 HM HR1 HV hvs hvn
    go_upto_region 2 with fail
    go_region_law (refine step_append_by (by rfl) _ _ _ (by rfl) (by rfl) (by rfl) HRUN.out ?_)
    all_goals go_wp2_with fail
    all_goals refine bodyPost_end (results_none Tryd.results66 _ _ _) rfl ?_
    all_goals exact ⟨rfl, _, HE.out⟩
end Go.Proofs.YtfhjiggaacgncaaDoor
