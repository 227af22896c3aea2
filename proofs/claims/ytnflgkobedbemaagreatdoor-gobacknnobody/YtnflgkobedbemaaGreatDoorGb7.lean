import Derived.Test.YtnflgkobedbemaaGreatDoorGb5
import Derived.Test.YtnflgkobedbemaaGreatDoorGb6
namespace Go.Proofs.YtnflgkobedbemaaGreatDoor
open Go.RowKit Go.Maps Go.Sort
set_option maxRecDepth 100000

set_option maxHeartbeats 2000000 in
theorem gnone_no {w : World} {p g : Nat} {re : Int} (R : Row w p (enC g re) 49) : Calls Tryz.prog 31 #[.pointer (some ⟨p, 0, none⟩)] w fun e w' => e = .returned (.bool false) ∧ w' = w := by
  have c0 := R.cell 0 _ rfl
  clear R
  go_enter Tryz.func31, Tryz.ntmps31
  go_wp2
  go_ret
  exact ⟨rfl, rfl⟩
set_option maxHeartbeats 2000000 in
theorem uw_z {w : World} {p g : Nat} {re : Int} (R : Row w p (enC g re) 49) : Calls Tryz.prog 33 #[.pointer (some ⟨p, 0, none⟩)] w fun e w' => e = .returned (.int .i64 0) ∧ w' = w := by
  have c6 := R.cell 6 _ rfl
  have c5 := R.cell 5 _ rfl
  clear R
  go_enter Tryz.func33, Tryz.ntmps33
  go_wp2
  go_ret
  exact ⟨rfl, rfl⟩
set_option maxHeartbeats 2000000 in
theorem time_z {w : World} {p g : Nat} {re : Int} (R : Row w p (enC g re) 49) : Calls Tryz.prog 34 #[.pointer (some ⟨p, 0, none⟩)] w fun e w' => e = .returned (.int .u64 1000) ∧ w' = w := by
  have c2 := R.cell 2 _ rfl
  clear R
  go_enter Tryz.func34, Tryz.ntmps34
  go_wp2
  go_ret
  exact ⟨rfl, rfl⟩
/-- What a look tells of the path of a side that has done nothing. -/
def psC : List Value := [.int .i64 3, .bool false, .int .i64 0, .int .i64 0, .int .i64 8192, .int .i64 8192, .bool false, .int .u64 0, .int .u64 1000]
def PsV (B : Nat) (v : Value) (w : World) : Prop := ∃ g, v = .slice (some ⟨g, 0, none⟩) 1 1 ∧ Row w g psC 75 ∧ B ≤ g
theorem keeps_psV (B : Nat) : Dr.Keeps (PsV B) := fun _ _ _ hb ⟨g, e, h, k⟩ => ⟨g, e, h.kept hb h.lt, k⟩
/-- A look at a side that has done nothing. -/
def StZ (w : World) (ob edg snb pb pe : Int) (v : Value) : Prop := ∃ g, v = .agg (stL ob edg snb pb pe (.slice (some ⟨g, 0, none⟩) 1 1)).toArray ∧ Row w g psC 75
theorem lit25 (t : Array Value) (h : t.size = 25) : ∃ x0 x1 x2 x3 x4 x5 x6 x7 x8 x9 x10 x11 x12 x13 x14 x15 x16 x17 x18 x19 x20 x21 x22 x23 x24, t = #[x0, x1, x2, x3, x4, x5, x6, x7, x8, x9, x10, x11, x12, x13, x14, x15, x16, x17, x18, x19, x20, x21, x22, x23, x24] := by
  obtain ⟨l⟩ := t
  match l, h with
  | x0 :: x1 :: x2 :: x3 :: x4 :: x5 :: x6 :: x7 :: x8 :: x9 :: x10 :: x11 :: x12 :: x13 :: x14 :: x15 :: x16 :: x17 :: x18 :: x19 :: x20 :: x21 :: x22 :: x23 :: x24 :: [], _ => exact ⟨x0, x1, x2, x3, x4, x5, x6, x7, x8, x9, x10, x11, x12, x13, x14, x15, x16, x17, x18, x19, x20, x21, x22, x23, x24, rfl⟩
section
variable {ops : Array Oper} {o : Oper} {a : Act} {w : World} {K : Act → World → Prop} {Q : Exit → Act → World → Prop}
theorem step_store1 {t : TypeId} {x y : Operand} {ad : Addr} {v : Value} (ho : o.op = .store t x y) (hx : a.eval x = .pointer (some ad)) (hy : a.eval y = v) (hs : (Instr.storeAt t (.pointer (some ad)) v).run Tryz.prog w = .ok () (w.setCell ad v))
    (h : K (a.put o.dst undef) (w.setCell ad v)) : Oper.wp Tryz.prog o a w K Q := by
  have e : (execOp a.eval o).run Tryz.prog w = .ok .skip (w.setCell ad v) := by
    generalize a.eval = r at *
    simp [execOp, ho, hx, hy, hs]
  unfold Oper.wp
  rw [e]
  exact h
end
set_option maxHeartbeats 8000000 in
theorem gstat_z {w : World} {p : Nat} {c : Cf} {s : Int} (hE : EnZ w p c s) :
    Calls Tryz.prog 12 #[.pointer (some ⟨p, 0, none⟩)] w fun e w' => (∃ v, e = .returned v ∧ StZ w' (c.ob s) ((c.ob s : Int) + c.rb) c.sb (c.pb s) ((c.pb s : Int) + c.rb) v) ∧ Below w.heap.size w w' := by
  obtain ⟨g, hR, hO⟩ := hE
  have HNO := hid (fun W hb => gnone_no (hR.kept (w' := W) hb hR.lt))
  have HR0 := hid hR
  have HO0 := hid hO
  generalize c.re = re at *
  clear hR hO
  go_enter Tryz.func12, Tryz.ntmps12
  go_upto_region 1 with fail
  refine wp_world fun wa HW => ?_
  have HZa : Hid (Row wa w.heap.size stZ 38) := by show Row _ _ _ _; rw [HW.out]; exact Row.new _ _ _
  have HBa : Hid (Below w.heap.size w wa) := by show Below _ _ _; rw [HW.out]; exact (Below.refl _ _).alloc (Nat.le_refl _) _
  have HOS := hid (ostat_z (HO0.out.kept HBa.out))
  have c0 := (HR0.out.kept HBa.out HR0.out.lt).cell 0 _ rfl
  obtain ⟨rb0, hrb⟩ : ∃ z, z = w.heap.size := ⟨_, rfl⟩
  have HRB := hid hrb
  rw [← hrb] at HZa ⊢
  clear HW hrb
  obtain ⟨sl, hsl⟩ : ∃ l, l = stL (c.ob s) ((c.ob s : Int) + c.rb) c.sb (c.pb s) ((c.pb s : Int) + c.rb) (.slice none 0 0) := ⟨_, rfl⟩
  rw [← hsl] at HOS
  have HSL := hid hsl
  clear hsl
  go_upto_region 4 with (first
    | (go_at_call 31; refine (HNO.out _ HBa.out).mono ?_; rintro e w1 ⟨rfl, rfl⟩)
    | (go_at_call 32; refine HOS.out.mono ?_; rintro e wc ⟨rfl, hbc⟩; have HBC := hid hbc; clear hbc)
    | (show wpList _ _ _ (Oper.mk none (.store 38 (.tmp 3) (.tmp 11)) _ _ _ _ :: _) _ _; refine (Row.new' wc _ stZ 38 _ rfl rfl).wpStore' 38 (.tmp 3) (.tmp 11) sl rfl rfl rfl rfl (by rw [HSL.out]; rfl) (by rw [HSL.out]; exact stL_one _ _ _ _ _ _ _ _) (by rw [HSL.out]; exact i38) ?_; intro W HWD))
  have HX : Hid (Row W wc.heap.size sl 38) := by show Row _ _ _ _; rw [HWD.out]; exact (Row.new' wc _ stZ 38 _ rfl rfl).row _
  have HBcW : Hid (Below wc.heap.size wc W) := by show Below _ _ _; rw [HWD.out]; exact Go.below_setRow ((Below.refl _ _).alloc (Nat.le_refl _) _) (Nat.le_refl _) _
  have HBaW := hid (HBC.out.trans (HBcW.out.mono HBC.out.size))
  have HBW := hid (HBa.out.trans (HBaW.out.mono HBa.out.size))
  have HR := hid (HR0.out.kept HBW.out HR0.out.lt)
  have HZ := hid (HZa.out.kept HBaW.out HZa.out.lt)
  have HSX : Hid (w.heap.size ≤ wc.heap.size) := Nat.le_trans HBa.out.size HBC.out.size
  have HSR : Hid (rb0 < wc.heap.size) := by have := HZa.out.lt; have := HBC.out.size; show rb0 < _; omega
  generalize wc.heap.size = sx at *
  clear HR0 HO0 HNO HZa HBaW HBcW HBC HBa HOS c0 HWD
  rw [HSL.out] at HX

  refine Dr.wp_act fun A HF => ?_
  have F0 : Hid (A.tmps[0]? = some (.pointer (some ⟨p, 0, none⟩))) := by show _ = _; rw [HF.out]; rfl
  have F2 : Hid (A.tmps[2]? = some (.pointer (some ⟨rb0, 0, none⟩))) := by show _ = _; rw [HF.out]; rfl
  have F3 : Hid (A.tmps[3]? = some (.pointer (some ⟨sx, 0, none⟩))) := by show _ = _; rw [HF.out]; rfl
  have FS : Hid (A.tmps.size = 25) := by show _ = _; rw [HF.out]; rfl
  have FD : Hid (A.defers = []) := by show _ = _; rw [HF.out]; rfl
  clear HF
  have KP : Hid (∀ f ∈ ([Dr.Is (.pointer (some ⟨p, 0, none⟩)), Dr.Is (.pointer (some ⟨p, 0, none⟩)), Dr.Is (.pointer (some ⟨p, 2, none⟩)), Dr.Is (.int .i64 0), Dr.Is (.pointer (some ⟨p, 0, none⟩)), Dr.Is (.int .i64 0), Dr.Is (.agg #[.int .i64 8192, .int .i64 8192]), Dr.Is (.pointer (some ⟨p, 0, none⟩)), Dr.Is (.int .u64 1000), Dr.Is (.agg psC.toArray), (PsV W.heap.size), Dr.Is (.pointer (some ⟨sx, 14, none⟩))] : List (Value → World → Prop)), Dr.Keeps f) := by
    intro f hf
    simp only [List.mem_cons, List.not_mem_nil, or_false] at hf
    rcases hf with rfl | rfl | rfl | rfl | rfl | rfl | rfl | rfl | rfl | rfl | rfl | rfl
    · exact Dr.keeps_is _
    · exact Dr.keeps_is _
    · exact Dr.keeps_is _
    · exact Dr.keeps_is _
    · exact Dr.keeps_is _
    · exact Dr.keeps_is _
    · exact Dr.keeps_is _
    · exact Dr.keeps_is _
    · exact Dr.keeps_is _
    · exact Dr.keeps_is _
    · exact keeps_psV _
    · exact Dr.keeps_is _
  refine wp_region_any (by kernel_rfl) ?_
  refine Dr.wpAny_last 12 rfl (by decide +kernel) (by decide +kernel) (fun _ wx => Below W.heap.size W wx) (Dr.Sps [Dr.Is (.pointer (some ⟨p, 0, none⟩)), Dr.Is (.pointer (some ⟨p, 0, none⟩)), Dr.Is (.pointer (some ⟨p, 2, none⟩)), Dr.Is (.int .i64 0), Dr.Is (.pointer (some ⟨p, 0, none⟩)), Dr.Is (.int .i64 0), Dr.Is (.agg #[.int .i64 8192, .int .i64 8192]), Dr.Is (.pointer (some ⟨p, 0, none⟩)), Dr.Is (.int .u64 1000), Dr.Is (.agg psC.toArray), (PsV W.heap.size), Dr.Is (.pointer (some ⟨sx, 14, none⟩))]) (below_drawn (Below.refl _ _) _) ?step4 ?last4
  case last4 =>
    intro l af wx h hall
    obtain ⟨v22, hv22, s22⟩ := h.new 10 _ 22 (hall 10 (by decide)) rfl rfl
    obtain ⟨gp, rfl, hgp, kgp⟩ : (PsV W.heap.size) v22 wx := s22.get rfl
    obtain ⟨v23, hv23, s23⟩ := h.new 11 _ 23 (hall 11 (by decide)) rfl rfl
    obtain rfl : v23 = .pointer (some ⟨sx, 14, none⟩) := s23.get rfl
    have hX := HX.out.kept h.bel HX.out.lt
    have hx14 := hX.cell 14 _ rfl
    have hf14 := hX.frozen 14
    refine Dr.wpOp_of rfl rfl ?_
    have ea := Dr.eval_tmp hv23
    have eb := Dr.eval_tmp hv22
    refine step_store1 rfl ea eb (by simp [go_sem, hx14, hf14]) ?_
    have hsz : af.tmps.size = 25 := h.size.trans FS.out
    have hdf : af.defers = [] := h.defers.trans FD.out
    have h2 := h.oldt (t := 2) (by decide +kernel) F2.out
    have h3 := h.oldt (t := 3) (by decide +kernel) F3.out
    have hXs := hX.set 14 (.slice (some ⟨gp, 0, none⟩) 1 1)
    have hZs : Row (wx.setCell ⟨sx, 14, none⟩ (.slice (some ⟨gp, 0, none⟩) 1 1)) rb0 stZ 38 := (HZ.out.kept h.bel HZ.out.lt).setOther _ (by show rb0 ≠ sx; have := HSR.out; omega) _
    have hPs : Row (wx.setCell ⟨sx, 14, none⟩ (.slice (some ⟨gp, 0, none⟩) 1 1)) gp psC 75 := hgp.setOther _ (by show gp ≠ sx; have := HX.out.lt; omega) _
    have hbx : Below w.heap.size w (wx.setCell ⟨sx, 14, none⟩ (.slice (some ⟨gp, 0, none⟩) 1 1)) := (HBW.out.trans (h.bel.mono HBW.out.size)).setCell HSX.out _
    generalize wx.setCell ⟨sx, 14, none⟩ (.slice (some ⟨gp, 0, none⟩) 1 1) = wy at *
    have HXS : Hid (Row wy sx (stL (c.ob s) ((c.ob s : Int) + c.rb) c.sb (c.pb s) ((c.pb s : Int) + c.rb) (.slice (some ⟨gp, 0, none⟩) 1 1)) 38) := hXs
    have HZS := hid hZs
    have HPS := hid hPs
    have HBY := hid hbx
    have HGP : Hid (rb0 < gp) := by have := HX.out.lt; have := HSR.out; show rb0 < gp; omega
    clear h hall s22 s23 hXs hZs hPs hbx hgp kgp hX hx14 hf14 ea eb hv22 hv23
    obtain ⟨x0, x1, x2, x3, x4, x5, x6, x7, x8, x9, x10, x11, x12, x13, x14, x15, x16, x17, x18, x19, x20, x21, x22, x23, x24, et⟩ := lit25 af.tmps hsz
    obtain rfl : af = { tmps := #[x0, x1, x2, x3, x4, x5, x6, x7, x8, x9, x10, x11, x12, x13, x14, x15, x16, x17, x18, x19, x20, x21, x22, x23, x24], defers := [] } := by cases af; simp_all
    obtain rfl : x2 = .pointer (some ⟨rb0, 0, none⟩) := by simpa using h2
    obtain rfl : x3 = .pointer (some ⟨sx, 0, none⟩) := by simpa using h3
    clear et hsz hdf h2 h3
    show Exit.then _ _ Exit.normal ({ tmps := #[x0, x1, .pointer (some ⟨rb0, 0, none⟩), .pointer (some ⟨sx, 0, none⟩), x4, x5, x6, x7, x8, x9, x10, x11, x12, x13, x14, x15, x16, x17, x18, x19, x20, x21, x22, x23, x24], defers := [] } : Act) wy
    obtain ⟨sl, hsl⟩ : ∃ l, l = stL (c.ob s) ((c.ob s : Int) + c.rb) c.sb (c.pb s) ((c.pb s : Int) + c.rb) (.slice (some ⟨gp, 0, none⟩) 1 1) := ⟨_, rfl⟩
    rw [← hsl] at HXS
    have HSL := hid hsl
    clear hsl
    go_wp2_with (first
      | (show wpList _ _ _ (Oper.mk (some 24) (.load 38 (.tmp 3)) _ _ _ _ :: _) _ _; refine HXS.out.wpLoad 38 (.tmp 3) rfl rfl rfl _ Tryz.underlying38 rfl (by rw [HSL.out]; exact i38) ?_)
      | (show wpList _ _ _ (Oper.mk none (.store 38 (.tmp 2) (.tmp 24)) _ _ _ _ :: _) _ _; refine HZS.out.wpStore' 38 (.tmp 2) (.tmp 24) sl rfl rfl rfl rfl (by rw [HSL.out]; rfl) (by rw [HSL.out]; exact stL_one _ _ _ _ _ _ _ _) (by rw [HSL.out]; exact i38) ?_; intro wz HWZ))
    have R : Row wz rb0 sl 38 := by rw [HWZ.out]; exact HZS.out.row _
    refine bodyPost_ret (R.result Tryz.results12 _ rfl _ Tryz.underlying38 rfl (by rw [HSL.out]; exact i38)) rfl ⟨⟨_, rfl, gp, by rw [HSL.out], ?_⟩, ?_⟩
    · rw [HWZ.out]
      exact HPS.out.rowOther (by have := HGP.out; omega) _
    · rw [HWZ.out]
      exact Go.below_setRow HBY.out (by rw [HRB.out]; exact Nat.le_refl _) _
  case step4 =>
    intro l af wx i h hiN hf hm
    have hR := HR.out.kept h.bel HR.out.lt
    rcases (show i = 0 ∨ i = 1 ∨ i = 2 ∨ i = 3 ∨ i = 4 ∨ i = 5 ∨ i = 6 ∨ i = 7 ∨ i = 8 ∨ i = 9 ∨ i = 10 ∨ i = 11 by omega) with rfl | rfl | rfl | rfl | rfl | rfl | rfl | rfl | rfl | rfl | rfl | rfl
    · refine Dr.wpOp_of rfl rfl ?_
      have ea : af.eval (.tmp 0) = .pointer (some ⟨p, 0, none⟩) := h.oldv (t := 0) (by decide +kernel) F0.out
      refine Dr.step_value (v := .pointer (some ⟨p, 0, none⟩)) (w' := wx) (by generalize af.eval = r at *; simp [execOp, ea, go_sem]) ?_
      exact h.step rfl rfl (by rw [FS.out]; decide) (by decide +kernel) ⟨_, rfl, rfl⟩ h.bel (fun _ _ _ q => q)
    · refine Dr.wpOp_of rfl rfl ?_
      obtain ⟨va, ea, sa⟩ := h.val hm rfl (j := 0) rfl rfl (by decide +kernel)
      obtain rfl : va = .pointer (some ⟨p, 0, none⟩) := sa.get rfl
      refine Dr.step_value (v := .pointer (some ⟨p, 0, none⟩)) (w' := wx) (by generalize af.eval = r at *; simp [execOp, ea, go_sem]) ?_
      exact h.step rfl rfl (by rw [FS.out]; decide) (by decide +kernel) ⟨_, rfl, rfl⟩ h.bel (fun _ _ _ q => q)
    · refine Dr.wpOp_of rfl rfl ?_
      obtain ⟨va, ea, sa⟩ := h.val hm rfl (j := 1) rfl rfl (by decide +kernel)
      obtain rfl : va = .pointer (some ⟨p, 0, none⟩) := sa.get rfl
      refine Dr.step_value (v := .pointer (some ⟨p, 2, none⟩)) (w' := wx) (by generalize af.eval = r at *; simp [execOp, ea, go_sem]) ?_
      exact h.step rfl rfl (by rw [FS.out]; decide) (by decide +kernel) ⟨_, rfl, rfl⟩ h.bel (fun _ _ _ q => q)
    · refine Dr.wpOp_of rfl rfl ?_
      obtain ⟨va, ea, sa⟩ := h.val hm rfl (j := 2) rfl rfl (by decide +kernel)
      obtain rfl : va = .pointer (some ⟨p, 2, none⟩) := sa.get rfl
      have hc := hR.cell 2 _ rfl
      refine Dr.step_value (v := .int .i64 0) (w' := wx) (by generalize af.eval = r at *; simp [execOp, ea, hc, go_sem]) ?_
      exact h.step rfl rfl (by rw [FS.out]; decide) (by decide +kernel) ⟨_, rfl, rfl⟩ h.bel (fun _ _ _ q => q)
    · refine Dr.wpOp_of rfl rfl ?_
      have ea : af.eval (.tmp 0) = .pointer (some ⟨p, 0, none⟩) := h.oldv (t := 0) (by decide +kernel) F0.out
      refine Dr.step_value (v := .pointer (some ⟨p, 0, none⟩)) (w' := wx) (by generalize af.eval = r at *; simp [execOp, ea, go_sem]) ?_
      exact h.step rfl rfl (by rw [FS.out]; decide) (by decide +kernel) ⟨_, rfl, rfl⟩ h.bel (fun _ _ _ q => q)
    · refine Dr.wpOp_of rfl rfl ?_
      obtain ⟨va, ea, sa⟩ := h.val hm rfl (j := 4) rfl rfl (by decide +kernel)
      obtain rfl : va = .pointer (some ⟨p, 0, none⟩) := sa.get rfl
      refine Dr.step_callv (f := 33) (args := #[.pointer (some ⟨p, 0, none⟩)]) (G := fun v w' => v = .int .i64 0 ∧ Below wx.heap.size wx w') (by have hF : af.eval (.func 33) = .func (.func 33) #[] #[] := rfl; generalize af.eval = r at *; simp [execOp, resolve, invoke, hF, ea, go_sem]) ((uw_z hR).mono fun e w' ⟨e1, e2⟩ => ⟨_, e1, rfl, by rw [e2]; exact Below.refl _ _⟩) fun v w' ⟨hv, hb'⟩ => ?_
      subst hv
      exact h.step rfl rfl (by rw [FS.out]; decide) (by decide +kernel) ⟨_, rfl, rfl⟩ (h.bel.trans (hb'.mono h.bel.size)) (fun j v _ q => q.kept KP.out hb')
    · refine Dr.wpOp_of rfl rfl ?_
      have ea : af.eval (.const (.int .i64 8192)) = .int .i64 8192 := rfl
      refine Dr.step_value (v := .agg #[.int .i64 8192, .int .i64 8192]) (w' := wx) (by generalize af.eval = r at *; simp [execOp, ea, go_sem]) ?_
      exact h.step rfl rfl (by rw [FS.out]; decide) (by decide +kernel) ⟨_, rfl, rfl⟩ h.bel (fun _ _ _ q => q)
    · refine Dr.wpOp_of rfl rfl ?_
      have ea : af.eval (.tmp 0) = .pointer (some ⟨p, 0, none⟩) := h.oldv (t := 0) (by decide +kernel) F0.out
      refine Dr.step_value (v := .pointer (some ⟨p, 0, none⟩)) (w' := wx) (by generalize af.eval = r at *; simp [execOp, ea, go_sem]) ?_
      exact h.step rfl rfl (by rw [FS.out]; decide) (by decide +kernel) ⟨_, rfl, rfl⟩ h.bel (fun _ _ _ q => q)
    · refine Dr.wpOp_of rfl rfl ?_
      obtain ⟨va, ea, sa⟩ := h.val hm rfl (j := 7) rfl rfl (by decide +kernel)
      obtain rfl : va = .pointer (some ⟨p, 0, none⟩) := sa.get rfl
      refine Dr.step_callv (f := 34) (args := #[.pointer (some ⟨p, 0, none⟩)]) (G := fun v w' => v = .int .u64 1000 ∧ Below wx.heap.size wx w') (by have hF : af.eval (.func 34) = .func (.func 34) #[] #[] := rfl; generalize af.eval = r at *; simp [execOp, resolve, invoke, hF, ea, go_sem]) ((time_z hR).mono fun e w' ⟨e1, e2⟩ => ⟨_, e1, rfl, by rw [e2]; exact Below.refl _ _⟩) fun v w' ⟨hv, hb'⟩ => ?_
      subst hv
      exact h.step rfl rfl (by rw [FS.out]; decide) (by decide +kernel) ⟨_, rfl, rfl⟩ (h.bel.trans (hb'.mono h.bel.size)) (fun j v _ q => q.kept KP.out hb')
    · refine Dr.wpOp_of rfl rfl ?_
      have ea : af.eval (.const (.int .i64 3)) = .int .i64 3 := rfl
      obtain ⟨vb, eb, sb⟩ := h.val hm rfl (j := 3) rfl rfl (by decide +kernel)
      obtain rfl : vb = .int .i64 0 := sb.get rfl
      obtain ⟨vc, ec, sc⟩ := h.val hm rfl (j := 5) rfl rfl (by decide +kernel)
      obtain rfl : vc = .int .i64 0 := sc.get rfl
      obtain ⟨vd, ed, sd⟩ := h.val hm rfl (j := 6) rfl rfl (by decide +kernel)
      obtain rfl : vd = .agg #[.int .i64 8192, .int .i64 8192] := sd.get rfl
      obtain ⟨ve, ee, se⟩ := h.val hm rfl (j := 8) rfl rfl (by decide +kernel)
      obtain rfl : ve = .int .u64 1000 := se.get rfl
      refine Dr.step_value (v := .agg psC.toArray) (w' := wx) (by generalize af.eval = r at *; simp [execOp, ea, eb, ec, ed, ee, go_sem, psC]) ?_
      exact h.step rfl rfl (by rw [FS.out]; decide) (by decide +kernel) ⟨_, rfl, rfl⟩ h.bel (fun _ _ _ q => q)
    · refine Dr.wpOp_of rfl rfl ?_
      obtain ⟨va, ea, sa⟩ := h.val hm rfl (j := 9) rfl rfl (by decide +kernel)
      obtain rfl : va = .agg psC.toArray := sa.get rfl
      have hb' : Below wx.heap.size wx (wx.alloc (.cells psC.toArray 75)) := Dr.below_new _ _
      refine Dr.step_value (v := .slice (some ⟨wx.heap.size, 0, none⟩) 1 1) (w' := wx.alloc (.cells psC.toArray 75)) (by generalize af.eval = r at *; simp [execOp, ea, go_sem, psC]) ?_
      exact h.step rfl rfl (by rw [FS.out]; decide) (by decide +kernel) ⟨_, rfl, wx.heap.size, rfl, Row.new' _ _ _ _ _ rfl rfl, h.bel.size⟩ (h.bel.trans (hb'.mono h.bel.size)) (fun j v _ q => q.kept KP.out hb')
    · refine Dr.wpOp_of rfl rfl ?_
      have ea : af.eval (.tmp 3) = .pointer (some ⟨sx, 0, none⟩) := h.oldv (t := 3) (by decide +kernel) F3.out
      refine Dr.step_value (v := .pointer (some ⟨sx, 14, none⟩)) (w' := wx) (by generalize af.eval = r at *; simp [execOp, ea, go_sem]) ?_
      exact h.step rfl rfl (by rw [FS.out]; decide) (by decide +kernel) ⟨_, rfl, rfl⟩ h.bel (fun _ _ _ q => q)
end Go.Proofs.YtnflgkobedbemaaGreatDoor
