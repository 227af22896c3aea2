import Derived.Test.YtnflgkobedbemaaGreatDoorGb3
import Derived.Test.YtnflgkobedbemaaGreatDoorGb8
namespace Go.Proofs.YtnflgkobedbemaaGreatDoor
open Go.RowKit Go.Maps Go.Sort
set_option maxRecDepth 100000

set_option maxHeartbeats 2000000 in
theorem lying_z {w : World} (b0 rm gp rd ga fn : Int) (en : Bool) (a : Option Addr) (cap : Nat) :
    Calls Tryz.prog 77 #[.agg #[.int .u64 b0, .int .i64 rm, .int .i64 gp, .int .u64 rd, .int .u64 ga, .slice a 0 cap, .int .u64 fn, .bool en]] w fun e w' => e = .returned (.tuple #[.int .i64 0, .int .i64 0]) ∧ Below w.heap.size w w' := by
  go_enter Tryz.func77, Tryz.ntmps77
  go_wp2
  refine wp_loop_rounds 1 ?_
  rw [rounds_succ]
  go_wp2
  go_ret2
  exact ⟨rfl, (Below.refl _ _).alloc (Nat.le_refl _) _⟩
theorem state_zero {w : World} {p b : Nat} {pb rm ga : Int} (h : BufR w p (.slice none 0 0) b (Bf.zero pb rm ga)) :
    Calls Tryz.prog 76 #[.pointer (some ⟨p, 0, none⟩)] w fun e w' => ∃ gr, e = .returned (.agg #[.int .u64 pb, .int .i64 rm, .int .i64 ga, .int .u64 pb, .int .u64 pb, .slice (some ⟨gr, 0, none⟩) 0 0, .int .u64 0, .bool false]) ∧ Below w.heap.size w w' := by
  refine (state_any h).mono ?_
  rintro e w' ⟨s, rfl, ⟨gr, hs, _, _⟩, hb⟩
  subst hs
  exact ⟨gr, rfl, hb⟩
set_option maxHeartbeats 2000000 in
theorem odone_z {w : World} {g q p : Nat} {t0 t1 : BitVec 32} {G : Snd.Sb} (R : Row w g (owC q p t0 t1) 116) (hS : Snd.SbW w q G none 0) (hG : G.done = false) :
    Calls Tryz.prog 54 #[.pointer (some ⟨g, 0, none⟩)] w fun e w' => e = .returned (.bool false) ∧ Below w.heap.size w w' := by
  have c0 := R.cell 0 _ rfl
  have HD := hid (Snd.done_any hS.r)
  rw [hG] at HD
  clear R hS hG
  go_enter Tryz.func54, Tryz.ntmps54
  go_wp2_with (go_at_call 98; refine HD.out.mono ?_; rintro e w1 ⟨rfl, k1, rfl⟩)
  go_ret
  exact ⟨rfl, below_drewN (Below.refl _ _) _⟩
/-- What a look at a side that has done nothing tells. -/
def stL (ob edg snb pb pe : Int) (s : Value) : List Value := [.int .i64 0, .bool false, .bool false, .int .u64 0, .int .u64 ob, .int .u64 ob, .int .u64 ob, .int .u64 edg, .int .i64 snb, .int .u64 pb, .int .u64 pe, .int .i64 0, .int .i64 0, .int .i64 0, s]
theorem stL_one (ob edg snb pb pe : Int) (a : Option Addr) (n c : Nat) : ∀ v ∈ stL ob edg snb pb pe (.slice a n c), v.oneCell' = true := by
  intro v hv
  simp only [stL, List.mem_cons, List.not_mem_nil, or_false] at hv
  rcases hv with h | h | h | h | h | h | h | h | h | h | h | h | h | h | h <;> (subst h; rfl)
theorem i132 : (Tryz.prog.info? 132).map (·.size) = some 8 := by kernel_rfl
set_option maxHeartbeats 8000000 in
theorem ostat_z {w : World} {g : Nat} {pb rm ga ob snb ms edg : Int} {t0 t1 : BitVec 32} (hO : OwZ w g (Bf.zero pb rm ga) (Snd.Sb.mk1 ob snb ms edg) t0 t1) :
    Calls Tryz.prog 32 #[.pointer (some ⟨g, 0, none⟩)] w fun e w' => e = .returned (.agg (stL ob edg snb pb (pb + rm) (.slice none 0 0)).toArray) ∧ Below w.heap.size w w' := by
  obtain ⟨q, p, b, hR, hS, hB⟩ := hO
  have HFR : Hid ((Snd.Sb.mk1 ob snb ms edg).free = snb) := by show _ = _; simp [Snd.Sb.free, Snd.Sb.mk1]
  have HR0 := hid hR
  have HS0 := hid hS
  have HB0 := hid hB
  clear hR hS hB
  go_enter Tryz.func32, Tryz.ntmps32
  go_upto_region 1 with fail
  refine wp_world fun wa HW => ?_
  have HZa : Hid (Row wa w.heap.size stZ 38) := by show Row _ _ _ _; rw [HW.out]; exact Row.new _ _ _
  have HBa : Hid (Below w.heap.size w wa) := by show Below _ _ _; rw [HW.out]; exact (Below.refl _ _).alloc (Nat.le_refl _) _
  have HST := hid (state_zero (HB0.out.kept HBa.out))
  have c1 := (HR0.out.kept HBa.out HR0.out.lt).cell 1 _ rfl
  obtain ⟨rb0, hrb⟩ : ∃ z, z = w.heap.size := ⟨_, rfl⟩
  have HRB := hid hrb
  rw [← hrb] at HZa ⊢
  clear HW hrb
  go_upto_region 2 with (first
    | (go_at_call 76; refine HST.out.mono ?_; rintro e wc ⟨gr, rfl, hbc⟩; have HBC := hid hbc; clear hbc))
  refine wp_world fun we HW => ?_
  have HXe : Hid (Row we wc.heap.size [.int .u64 pb, .int .i64 rm, .int .i64 ga, .int .u64 pb, .int .u64 pb, .slice (some ⟨gr, 0, none⟩) 0 0, .int .u64 0, .bool false] 132) := by show Row _ _ _ _; rw [HW.out]; exact Row.new _ _ _
  have HBce : Hid (Below wc.heap.size wc we) := by show Below _ _ _; rw [HW.out]; exact (Below.refl _ _).alloc (Nat.le_refl _) _
  have HBae := hid (HBC.out.trans (HBce.out.mono HBC.out.size))
  have HLY := hid (lying_z (w := we) pb rm ga pb pb 0 false (some ⟨gr, 0, none⟩) 0)
  generalize wc.heap.size = sx at *
  clear HW c1 HST HBC HBce
  go_upto_region 3 with (first
    | (show wpList _ _ _ (Oper.mk (some 12) (.load 132 (.tmp 3)) _ _ _ _ :: _) _ _; refine HXe.out.wpLoad 132 (.tmp 3) rfl rfl rfl _ Tryz.underlying132 rfl i132 ?_)
    | (go_at_call 77; refine HLY.out.mono ?_; rintro e W ⟨rfl, hbW⟩; have HBe := hid hbW; clear hbW))
  have HBaW := hid (HBae.out.trans (HBe.out.mono HBae.out.size))
  have HBW := hid (HBa.out.trans (HBaW.out.mono HBa.out.size))
  have HR := hid (HR0.out.kept HBW.out HR0.out.lt)
  have HS := hid (HS0.out.kept HBW.out)
  have HB := hid (HB0.out.kept HBW.out)
  have HX := hid (HXe.out.kept HBe.out HXe.out.lt)
  have HZ := hid (HZa.out.kept HBaW.out HZa.out.lt)
  clear HR0 HS0 HB0 HXe HZa HBaW HBe HBae HBa HLY
  refine Dr.wp_act fun A HF => ?_
  have F0 : Hid (A.tmps[0]? = some (.pointer (some ⟨g, 0, none⟩))) := by show _ = _; rw [HF.out]; rfl
  have F2 : Hid (A.tmps[2]? = some (.pointer (some ⟨rb0, 0, none⟩))) := by show _ = _; rw [HF.out]; rfl
  have F3 : Hid (A.tmps[3]? = some (.pointer (some ⟨sx, 0, none⟩))) := by show _ = _; rw [HF.out]; rfl
  have F4 : Hid (A.tmps[4]? = some (.int .i64 0)) := by show _ = _; rw [HF.out]; rfl
  have F5 : Hid (A.tmps[5]? = some (.int .i64 0)) := by show _ = _; rw [HF.out]; rfl
  have FS : Hid (A.tmps.size = 75) := by show _ = _; rw [HF.out]; rfl
  have FD : Hid (A.defers = []) := by show _ = _; rw [HF.out]
  clear HF
  have KP : Hid (∀ f ∈ ([Dr.Is (.pointer (some ⟨g, 0, none⟩)), Dr.Is (.pointer (some ⟨g, 0, none⟩)), Dr.Is (.pointer (some ⟨g, 2, none⟩)), Dr.Is (.int .i64 0), Dr.Is (.pointer (some ⟨g, 0, none⟩)), Dr.Is (.pointer (some ⟨g, 0, none⟩)), Dr.Is (.pointer (some ⟨g, 0, none⟩)), Dr.Is (.pointer (some ⟨q, 0, none⟩)), Dr.Is (.bool false), Dr.Is (.pointer (some ⟨g, 0, none⟩)), Dr.Is (.bool false), Dr.Is (.pointer (some ⟨g, 0, none⟩)), Dr.Is (.pointer (some ⟨g, 0, none⟩)), Dr.Is (.pointer (some ⟨g, 3, none⟩)), Dr.Is (.int .u64 0), Dr.Is (.pointer (some ⟨g, 0, none⟩)), Dr.Is (.pointer (some ⟨g, 0, none⟩)), Dr.Is (.pointer (some ⟨g, 0, none⟩)), Dr.Is (.pointer (some ⟨q, 0, none⟩)), Dr.Is (.int .u64 ob), Dr.Is (.pointer (some ⟨g, 0, none⟩)), Dr.Is (.pointer (some ⟨g, 0, none⟩)), Dr.Is (.pointer (some ⟨g, 0, none⟩)), Dr.Is (.pointer (some ⟨q, 0, none⟩)), Dr.Is (.int .u64 ob), Dr.Is (.pointer (some ⟨g, 0, none⟩)), Dr.Is (.pointer (some ⟨g, 0, none⟩)), Dr.Is (.pointer (some ⟨g, 0, none⟩)), Dr.Is (.pointer (some ⟨q, 0, none⟩)), Dr.Is (.int .u64 ob), Dr.Is (.pointer (some ⟨g, 0, none⟩)), Dr.Is (.pointer (some ⟨g, 0, none⟩)), Dr.Is (.pointer (some ⟨g, 0, none⟩)), Dr.Is (.pointer (some ⟨q, 0, none⟩)), Dr.Is (.int .u64 edg), Dr.Is (.pointer (some ⟨g, 0, none⟩)), Dr.Is (.pointer (some ⟨g, 0, none⟩)), Dr.Is (.pointer (some ⟨g, 0, none⟩)), Dr.Is (.pointer (some ⟨q, 0, none⟩)), Dr.Is (.int .i64 snb), Dr.Is (.pointer (some ⟨g, 0, none⟩)), Dr.Is (.pointer (some ⟨g, 0, none⟩)), Dr.Is (.pointer (some ⟨g, 1, none⟩)), Dr.Is (.pointer (some ⟨p, 0, none⟩)), Dr.Is (.int .u64 pb), Dr.Is (.pointer (some ⟨g, 0, none⟩)), Dr.Is (.pointer (some ⟨g, 0, none⟩)), Dr.Is (.pointer (some ⟨g, 1, none⟩)), Dr.Is (.pointer (some ⟨p, 0, none⟩)), Dr.Is (.int .u64 (pb + rm)), Dr.Is (.pointer (some ⟨sx, 4, none⟩)), Dr.Is (.int .u64 pb), Dr.Is (.pointer (some ⟨sx, 3, none⟩)), Dr.Is (.int .u64 pb), Dr.Is (.int .u64 0), Dr.Is (.int .i64 0), Dr.Is (.int .i64 0), Dr.Is (.int .i64 0), Dr.Is (.agg (stL ob edg snb pb (pb + rm) (.slice none 0 0)).toArray)] : List (Value → World → Prop)), Dr.Keeps f) := by
    intro f hf
    simp only [List.mem_cons, List.not_mem_nil, or_false] at hf
    rcases hf with rfl | rfl | rfl | rfl | rfl | rfl | rfl | rfl | rfl | rfl | rfl | rfl | rfl | rfl | rfl | rfl | rfl | rfl | rfl | rfl | rfl | rfl | rfl | rfl | rfl | rfl | rfl | rfl | rfl | rfl | rfl | rfl | rfl | rfl | rfl | rfl | rfl | rfl | rfl | rfl | rfl | rfl | rfl | rfl | rfl | rfl | rfl | rfl | rfl | rfl | rfl | rfl | rfl | rfl | rfl | rfl | rfl | rfl | rfl
    · exact Dr.keeps_is _
    · exact Dr.keeps_is _
    · exact Dr.keeps_is _
    · exact Dr.keeps_is _
    · exact Dr.keeps_is _
    · exact Dr.keeps_is _
    · exact Dr.keeps_is _
    · exact Dr.keeps_is _
    · exact Dr.keeps_is _
    · exact Dr.keeps_is _
    · exact Dr.keeps_is _
    · exact Dr.keeps_is _
    · exact Dr.keeps_is _
    · exact Dr.keeps_is _
    · exact Dr.keeps_is _
    · exact Dr.keeps_is _
    · exact Dr.keeps_is _
    · exact Dr.keeps_is _
    · exact Dr.keeps_is _
    · exact Dr.keeps_is _
    · exact Dr.keeps_is _
    · exact Dr.keeps_is _
    · exact Dr.keeps_is _
    · exact Dr.keeps_is _
    · exact Dr.keeps_is _
    · exact Dr.keeps_is _
    · exact Dr.keeps_is _
    · exact Dr.keeps_is _
    · exact Dr.keeps_is _
    · exact Dr.keeps_is _
    · exact Dr.keeps_is _
    · exact Dr.keeps_is _
    · exact Dr.keeps_is _
    · exact Dr.keeps_is _
    · exact Dr.keeps_is _
    · exact Dr.keeps_is _
    · exact Dr.keeps_is _
    · exact Dr.keeps_is _
    · exact Dr.keeps_is _
    · exact Dr.keeps_is _
    · exact Dr.keeps_is _
    · exact Dr.keeps_is _
    · exact Dr.keeps_is _
    · exact Dr.keeps_is _
    · exact Dr.keeps_is _
    · exact Dr.keeps_is _
    · exact Dr.keeps_is _
    · exact Dr.keeps_is _
    · exact Dr.keeps_is _
    · exact Dr.keeps_is _
    · exact Dr.keeps_is _
    · exact Dr.keeps_is _
    · exact Dr.keeps_is _
    · exact Dr.keeps_is _
    · exact Dr.keeps_is _
    · exact Dr.keeps_is _
    · exact Dr.keeps_is _
    · exact Dr.keeps_is _
    · exact Dr.keeps_is _
  refine wp_region_any (by kernel_rfl) ?_
  refine Dr.wpAny_last 59 rfl (by decide +kernel) (by decide +kernel) (fun _ wx => Below W.heap.size W wx) (Dr.Sps [Dr.Is (.pointer (some ⟨g, 0, none⟩)), Dr.Is (.pointer (some ⟨g, 0, none⟩)), Dr.Is (.pointer (some ⟨g, 2, none⟩)), Dr.Is (.int .i64 0), Dr.Is (.pointer (some ⟨g, 0, none⟩)), Dr.Is (.pointer (some ⟨g, 0, none⟩)), Dr.Is (.pointer (some ⟨g, 0, none⟩)), Dr.Is (.pointer (some ⟨q, 0, none⟩)), Dr.Is (.bool false), Dr.Is (.pointer (some ⟨g, 0, none⟩)), Dr.Is (.bool false), Dr.Is (.pointer (some ⟨g, 0, none⟩)), Dr.Is (.pointer (some ⟨g, 0, none⟩)), Dr.Is (.pointer (some ⟨g, 3, none⟩)), Dr.Is (.int .u64 0), Dr.Is (.pointer (some ⟨g, 0, none⟩)), Dr.Is (.pointer (some ⟨g, 0, none⟩)), Dr.Is (.pointer (some ⟨g, 0, none⟩)), Dr.Is (.pointer (some ⟨q, 0, none⟩)), Dr.Is (.int .u64 ob), Dr.Is (.pointer (some ⟨g, 0, none⟩)), Dr.Is (.pointer (some ⟨g, 0, none⟩)), Dr.Is (.pointer (some ⟨g, 0, none⟩)), Dr.Is (.pointer (some ⟨q, 0, none⟩)), Dr.Is (.int .u64 ob), Dr.Is (.pointer (some ⟨g, 0, none⟩)), Dr.Is (.pointer (some ⟨g, 0, none⟩)), Dr.Is (.pointer (some ⟨g, 0, none⟩)), Dr.Is (.pointer (some ⟨q, 0, none⟩)), Dr.Is (.int .u64 ob), Dr.Is (.pointer (some ⟨g, 0, none⟩)), Dr.Is (.pointer (some ⟨g, 0, none⟩)), Dr.Is (.pointer (some ⟨g, 0, none⟩)), Dr.Is (.pointer (some ⟨q, 0, none⟩)), Dr.Is (.int .u64 edg), Dr.Is (.pointer (some ⟨g, 0, none⟩)), Dr.Is (.pointer (some ⟨g, 0, none⟩)), Dr.Is (.pointer (some ⟨g, 0, none⟩)), Dr.Is (.pointer (some ⟨q, 0, none⟩)), Dr.Is (.int .i64 snb), Dr.Is (.pointer (some ⟨g, 0, none⟩)), Dr.Is (.pointer (some ⟨g, 0, none⟩)), Dr.Is (.pointer (some ⟨g, 1, none⟩)), Dr.Is (.pointer (some ⟨p, 0, none⟩)), Dr.Is (.int .u64 pb), Dr.Is (.pointer (some ⟨g, 0, none⟩)), Dr.Is (.pointer (some ⟨g, 0, none⟩)), Dr.Is (.pointer (some ⟨g, 1, none⟩)), Dr.Is (.pointer (some ⟨p, 0, none⟩)), Dr.Is (.int .u64 (pb + rm)), Dr.Is (.pointer (some ⟨sx, 4, none⟩)), Dr.Is (.int .u64 pb), Dr.Is (.pointer (some ⟨sx, 3, none⟩)), Dr.Is (.int .u64 pb), Dr.Is (.int .u64 0), Dr.Is (.int .i64 0), Dr.Is (.int .i64 0), Dr.Is (.int .i64 0), Dr.Is (.agg (stL ob edg snb pb (pb + rm) (.slice none 0 0)).toArray)]) (below_drawn (Below.refl _ _) _) ?step3 ?last3
  case last3 =>
    intro l af wx h hall
    obtain ⟨vz, hvz, sz⟩ := h.new 58 _ 74 (hall 58 (by decide)) rfl rfl
    obtain rfl : vz = .agg (stL ob edg snb pb (pb + rm) (.slice none 0 0)).toArray := sz.get rfl
    have hZ := HZ.out.kept h.bel HZ.out.lt
    have e2 : af.eval (.tmp 2) = .pointer (some ⟨rb0, 0, none⟩) := h.oldv (t := 2) (by decide +kernel) F2.out
    refine Dr.wpOp_of rfl rfl ?_
    refine Dr.step_storeA (c' := stL ob edg snb pb (pb + rm) (.slice none 0 0)) hZ rfl e2 (Dr.eval_tmp hvz) rfl (stL_one _ _ _ _ _ _ _ _) i38 ?_
    have hd : af.defers = [] := h.defers.trans FD.out
    have hbx : Below w.heap.size w wx := HBW.out.trans (h.bel.mono HBW.out.size)
    generalize hw5 : wx.setRow rb0 _ = w5
    show Exit.then _ _ Exit.normal af w5
    go_wp2_with fail
    rw [← hw5]
    exact bodyPost_ret ((hZ.row (stL ob edg snb pb (pb + rm) (.slice none 0 0))).result Tryz.results32 _ e2 _ Tryz.underlying38 rfl i38) hd ⟨rfl, Go.below_setRow hbx (by rw [HRB.out]; exact Nat.le_refl _) _⟩
  case step3 =>
    intro l af wx i h hiN hf hm
    have hR := HR.out.kept h.bel HR.out.lt
    have hX := HX.out.kept h.bel HX.out.lt
    have hS := HS.out.kept h.bel
    have hB := HB.out.kept h.bel
    rcases (show i = 0 ∨ i = 1 ∨ i = 2 ∨ i = 3 ∨ i = 4 ∨ i = 5 ∨ i = 6 ∨ i = 7 ∨ i = 8 ∨ i = 9 ∨ i = 10 ∨ i = 11 ∨ i = 12 ∨ i = 13 ∨ i = 14 ∨ i = 15 ∨ i = 16 ∨ i = 17 ∨ i = 18 ∨ i = 19 ∨ i = 20 ∨ i = 21 ∨ i = 22 ∨ i = 23 ∨ i = 24 ∨ i = 25 ∨ i = 26 ∨ i = 27 ∨ i = 28 ∨ i = 29 ∨ i = 30 ∨ i = 31 ∨ i = 32 ∨ i = 33 ∨ i = 34 ∨ i = 35 ∨ i = 36 ∨ i = 37 ∨ i = 38 ∨ i = 39 ∨ i = 40 ∨ i = 41 ∨ i = 42 ∨ i = 43 ∨ i = 44 ∨ i = 45 ∨ i = 46 ∨ i = 47 ∨ i = 48 ∨ i = 49 ∨ i = 50 ∨ i = 51 ∨ i = 52 ∨ i = 53 ∨ i = 54 ∨ i = 55 ∨ i = 56 ∨ i = 57 ∨ i = 58 by omega) with rfl | rfl | rfl | rfl | rfl | rfl | rfl | rfl | rfl | rfl | rfl | rfl | rfl | rfl | rfl | rfl | rfl | rfl | rfl | rfl | rfl | rfl | rfl | rfl | rfl | rfl | rfl | rfl | rfl | rfl | rfl | rfl | rfl | rfl | rfl | rfl | rfl | rfl | rfl | rfl | rfl | rfl | rfl | rfl | rfl | rfl | rfl | rfl | rfl | rfl | rfl | rfl | rfl | rfl | rfl | rfl | rfl | rfl | rfl
    · refine Dr.wpOp_of rfl rfl ?_
      have ea : af.eval (.tmp 0) = .pointer (some ⟨g, 0, none⟩) := h.oldv (t := 0) (by decide +kernel) F0.out
      refine Dr.step_value (v := .pointer (some ⟨g, 0, none⟩)) (w' := wx) (by generalize af.eval = r at *; simp [execOp, ea, go_sem]) ?_
      exact h.step rfl rfl (by rw [FS.out]; decide) (by decide +kernel) ⟨_, rfl, rfl⟩ h.bel (fun _ _ _ q => q)
    · refine Dr.wpOp_of rfl rfl ?_
      obtain ⟨va, ea, sa⟩ := h.val hm rfl (j := 0) rfl rfl (by decide +kernel)
      obtain rfl : va = .pointer (some ⟨g, 0, none⟩) := sa.get rfl
      refine Dr.step_value (v := .pointer (some ⟨g, 0, none⟩)) (w' := wx) (by generalize af.eval = r at *; simp [execOp, ea, go_sem]) ?_
      exact h.step rfl rfl (by rw [FS.out]; decide) (by decide +kernel) ⟨_, rfl, rfl⟩ h.bel (fun _ _ _ q => q)
    · refine Dr.wpOp_of rfl rfl ?_
      obtain ⟨va, ea, sa⟩ := h.val hm rfl (j := 1) rfl rfl (by decide +kernel)
      obtain rfl : va = .pointer (some ⟨g, 0, none⟩) := sa.get rfl
      refine Dr.step_value (v := .pointer (some ⟨g, 2, none⟩)) (w' := wx) (by generalize af.eval = r at *; simp [execOp, ea, go_sem]) ?_
      exact h.step rfl rfl (by rw [FS.out]; decide) (by decide +kernel) ⟨_, rfl, rfl⟩ h.bel (fun _ _ _ q => q)
    · refine Dr.wpOp_of rfl rfl ?_
      obtain ⟨va, ea, sa⟩ := h.val hm rfl (j := 2) rfl rfl (by decide +kernel)
      obtain rfl : va = .pointer (some ⟨g, 2, none⟩) := sa.get rfl
      have hc := hR.cell 2 _ rfl
      refine Dr.step_value (v := .int .i64 0) (w' := wx) (by generalize af.eval = r at *; simp [execOp, ea, hc, go_sem]) ?_
      exact h.step rfl rfl (by rw [FS.out]; decide) (by decide +kernel) ⟨_, rfl, rfl⟩ h.bel (fun _ _ _ q => q)
    · refine Dr.wpOp_of rfl rfl ?_
      have ea : af.eval (.tmp 0) = .pointer (some ⟨g, 0, none⟩) := h.oldv (t := 0) (by decide +kernel) F0.out
      refine Dr.step_value (v := .pointer (some ⟨g, 0, none⟩)) (w' := wx) (by generalize af.eval = r at *; simp [execOp, ea, go_sem]) ?_
      exact h.step rfl rfl (by rw [FS.out]; decide) (by decide +kernel) ⟨_, rfl, rfl⟩ h.bel (fun _ _ _ q => q)
    · refine Dr.wpOp_of rfl rfl ?_
      obtain ⟨va, ea, sa⟩ := h.val hm rfl (j := 4) rfl rfl (by decide +kernel)
      obtain rfl : va = .pointer (some ⟨g, 0, none⟩) := sa.get rfl
      refine Dr.step_value (v := .pointer (some ⟨g, 0, none⟩)) (w' := wx) (by generalize af.eval = r at *; simp [execOp, ea, go_sem]) ?_
      exact h.step rfl rfl (by rw [FS.out]; decide) (by decide +kernel) ⟨_, rfl, rfl⟩ h.bel (fun _ _ _ q => q)
    · refine Dr.wpOp_of rfl rfl ?_
      obtain ⟨va, ea, sa⟩ := h.val hm rfl (j := 5) rfl rfl (by decide +kernel)
      obtain rfl : va = .pointer (some ⟨g, 0, none⟩) := sa.get rfl
      refine Dr.step_value (v := .pointer (some ⟨g, 0, none⟩)) (w' := wx) (by generalize af.eval = r at *; simp [execOp, ea, go_sem]) ?_
      exact h.step rfl rfl (by rw [FS.out]; decide) (by decide +kernel) ⟨_, rfl, rfl⟩ h.bel (fun _ _ _ q => q)
    · refine Dr.wpOp_of rfl rfl ?_
      obtain ⟨va, ea, sa⟩ := h.val hm rfl (j := 6) rfl rfl (by decide +kernel)
      obtain rfl : va = .pointer (some ⟨g, 0, none⟩) := sa.get rfl
      have hc := hR.cell 0 _ rfl
      refine Dr.step_value (v := .pointer (some ⟨q, 0, none⟩)) (w' := wx) (by generalize af.eval = r at *; simp [execOp, ea, hc, go_sem]) ?_
      exact h.step rfl rfl (by rw [FS.out]; decide) (by decide +kernel) ⟨_, rfl, rfl⟩ h.bel (fun _ _ _ q => q)
    · refine Dr.wpOp_of rfl rfl ?_
      obtain ⟨va, ea, sa⟩ := h.val hm rfl (j := 7) rfl rfl (by decide +kernel)
      obtain rfl : va = .pointer (some ⟨q, 0, none⟩) := sa.get rfl
      refine Dr.step_callv (f := 78) (args := #[.pointer (some ⟨q, 0, none⟩)]) (G := fun v w' => v = .bool false ∧ Below wx.heap.size wx w') (by have hF : af.eval (.func 78) = .func (.func 78) #[] #[] := rfl; generalize af.eval = r at *; simp [execOp, resolve, invoke, hF, ea, go_sem]) ((Snd.closed_any hS.r).mono fun e w' ⟨e1, e2⟩ => ⟨_, e1, rfl, by rw [e2]; exact Below.refl _ _⟩) fun v w' ⟨hv, hb'⟩ => ?_
      subst hv
      exact h.step rfl rfl (by rw [FS.out]; decide) (by decide +kernel) ⟨_, rfl, rfl⟩ (h.bel.trans (hb'.mono h.bel.size)) (fun j v _ q => q.kept KP.out hb')
    · refine Dr.wpOp_of rfl rfl ?_
      have ea : af.eval (.tmp 0) = .pointer (some ⟨g, 0, none⟩) := h.oldv (t := 0) (by decide +kernel) F0.out
      refine Dr.step_value (v := .pointer (some ⟨g, 0, none⟩)) (w' := wx) (by generalize af.eval = r at *; simp [execOp, ea, go_sem]) ?_
      exact h.step rfl rfl (by rw [FS.out]; decide) (by decide +kernel) ⟨_, rfl, rfl⟩ h.bel (fun _ _ _ q => q)
    · refine Dr.wpOp_of rfl rfl ?_
      obtain ⟨va, ea, sa⟩ := h.val hm rfl (j := 9) rfl rfl (by decide +kernel)
      obtain rfl : va = .pointer (some ⟨g, 0, none⟩) := sa.get rfl
      refine Dr.step_callv (f := 54) (args := #[.pointer (some ⟨g, 0, none⟩)]) (G := fun v w' => v = .bool false ∧ Below wx.heap.size wx w') (by have hF : af.eval (.func 54) = .func (.func 54) #[] #[] := rfl; generalize af.eval = r at *; simp [execOp, resolve, invoke, hF, ea, go_sem]) ((odone_z hR hS rfl).mono fun e w' ⟨e1, e2⟩ => ⟨_, e1, rfl, e2⟩) fun v w' ⟨hv, hb'⟩ => ?_
      subst hv
      exact h.step rfl rfl (by rw [FS.out]; decide) (by decide +kernel) ⟨_, rfl, rfl⟩ (h.bel.trans (hb'.mono h.bel.size)) (fun j v _ q => q.kept KP.out hb')
    · refine Dr.wpOp_of rfl rfl ?_
      have ea : af.eval (.tmp 0) = .pointer (some ⟨g, 0, none⟩) := h.oldv (t := 0) (by decide +kernel) F0.out
      refine Dr.step_value (v := .pointer (some ⟨g, 0, none⟩)) (w' := wx) (by generalize af.eval = r at *; simp [execOp, ea, go_sem]) ?_
      exact h.step rfl rfl (by rw [FS.out]; decide) (by decide +kernel) ⟨_, rfl, rfl⟩ h.bel (fun _ _ _ q => q)
    · refine Dr.wpOp_of rfl rfl ?_
      obtain ⟨va, ea, sa⟩ := h.val hm rfl (j := 11) rfl rfl (by decide +kernel)
      obtain rfl : va = .pointer (some ⟨g, 0, none⟩) := sa.get rfl
      refine Dr.step_value (v := .pointer (some ⟨g, 0, none⟩)) (w' := wx) (by generalize af.eval = r at *; simp [execOp, ea, go_sem]) ?_
      exact h.step rfl rfl (by rw [FS.out]; decide) (by decide +kernel) ⟨_, rfl, rfl⟩ h.bel (fun _ _ _ q => q)
    · refine Dr.wpOp_of rfl rfl ?_
      obtain ⟨va, ea, sa⟩ := h.val hm rfl (j := 12) rfl rfl (by decide +kernel)
      obtain rfl : va = .pointer (some ⟨g, 0, none⟩) := sa.get rfl
      refine Dr.step_value (v := .pointer (some ⟨g, 3, none⟩)) (w' := wx) (by generalize af.eval = r at *; simp [execOp, ea, go_sem]) ?_
      exact h.step rfl rfl (by rw [FS.out]; decide) (by decide +kernel) ⟨_, rfl, rfl⟩ h.bel (fun _ _ _ q => q)
    · refine Dr.wpOp_of rfl rfl ?_
      obtain ⟨va, ea, sa⟩ := h.val hm rfl (j := 13) rfl rfl (by decide +kernel)
      obtain rfl : va = .pointer (some ⟨g, 3, none⟩) := sa.get rfl
      have hc := hR.cell 3 _ rfl
      refine Dr.step_value (v := .int .u64 0) (w' := wx) (by generalize af.eval = r at *; simp [execOp, ea, hc, go_sem]) ?_
      exact h.step rfl rfl (by rw [FS.out]; decide) (by decide +kernel) ⟨_, rfl, rfl⟩ h.bel (fun _ _ _ q => q)
    · refine Dr.wpOp_of rfl rfl ?_
      have ea : af.eval (.tmp 0) = .pointer (some ⟨g, 0, none⟩) := h.oldv (t := 0) (by decide +kernel) F0.out
      refine Dr.step_value (v := .pointer (some ⟨g, 0, none⟩)) (w' := wx) (by generalize af.eval = r at *; simp [execOp, ea, go_sem]) ?_
      exact h.step rfl rfl (by rw [FS.out]; decide) (by decide +kernel) ⟨_, rfl, rfl⟩ h.bel (fun _ _ _ q => q)
    · refine Dr.wpOp_of rfl rfl ?_
      obtain ⟨va, ea, sa⟩ := h.val hm rfl (j := 15) rfl rfl (by decide +kernel)
      obtain rfl : va = .pointer (some ⟨g, 0, none⟩) := sa.get rfl
      refine Dr.step_value (v := .pointer (some ⟨g, 0, none⟩)) (w' := wx) (by generalize af.eval = r at *; simp [execOp, ea, go_sem]) ?_
      exact h.step rfl rfl (by rw [FS.out]; decide) (by decide +kernel) ⟨_, rfl, rfl⟩ h.bel (fun _ _ _ q => q)
    · refine Dr.wpOp_of rfl rfl ?_
      obtain ⟨va, ea, sa⟩ := h.val hm rfl (j := 16) rfl rfl (by decide +kernel)
      obtain rfl : va = .pointer (some ⟨g, 0, none⟩) := sa.get rfl
      refine Dr.step_value (v := .pointer (some ⟨g, 0, none⟩)) (w' := wx) (by generalize af.eval = r at *; simp [execOp, ea, go_sem]) ?_
      exact h.step rfl rfl (by rw [FS.out]; decide) (by decide +kernel) ⟨_, rfl, rfl⟩ h.bel (fun _ _ _ q => q)
    · refine Dr.wpOp_of rfl rfl ?_
      obtain ⟨va, ea, sa⟩ := h.val hm rfl (j := 17) rfl rfl (by decide +kernel)
      obtain rfl : va = .pointer (some ⟨g, 0, none⟩) := sa.get rfl
      have hc := hR.cell 0 _ rfl
      refine Dr.step_value (v := .pointer (some ⟨q, 0, none⟩)) (w' := wx) (by generalize af.eval = r at *; simp [execOp, ea, hc, go_sem]) ?_
      exact h.step rfl rfl (by rw [FS.out]; decide) (by decide +kernel) ⟨_, rfl, rfl⟩ h.bel (fun _ _ _ q => q)
    · refine Dr.wpOp_of rfl rfl ?_
      obtain ⟨va, ea, sa⟩ := h.val hm rfl (j := 18) rfl rfl (by decide +kernel)
      obtain rfl : va = .pointer (some ⟨q, 0, none⟩) := sa.get rfl
      refine Dr.step_callv (f := 79) (args := #[.pointer (some ⟨q, 0, none⟩)]) (G := fun v w' => v = .int .u64 ob ∧ Below wx.heap.size wx w') (by have hF : af.eval (.func 79) = .func (.func 79) #[] #[] := rfl; generalize af.eval = r at *; simp [execOp, resolve, invoke, hF, ea, go_sem]) ((Snd.acked_any hS.r).mono fun e w' ⟨e1, e2⟩ => ⟨_, e1, rfl, by rw [e2]; exact Below.refl _ _⟩) fun v w' ⟨hv, hb'⟩ => ?_
      subst hv
      exact h.step rfl rfl (by rw [FS.out]; decide) (by decide +kernel) ⟨_, rfl, rfl⟩ (h.bel.trans (hb'.mono h.bel.size)) (fun j v _ q => q.kept KP.out hb')
    · refine Dr.wpOp_of rfl rfl ?_
      have ea : af.eval (.tmp 0) = .pointer (some ⟨g, 0, none⟩) := h.oldv (t := 0) (by decide +kernel) F0.out
      refine Dr.step_value (v := .pointer (some ⟨g, 0, none⟩)) (w' := wx) (by generalize af.eval = r at *; simp [execOp, ea, go_sem]) ?_
      exact h.step rfl rfl (by rw [FS.out]; decide) (by decide +kernel) ⟨_, rfl, rfl⟩ h.bel (fun _ _ _ q => q)
    · refine Dr.wpOp_of rfl rfl ?_
      obtain ⟨va, ea, sa⟩ := h.val hm rfl (j := 20) rfl rfl (by decide +kernel)
      obtain rfl : va = .pointer (some ⟨g, 0, none⟩) := sa.get rfl
      refine Dr.step_value (v := .pointer (some ⟨g, 0, none⟩)) (w' := wx) (by generalize af.eval = r at *; simp [execOp, ea, go_sem]) ?_
      exact h.step rfl rfl (by rw [FS.out]; decide) (by decide +kernel) ⟨_, rfl, rfl⟩ h.bel (fun _ _ _ q => q)
    · refine Dr.wpOp_of rfl rfl ?_
      obtain ⟨va, ea, sa⟩ := h.val hm rfl (j := 21) rfl rfl (by decide +kernel)
      obtain rfl : va = .pointer (some ⟨g, 0, none⟩) := sa.get rfl
      refine Dr.step_value (v := .pointer (some ⟨g, 0, none⟩)) (w' := wx) (by generalize af.eval = r at *; simp [execOp, ea, go_sem]) ?_
      exact h.step rfl rfl (by rw [FS.out]; decide) (by decide +kernel) ⟨_, rfl, rfl⟩ h.bel (fun _ _ _ q => q)
    · refine Dr.wpOp_of rfl rfl ?_
      obtain ⟨va, ea, sa⟩ := h.val hm rfl (j := 22) rfl rfl (by decide +kernel)
      obtain rfl : va = .pointer (some ⟨g, 0, none⟩) := sa.get rfl
      have hc := hR.cell 0 _ rfl
      refine Dr.step_value (v := .pointer (some ⟨q, 0, none⟩)) (w' := wx) (by generalize af.eval = r at *; simp [execOp, ea, hc, go_sem]) ?_
      exact h.step rfl rfl (by rw [FS.out]; decide) (by decide +kernel) ⟨_, rfl, rfl⟩ h.bel (fun _ _ _ q => q)
    · refine Dr.wpOp_of rfl rfl ?_
      obtain ⟨va, ea, sa⟩ := h.val hm rfl (j := 23) rfl rfl (by decide +kernel)
      obtain rfl : va = .pointer (some ⟨q, 0, none⟩) := sa.get rfl
      refine Dr.step_callv (f := 80) (args := #[.pointer (some ⟨q, 0, none⟩)]) (G := fun v w' => v = .int .u64 ob ∧ Below wx.heap.size wx w') (by have hF : af.eval (.func 80) = .func (.func 80) #[] #[] := rfl; generalize af.eval = r at *; simp [execOp, resolve, invoke, hF, ea, go_sem]) ((Snd.high_any hS.r).mono fun e w' ⟨e1, e2⟩ => ⟨_, e1, rfl, by rw [e2]; exact Below.refl _ _⟩) fun v w' ⟨hv, hb'⟩ => ?_
      subst hv
      exact h.step rfl rfl (by rw [FS.out]; decide) (by decide +kernel) ⟨_, rfl, rfl⟩ (h.bel.trans (hb'.mono h.bel.size)) (fun j v _ q => q.kept KP.out hb')
    · refine Dr.wpOp_of rfl rfl ?_
      have ea : af.eval (.tmp 0) = .pointer (some ⟨g, 0, none⟩) := h.oldv (t := 0) (by decide +kernel) F0.out
      refine Dr.step_value (v := .pointer (some ⟨g, 0, none⟩)) (w' := wx) (by generalize af.eval = r at *; simp [execOp, ea, go_sem]) ?_
      exact h.step rfl rfl (by rw [FS.out]; decide) (by decide +kernel) ⟨_, rfl, rfl⟩ h.bel (fun _ _ _ q => q)
    · refine Dr.wpOp_of rfl rfl ?_
      obtain ⟨va, ea, sa⟩ := h.val hm rfl (j := 25) rfl rfl (by decide +kernel)
      obtain rfl : va = .pointer (some ⟨g, 0, none⟩) := sa.get rfl
      refine Dr.step_value (v := .pointer (some ⟨g, 0, none⟩)) (w' := wx) (by generalize af.eval = r at *; simp [execOp, ea, go_sem]) ?_
      exact h.step rfl rfl (by rw [FS.out]; decide) (by decide +kernel) ⟨_, rfl, rfl⟩ h.bel (fun _ _ _ q => q)
    · refine Dr.wpOp_of rfl rfl ?_
      obtain ⟨va, ea, sa⟩ := h.val hm rfl (j := 26) rfl rfl (by decide +kernel)
      obtain rfl : va = .pointer (some ⟨g, 0, none⟩) := sa.get rfl
      refine Dr.step_value (v := .pointer (some ⟨g, 0, none⟩)) (w' := wx) (by generalize af.eval = r at *; simp [execOp, ea, go_sem]) ?_
      exact h.step rfl rfl (by rw [FS.out]; decide) (by decide +kernel) ⟨_, rfl, rfl⟩ h.bel (fun _ _ _ q => q)
    · refine Dr.wpOp_of rfl rfl ?_
      obtain ⟨va, ea, sa⟩ := h.val hm rfl (j := 27) rfl rfl (by decide +kernel)
      obtain rfl : va = .pointer (some ⟨g, 0, none⟩) := sa.get rfl
      have hc := hR.cell 0 _ rfl
      refine Dr.step_value (v := .pointer (some ⟨q, 0, none⟩)) (w' := wx) (by generalize af.eval = r at *; simp [execOp, ea, hc, go_sem]) ?_
      exact h.step rfl rfl (by rw [FS.out]; decide) (by decide +kernel) ⟨_, rfl, rfl⟩ h.bel (fun _ _ _ q => q)
    · refine Dr.wpOp_of rfl rfl ?_
      obtain ⟨va, ea, sa⟩ := h.val hm rfl (j := 28) rfl rfl (by decide +kernel)
      obtain rfl : va = .pointer (some ⟨q, 0, none⟩) := sa.get rfl
      refine Dr.step_callv (f := 81) (args := #[.pointer (some ⟨q, 0, none⟩)]) (G := fun v w' => v = .int .u64 ob ∧ Below wx.heap.size wx w') (by have hF : af.eval (.func 81) = .func (.func 81) #[] #[] := rfl; generalize af.eval = r at *; simp [execOp, resolve, invoke, hF, ea, go_sem]) ((Snd.end_any hS.r).mono fun e w' ⟨e1, e2⟩ => ⟨_, e1, rfl, by rw [e2]; exact Below.refl _ _⟩) fun v w' ⟨hv, hb'⟩ => ?_
      subst hv
      exact h.step rfl rfl (by rw [FS.out]; decide) (by decide +kernel) ⟨_, rfl, rfl⟩ (h.bel.trans (hb'.mono h.bel.size)) (fun j v _ q => q.kept KP.out hb')
    · refine Dr.wpOp_of rfl rfl ?_
      have ea : af.eval (.tmp 0) = .pointer (some ⟨g, 0, none⟩) := h.oldv (t := 0) (by decide +kernel) F0.out
      refine Dr.step_value (v := .pointer (some ⟨g, 0, none⟩)) (w' := wx) (by generalize af.eval = r at *; simp [execOp, ea, go_sem]) ?_
      exact h.step rfl rfl (by rw [FS.out]; decide) (by decide +kernel) ⟨_, rfl, rfl⟩ h.bel (fun _ _ _ q => q)
    · refine Dr.wpOp_of rfl rfl ?_
      obtain ⟨va, ea, sa⟩ := h.val hm rfl (j := 30) rfl rfl (by decide +kernel)
      obtain rfl : va = .pointer (some ⟨g, 0, none⟩) := sa.get rfl
      refine Dr.step_value (v := .pointer (some ⟨g, 0, none⟩)) (w' := wx) (by generalize af.eval = r at *; simp [execOp, ea, go_sem]) ?_
      exact h.step rfl rfl (by rw [FS.out]; decide) (by decide +kernel) ⟨_, rfl, rfl⟩ h.bel (fun _ _ _ q => q)
    · refine Dr.wpOp_of rfl rfl ?_
      obtain ⟨va, ea, sa⟩ := h.val hm rfl (j := 31) rfl rfl (by decide +kernel)
      obtain rfl : va = .pointer (some ⟨g, 0, none⟩) := sa.get rfl
      refine Dr.step_value (v := .pointer (some ⟨g, 0, none⟩)) (w' := wx) (by generalize af.eval = r at *; simp [execOp, ea, go_sem]) ?_
      exact h.step rfl rfl (by rw [FS.out]; decide) (by decide +kernel) ⟨_, rfl, rfl⟩ h.bel (fun _ _ _ q => q)
    · refine Dr.wpOp_of rfl rfl ?_
      obtain ⟨va, ea, sa⟩ := h.val hm rfl (j := 32) rfl rfl (by decide +kernel)
      obtain rfl : va = .pointer (some ⟨g, 0, none⟩) := sa.get rfl
      have hc := hR.cell 0 _ rfl
      refine Dr.step_value (v := .pointer (some ⟨q, 0, none⟩)) (w' := wx) (by generalize af.eval = r at *; simp [execOp, ea, hc, go_sem]) ?_
      exact h.step rfl rfl (by rw [FS.out]; decide) (by decide +kernel) ⟨_, rfl, rfl⟩ h.bel (fun _ _ _ q => q)
    · refine Dr.wpOp_of rfl rfl ?_
      obtain ⟨va, ea, sa⟩ := h.val hm rfl (j := 33) rfl rfl (by decide +kernel)
      obtain rfl : va = .pointer (some ⟨q, 0, none⟩) := sa.get rfl
      refine Dr.step_callv (f := 82) (args := #[.pointer (some ⟨q, 0, none⟩)]) (G := fun v w' => v = .int .u64 edg ∧ Below wx.heap.size wx w') (by have hF : af.eval (.func 82) = .func (.func 82) #[] #[] := rfl; generalize af.eval = r at *; simp [execOp, resolve, invoke, hF, ea, go_sem]) ((Snd.edge_any hS.r).mono fun e w' ⟨e1, e2⟩ => ⟨_, e1, rfl, by rw [e2]; exact Below.refl _ _⟩) fun v w' ⟨hv, hb'⟩ => ?_
      subst hv
      exact h.step rfl rfl (by rw [FS.out]; decide) (by decide +kernel) ⟨_, rfl, rfl⟩ (h.bel.trans (hb'.mono h.bel.size)) (fun j v _ q => q.kept KP.out hb')
    · refine Dr.wpOp_of rfl rfl ?_
      have ea : af.eval (.tmp 0) = .pointer (some ⟨g, 0, none⟩) := h.oldv (t := 0) (by decide +kernel) F0.out
      refine Dr.step_value (v := .pointer (some ⟨g, 0, none⟩)) (w' := wx) (by generalize af.eval = r at *; simp [execOp, ea, go_sem]) ?_
      exact h.step rfl rfl (by rw [FS.out]; decide) (by decide +kernel) ⟨_, rfl, rfl⟩ h.bel (fun _ _ _ q => q)
    · refine Dr.wpOp_of rfl rfl ?_
      obtain ⟨va, ea, sa⟩ := h.val hm rfl (j := 35) rfl rfl (by decide +kernel)
      obtain rfl : va = .pointer (some ⟨g, 0, none⟩) := sa.get rfl
      refine Dr.step_value (v := .pointer (some ⟨g, 0, none⟩)) (w' := wx) (by generalize af.eval = r at *; simp [execOp, ea, go_sem]) ?_
      exact h.step rfl rfl (by rw [FS.out]; decide) (by decide +kernel) ⟨_, rfl, rfl⟩ h.bel (fun _ _ _ q => q)
    · refine Dr.wpOp_of rfl rfl ?_
      obtain ⟨va, ea, sa⟩ := h.val hm rfl (j := 36) rfl rfl (by decide +kernel)
      obtain rfl : va = .pointer (some ⟨g, 0, none⟩) := sa.get rfl
      refine Dr.step_value (v := .pointer (some ⟨g, 0, none⟩)) (w' := wx) (by generalize af.eval = r at *; simp [execOp, ea, go_sem]) ?_
      exact h.step rfl rfl (by rw [FS.out]; decide) (by decide +kernel) ⟨_, rfl, rfl⟩ h.bel (fun _ _ _ q => q)
    · refine Dr.wpOp_of rfl rfl ?_
      obtain ⟨va, ea, sa⟩ := h.val hm rfl (j := 37) rfl rfl (by decide +kernel)
      obtain rfl : va = .pointer (some ⟨g, 0, none⟩) := sa.get rfl
      have hc := hR.cell 0 _ rfl
      refine Dr.step_value (v := .pointer (some ⟨q, 0, none⟩)) (w' := wx) (by generalize af.eval = r at *; simp [execOp, ea, hc, go_sem]) ?_
      exact h.step rfl rfl (by rw [FS.out]; decide) (by decide +kernel) ⟨_, rfl, rfl⟩ h.bel (fun _ _ _ q => q)
    · refine Dr.wpOp_of rfl rfl ?_
      obtain ⟨va, ea, sa⟩ := h.val hm rfl (j := 38) rfl rfl (by decide +kernel)
      obtain rfl : va = .pointer (some ⟨q, 0, none⟩) := sa.get rfl
      refine Dr.step_callv (f := 83) (args := #[.pointer (some ⟨q, 0, none⟩)]) (G := fun v w' => v = .int .i64 snb ∧ Below wx.heap.size wx w') (by have hF : af.eval (.func 83) = .func (.func 83) #[] #[] := rfl; generalize af.eval = r at *; simp [execOp, resolve, invoke, hF, ea, go_sem]) ((Snd.free_any hS.r).mono fun e w' ⟨e1, k, e2⟩ => ⟨_, e1, by rw [HFR.out], by rw [e2]; exact below_drewN (Below.refl _ _) k⟩) fun v w' ⟨hv, hb'⟩ => ?_
      subst hv
      exact h.step rfl rfl (by rw [FS.out]; decide) (by decide +kernel) ⟨_, rfl, rfl⟩ (h.bel.trans (hb'.mono h.bel.size)) (fun j v _ q => q.kept KP.out hb')
    · refine Dr.wpOp_of rfl rfl ?_
      have ea : af.eval (.tmp 0) = .pointer (some ⟨g, 0, none⟩) := h.oldv (t := 0) (by decide +kernel) F0.out
      refine Dr.step_value (v := .pointer (some ⟨g, 0, none⟩)) (w' := wx) (by generalize af.eval = r at *; simp [execOp, ea, go_sem]) ?_
      exact h.step rfl rfl (by rw [FS.out]; decide) (by decide +kernel) ⟨_, rfl, rfl⟩ h.bel (fun _ _ _ q => q)
    · refine Dr.wpOp_of rfl rfl ?_
      obtain ⟨va, ea, sa⟩ := h.val hm rfl (j := 40) rfl rfl (by decide +kernel)
      obtain rfl : va = .pointer (some ⟨g, 0, none⟩) := sa.get rfl
      refine Dr.step_value (v := .pointer (some ⟨g, 0, none⟩)) (w' := wx) (by generalize af.eval = r at *; simp [execOp, ea, go_sem]) ?_
      exact h.step rfl rfl (by rw [FS.out]; decide) (by decide +kernel) ⟨_, rfl, rfl⟩ h.bel (fun _ _ _ q => q)
    · refine Dr.wpOp_of rfl rfl ?_
      obtain ⟨va, ea, sa⟩ := h.val hm rfl (j := 41) rfl rfl (by decide +kernel)
      obtain rfl : va = .pointer (some ⟨g, 0, none⟩) := sa.get rfl
      refine Dr.step_value (v := .pointer (some ⟨g, 1, none⟩)) (w' := wx) (by generalize af.eval = r at *; simp [execOp, ea, go_sem]) ?_
      exact h.step rfl rfl (by rw [FS.out]; decide) (by decide +kernel) ⟨_, rfl, rfl⟩ h.bel (fun _ _ _ q => q)
    · refine Dr.wpOp_of rfl rfl ?_
      obtain ⟨va, ea, sa⟩ := h.val hm rfl (j := 42) rfl rfl (by decide +kernel)
      obtain rfl : va = .pointer (some ⟨g, 1, none⟩) := sa.get rfl
      have hc := hR.cell 1 _ rfl
      refine Dr.step_value (v := .pointer (some ⟨p, 0, none⟩)) (w' := wx) (by generalize af.eval = r at *; simp [execOp, ea, hc, go_sem]) ?_
      exact h.step rfl rfl (by rw [FS.out]; decide) (by decide +kernel) ⟨_, rfl, rfl⟩ h.bel (fun _ _ _ q => q)
    · refine Dr.wpOp_of rfl rfl ?_
      obtain ⟨va, ea, sa⟩ := h.val hm rfl (j := 43) rfl rfl (by decide +kernel)
      obtain rfl : va = .pointer (some ⟨p, 0, none⟩) := sa.get rfl
      refine Dr.step_callv (f := 84) (args := #[.pointer (some ⟨p, 0, none⟩)]) (G := fun v w' => v = .int .u64 pb ∧ Below wx.heap.size wx w') (by have hF : af.eval (.func 84) = .func (.func 84) #[] #[] := rfl; generalize af.eval = r at *; simp [execOp, resolve, invoke, hF, ea, go_sem]) ((next_any hB).mono fun e w' ⟨e1, e2⟩ => ⟨_, e1, rfl, e2⟩) fun v w' ⟨hv, hb'⟩ => ?_
      subst hv
      exact h.step rfl rfl (by rw [FS.out]; decide) (by decide +kernel) ⟨_, rfl, rfl⟩ (h.bel.trans (hb'.mono h.bel.size)) (fun j v _ q => q.kept KP.out hb')
    · refine Dr.wpOp_of rfl rfl ?_
      have ea : af.eval (.tmp 0) = .pointer (some ⟨g, 0, none⟩) := h.oldv (t := 0) (by decide +kernel) F0.out
      refine Dr.step_value (v := .pointer (some ⟨g, 0, none⟩)) (w' := wx) (by generalize af.eval = r at *; simp [execOp, ea, go_sem]) ?_
      exact h.step rfl rfl (by rw [FS.out]; decide) (by decide +kernel) ⟨_, rfl, rfl⟩ h.bel (fun _ _ _ q => q)
    · refine Dr.wpOp_of rfl rfl ?_
      obtain ⟨va, ea, sa⟩ := h.val hm rfl (j := 45) rfl rfl (by decide +kernel)
      obtain rfl : va = .pointer (some ⟨g, 0, none⟩) := sa.get rfl
      refine Dr.step_value (v := .pointer (some ⟨g, 0, none⟩)) (w' := wx) (by generalize af.eval = r at *; simp [execOp, ea, go_sem]) ?_
      exact h.step rfl rfl (by rw [FS.out]; decide) (by decide +kernel) ⟨_, rfl, rfl⟩ h.bel (fun _ _ _ q => q)
    · refine Dr.wpOp_of rfl rfl ?_
      obtain ⟨va, ea, sa⟩ := h.val hm rfl (j := 46) rfl rfl (by decide +kernel)
      obtain rfl : va = .pointer (some ⟨g, 0, none⟩) := sa.get rfl
      refine Dr.step_value (v := .pointer (some ⟨g, 1, none⟩)) (w' := wx) (by generalize af.eval = r at *; simp [execOp, ea, go_sem]) ?_
      exact h.step rfl rfl (by rw [FS.out]; decide) (by decide +kernel) ⟨_, rfl, rfl⟩ h.bel (fun _ _ _ q => q)
    · refine Dr.wpOp_of rfl rfl ?_
      obtain ⟨va, ea, sa⟩ := h.val hm rfl (j := 47) rfl rfl (by decide +kernel)
      obtain rfl : va = .pointer (some ⟨g, 1, none⟩) := sa.get rfl
      have hc := hR.cell 1 _ rfl
      refine Dr.step_value (v := .pointer (some ⟨p, 0, none⟩)) (w' := wx) (by generalize af.eval = r at *; simp [execOp, ea, hc, go_sem]) ?_
      exact h.step rfl rfl (by rw [FS.out]; decide) (by decide +kernel) ⟨_, rfl, rfl⟩ h.bel (fun _ _ _ q => q)
    · refine Dr.wpOp_of rfl rfl ?_
      obtain ⟨va, ea, sa⟩ := h.val hm rfl (j := 48) rfl rfl (by decide +kernel)
      obtain rfl : va = .pointer (some ⟨p, 0, none⟩) := sa.get rfl
      refine Dr.step_callv (f := 85) (args := #[.pointer (some ⟨p, 0, none⟩)]) (G := fun v w' => v = .int .u64 (pb + rm) ∧ Below wx.heap.size wx w') (by have hF : af.eval (.func 85) = .func (.func 85) #[] #[] := rfl; generalize af.eval = r at *; simp [execOp, resolve, invoke, hF, ea, go_sem]) ((edge_any hB).mono fun e w' ⟨e1, k, e2⟩ => ⟨_, e1, rfl, by rw [e2]; exact below_drewN (Below.refl _ _) k⟩) fun v w' ⟨hv, hb'⟩ => ?_
      subst hv
      exact h.step rfl rfl (by rw [FS.out]; decide) (by decide +kernel) ⟨_, rfl, rfl⟩ (h.bel.trans (hb'.mono h.bel.size)) (fun j v _ q => q.kept KP.out hb')
    · refine Dr.wpOp_of rfl rfl ?_
      have ea : af.eval (.tmp 3) = .pointer (some ⟨sx, 0, none⟩) := h.oldv (t := 3) (by decide +kernel) F3.out
      refine Dr.step_value (v := .pointer (some ⟨sx, 4, none⟩)) (w' := wx) (by generalize af.eval = r at *; simp [execOp, ea, go_sem]) ?_
      exact h.step rfl rfl (by rw [FS.out]; decide) (by decide +kernel) ⟨_, rfl, rfl⟩ h.bel (fun _ _ _ q => q)
    · refine Dr.wpOp_of rfl rfl ?_
      obtain ⟨va, ea, sa⟩ := h.val hm rfl (j := 50) rfl rfl (by decide +kernel)
      obtain rfl : va = .pointer (some ⟨sx, 4, none⟩) := sa.get rfl
      have hc := hX.cell 4 _ rfl
      refine Dr.step_value (v := .int .u64 pb) (w' := wx) (by generalize af.eval = r at *; simp [execOp, ea, hc, go_sem]) ?_
      exact h.step rfl rfl (by rw [FS.out]; decide) (by decide +kernel) ⟨_, rfl, rfl⟩ h.bel (fun _ _ _ q => q)
    · refine Dr.wpOp_of rfl rfl ?_
      have ea : af.eval (.tmp 3) = .pointer (some ⟨sx, 0, none⟩) := h.oldv (t := 3) (by decide +kernel) F3.out
      refine Dr.step_value (v := .pointer (some ⟨sx, 3, none⟩)) (w' := wx) (by generalize af.eval = r at *; simp [execOp, ea, go_sem]) ?_
      exact h.step rfl rfl (by rw [FS.out]; decide) (by decide +kernel) ⟨_, rfl, rfl⟩ h.bel (fun _ _ _ q => q)
    · refine Dr.wpOp_of rfl rfl ?_
      obtain ⟨va, ea, sa⟩ := h.val hm rfl (j := 52) rfl rfl (by decide +kernel)
      obtain rfl : va = .pointer (some ⟨sx, 3, none⟩) := sa.get rfl
      have hc := hX.cell 3 _ rfl
      refine Dr.step_value (v := .int .u64 pb) (w' := wx) (by generalize af.eval = r at *; simp [execOp, ea, hc, go_sem]) ?_
      exact h.step rfl rfl (by rw [FS.out]; decide) (by decide +kernel) ⟨_, rfl, rfl⟩ h.bel (fun _ _ _ q => q)
    · refine Dr.wpOp_of rfl rfl ?_
      obtain ⟨va, ea, sa⟩ := h.val hm rfl (j := 51) rfl rfl (by decide +kernel)
      obtain rfl : va = .int .u64 pb := sa.get rfl
      obtain ⟨vb, eb, sb⟩ := h.val hm rfl (j := 53) rfl rfl (by decide +kernel)
      obtain rfl : vb = .int .u64 pb := sb.get rfl
      refine Dr.step_value (v := .int .u64 0) (w' := wx) (by have hw : IntKind.u64.wrap 0 = 0 := (by decide); generalize af.eval = r at *; simp [execOp, ea, eb, hw, go_sem]) ?_
      exact h.step rfl rfl (by rw [FS.out]; decide) (by decide +kernel) ⟨_, rfl, rfl⟩ h.bel (fun _ _ _ q => q)
    · refine Dr.wpOp_of rfl rfl ?_
      obtain ⟨va, ea, sa⟩ := h.val hm rfl (j := 54) rfl rfl (by decide +kernel)
      obtain rfl : va = .int .u64 0 := sa.get rfl
      refine Dr.step_value (v := .int .i64 0) (w' := wx) (by have hw : IntKind.i64.wrap 0 = 0 := (by decide); generalize af.eval = r at *; simp [execOp, ea, hw, go_sem]) ?_
      exact h.step rfl rfl (by rw [FS.out]; decide) (by decide +kernel) ⟨_, rfl, rfl⟩ h.bel (fun _ _ _ q => q)
    · refine Dr.wpOp_of rfl rfl ?_
      have ea : af.eval (.tmp 4) = .int .i64 0 := h.oldv (t := 4) (by decide +kernel) F4.out
      refine Dr.step_value (v := .int .i64 0) (w' := wx) (by generalize af.eval = r at *; simp [execOp, ea, go_sem]) ?_
      exact h.step rfl rfl (by rw [FS.out]; decide) (by decide +kernel) ⟨_, rfl, rfl⟩ h.bel (fun _ _ _ q => q)
    · refine Dr.wpOp_of rfl rfl ?_
      have ea : af.eval (.tmp 5) = .int .i64 0 := h.oldv (t := 5) (by decide +kernel) F5.out
      refine Dr.step_value (v := .int .i64 0) (w' := wx) (by generalize af.eval = r at *; simp [execOp, ea, go_sem]) ?_
      exact h.step rfl rfl (by rw [FS.out]; decide) (by decide +kernel) ⟨_, rfl, rfl⟩ h.bel (fun _ _ _ q => q)
    · refine Dr.wpOp_of rfl rfl ?_
      obtain ⟨va, ea, sa⟩ := h.val hm rfl (j := 3) rfl rfl (by decide +kernel)
      obtain rfl : va = .int .i64 0 := sa.get rfl
      obtain ⟨vb, eb, sb⟩ := h.val hm rfl (j := 8) rfl rfl (by decide +kernel)
      obtain rfl : vb = .bool false := sb.get rfl
      obtain ⟨vc, ec, sc⟩ := h.val hm rfl (j := 10) rfl rfl (by decide +kernel)
      obtain rfl : vc = .bool false := sc.get rfl
      obtain ⟨vd, ed, sd⟩ := h.val hm rfl (j := 14) rfl rfl (by decide +kernel)
      obtain rfl : vd = .int .u64 0 := sd.get rfl
      obtain ⟨ve, ee, se⟩ := h.val hm rfl (j := 19) rfl rfl (by decide +kernel)
      obtain rfl : ve = .int .u64 ob := se.get rfl
      obtain ⟨vf, ef, sf⟩ := h.val hm rfl (j := 24) rfl rfl (by decide +kernel)
      obtain rfl : vf = .int .u64 ob := sf.get rfl
      obtain ⟨vg, eg, sg⟩ := h.val hm rfl (j := 29) rfl rfl (by decide +kernel)
      obtain rfl : vg = .int .u64 ob := sg.get rfl
      obtain ⟨vh, eh, sh⟩ := h.val hm rfl (j := 34) rfl rfl (by decide +kernel)
      obtain rfl : vh = .int .u64 edg := sh.get rfl
      obtain ⟨vi, ei, si⟩ := h.val hm rfl (j := 39) rfl rfl (by decide +kernel)
      obtain rfl : vi = .int .i64 snb := si.get rfl
      obtain ⟨vj, ej, sj⟩ := h.val hm rfl (j := 44) rfl rfl (by decide +kernel)
      obtain rfl : vj = .int .u64 pb := sj.get rfl
      obtain ⟨vk, ek, sk⟩ := h.val hm rfl (j := 49) rfl rfl (by decide +kernel)
      obtain rfl : vk = .int .u64 (pb + rm) := sk.get rfl
      obtain ⟨vl, el, sl⟩ := h.val hm rfl (j := 55) rfl rfl (by decide +kernel)
      obtain rfl : vl = .int .i64 0 := sl.get rfl
      obtain ⟨vm, em, sm⟩ := h.val hm rfl (j := 56) rfl rfl (by decide +kernel)
      obtain rfl : vm = .int .i64 0 := sm.get rfl
      obtain ⟨vn, en, sn⟩ := h.val hm rfl (j := 57) rfl rfl (by decide +kernel)
      obtain rfl : vn = .int .i64 0 := sn.get rfl
      refine Dr.step_value (v := .agg (stL ob edg snb pb (pb + rm) (.slice none 0 0)).toArray) (w' := wx) (by generalize af.eval = r at *; simp [execOp, ea, eb, ec, ed, ee, ef, eg, eh, ei, ej, ek, el, em, en, go_sem, stL]) ?_
      exact h.step rfl rfl (by rw [FS.out]; decide) (by decide +kernel) ⟨_, rfl, rfl⟩ h.bel (fun _ _ _ q => q)
end Go.Proofs.YtnflgkobedbemaaGreatDoor
