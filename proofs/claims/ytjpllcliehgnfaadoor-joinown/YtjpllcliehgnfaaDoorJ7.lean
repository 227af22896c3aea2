import Derived.Test.YtjpllcliehgnfaaDoorJ8
namespace Go.Proofs.YtjpllcliehgnfaaDoor
open Go.RowKit
set_option maxRecDepth 100000

set_option maxHeartbeats 4000000 in
theorem ownProof_any {w : World} {p : Nat} {h : Hf} (hH : HfAt w p h) (hK : KTab w) (h2 : 1 ≤ w.heap.size) (x : BitVec 32) :
    Calls Tryd.prog 41 #[.pointer (some ⟨p, 0, none⟩), .int .u32 (u x)] w fun e w' => e = .returned (.agg (bcells (proofL h.own h.peer (nonceOf h.own h.path) x)).toArray) ∧ Below w.heap.size w w' := by
  have H := hid hH
  have HK := hid hK
  have H2 := hid h2
  clear hH hK h2
  go_enter Tryd.func41, Tryd.ntmps41
  go_upto_region 1 with fail
  refine wp_world fun W HW => ?_
  have HX : Hid (Row W w.heap.size (bcells z32) 73) := by show Row _ _ _ _; rw [HW.out]; exact Row.new' _ _ _ _ _ rfl rfl
  have HB : Hid (Below w.heap.size w W) := by show Below _ _ _; rw [HW.out]; exact (Below.refl _ _).alloc (Nat.le_refl _) _
  have HR : Hid (HfAt W p h) := H.out.kept HB.out
  have HKW : Hid (KTab W) := HK.out.kept HB.out
  have H2W : Hid (1 ≤ W.heap.size) := Nat.le_trans H2.out HB.out.size
  clear HW
  refine wp_act fun A HF => ?_
  have F0 : Hid (A.tmps[0]? = some (.pointer (some ⟨p, 0, none⟩))) := by show _ = _; rw [HF.out]; rfl
  have F1 : Hid (A.tmps[1]? = some (.int .u32 (u x))) := by show _ = _; rw [HF.out]; rfl
  have F4 : Hid (A.tmps[4]? = some (.pointer (some ⟨w.heap.size, 0, none⟩))) := by show _ = _; rw [HF.out]; rfl
  have FS : Hid (A.tmps.size = 17) := by show _ = _; rw [HF.out]; rfl
  have FD : Hid (A.defers = []) := by show _ = _; rw [HF.out]
  clear HF
  have KP : Hid (∀ f ∈ ([Is (.pointer (some ⟨p, 0, none⟩)), Is (.pointer (some ⟨p, 0, none⟩)), Is (.pointer (some ⟨p, 2, none⟩)), Is (.int .u64 (h.own : Int)), Is (.pointer (some ⟨p, 0, none⟩)), Is (.pointer (some ⟨p, 0, none⟩)), Is (.pointer (some ⟨p, 3, none⟩)), Is (.int .u64 (h.peer : Int)), Is (.pointer (some ⟨p, 0, none⟩)), Is (.int .u32 (u (nonceOf h.own h.path))), Is (.int .u32 (u x)), Is (.agg (bcells (proofL h.own h.peer (nonceOf h.own h.path) x)).toArray)] : List (Value → World → Prop)), Keeps f) := by
    intro f hf
    simp only [List.mem_cons, List.not_mem_nil, or_false] at hf
    rcases hf with rfl | rfl | rfl | rfl | rfl | rfl | rfl | rfl | rfl | rfl | rfl | rfl
    · exact keeps_is _
    · exact keeps_is _
    · exact keeps_is _
    · exact keeps_is _
    · exact keeps_is _
    · exact keeps_is _
    · exact keeps_is _
    · exact keeps_is _
    · exact keeps_is _
    · exact keeps_is _
    · exact keeps_is _
    · exact keeps_is _
  refine wp_region_any (by kernel_rfl) ?_
  refine wpAny_last 12 rfl (by decide +kernel) (by decide +kernel) (fun _ wx => Below W.heap.size W wx) (Sps [Is (.pointer (some ⟨p, 0, none⟩)), Is (.pointer (some ⟨p, 0, none⟩)), Is (.pointer (some ⟨p, 2, none⟩)), Is (.int .u64 (h.own : Int)), Is (.pointer (some ⟨p, 0, none⟩)), Is (.pointer (some ⟨p, 0, none⟩)), Is (.pointer (some ⟨p, 3, none⟩)), Is (.int .u64 (h.peer : Int)), Is (.pointer (some ⟨p, 0, none⟩)), Is (.int .u32 (u (nonceOf h.own h.path))), Is (.int .u32 (u x)), Is (.agg (bcells (proofL h.own h.peer (nonceOf h.own h.path) x)).toArray)]) (below_drawn (Below.refl _ _) _) ?step ?last
  case last =>
    intro l af wx hS hall
    obtain ⟨vz, hvz, sz⟩ := hS.new 11 _ 16 (hall 11 (by decide)) rfl rfl
    obtain rfl : vz = .agg (bcells (proofL h.own h.peer (nonceOf h.own h.path) x)).toArray := sz.get rfl
    have hX := HX.out.kept hS.bel HX.out.lt
    have e2 : af.eval (.tmp 4) = .pointer (some ⟨w.heap.size, 0, none⟩) := hS.oldv (t := 4) (by decide +kernel) F4.out
    have hlen : (bcells (proofL h.own h.peer (nonceOf h.own h.path) x)).length = 32 := by rw [bcells_len]; exact proofL_len _ _ _ _
    refine wpOp_of rfl rfl ?_
    refine step_storeA (c' := bcells (proofL h.own h.peer (nonceOf h.own h.path) x)) hX rfl e2 (eval_tmp hvz) (by rw [hlen]; rfl) (bcells_one _) (by rw [hlen]; exact i44) ?_
    have hd : af.defers = [] := hS.defers.trans FD.out
    have hbx : Below w.heap.size w wx := HB.out.trans (hS.bel.mono HB.out.size)
    generalize hw5 : wx.setRow w.heap.size _ = w5
    show Exit.then _ _ Exit.normal af w5
    go_wp2_with fail
    rw [← hw5]
    exact bodyPost_ret ((hX.row (bcells (proofL h.own h.peer (nonceOf h.own h.path) x))).result Tryd.results41 _ e2 _ Tryd.underlying73 rfl (by rw [hlen]; exact i44)) hd ⟨rfl, below_setRow hbx (Nat.le_refl _) _⟩
  case step =>
    intro l af wx i hS hiN hf hm
    have hR := HR.out.kept hS.bel
    have hKx := HKW.out.kept hS.bel
    have h2x := Nat.le_trans H2W.out hS.bel.size
    unfold HfAt at hR
    rcases (show i = 0 ∨ i = 1 ∨ i = 2 ∨ i = 3 ∨ i = 4 ∨ i = 5 ∨ i = 6 ∨ i = 7 ∨ i = 8 ∨ i = 9 ∨ i = 10 ∨ i = 11 by omega) with rfl | rfl | rfl | rfl | rfl | rfl | rfl | rfl | rfl | rfl | rfl | rfl
    · refine wpOp_of rfl rfl ?_
      refine step_move rfl (hS.oldv (t := 0) (by decide +kernel) F0.out) ?_
      exact hS.step rfl rfl (by rw [FS.out]; decide) (by decide +kernel) ⟨_, rfl, rfl⟩ hS.bel (fun _ _ _ q => q)
    · refine wpOp_of rfl rfl ?_
      obtain ⟨va, ea, sa⟩ := hS.val hm rfl (j := 0) rfl rfl (by decide +kernel)
      obtain rfl : va = .pointer (some ⟨p, 0, none⟩) := sa.get rfl
      refine step_nilc rfl ea ?_
      exact hS.step rfl rfl (by rw [FS.out]; decide) (by decide +kernel) ⟨_, rfl, rfl⟩ hS.bel (fun _ _ _ q => q)
    · refine wpOp_of rfl rfl ?_
      obtain ⟨va, ea, sa⟩ := hS.val hm rfl (j := 1) rfl rfl (by decide +kernel)
      obtain rfl : va = .pointer (some ⟨p, 0, none⟩) := sa.get rfl
      refine step_f572 rfl ea ?_
      exact hS.step rfl rfl (by rw [FS.out]; decide) (by decide +kernel) ⟨_, rfl, rfl⟩ hS.bel (fun _ _ _ q => q)
    · refine wpOp_of rfl rfl ?_
      obtain ⟨va, ea, sa⟩ := hS.val hm rfl (j := 2) rfl rfl (by decide +kernel)
      obtain rfl : va = .pointer (some ⟨p, 2, none⟩) := sa.get rfl
      refine step_ld22 rfl ea (hR.cell 2 _ rfl) ?_
      exact hS.step rfl rfl (by rw [FS.out]; decide) (by decide +kernel) ⟨_, rfl, rfl⟩ hS.bel (fun _ _ _ q => q)
    · refine wpOp_of rfl rfl ?_
      refine step_move rfl (hS.oldv (t := 0) (by decide +kernel) F0.out) ?_
      exact hS.step rfl rfl (by rw [FS.out]; decide) (by decide +kernel) ⟨_, rfl, rfl⟩ hS.bel (fun _ _ _ q => q)
    · refine wpOp_of rfl rfl ?_
      obtain ⟨va, ea, sa⟩ := hS.val hm rfl (j := 4) rfl rfl (by decide +kernel)
      obtain rfl : va = .pointer (some ⟨p, 0, none⟩) := sa.get rfl
      refine step_nilc rfl ea ?_
      exact hS.step rfl rfl (by rw [FS.out]; decide) (by decide +kernel) ⟨_, rfl, rfl⟩ hS.bel (fun _ _ _ q => q)
    · refine wpOp_of rfl rfl ?_
      obtain ⟨va, ea, sa⟩ := hS.val hm rfl (j := 5) rfl rfl (by decide +kernel)
      obtain rfl : va = .pointer (some ⟨p, 0, none⟩) := sa.get rfl
      refine step_f573 rfl ea ?_
      exact hS.step rfl rfl (by rw [FS.out]; decide) (by decide +kernel) ⟨_, rfl, rfl⟩ hS.bel (fun _ _ _ q => q)
    · refine wpOp_of rfl rfl ?_
      obtain ⟨va, ea, sa⟩ := hS.val hm rfl (j := 6) rfl rfl (by decide +kernel)
      obtain rfl : va = .pointer (some ⟨p, 3, none⟩) := sa.get rfl
      refine step_ld22 rfl ea (hR.cell 3 _ rfl) ?_
      exact hS.step rfl rfl (by rw [FS.out]; decide) (by decide +kernel) ⟨_, rfl, rfl⟩ hS.bel (fun _ _ _ q => q)
    · refine wpOp_of rfl rfl ?_
      refine step_move rfl (hS.oldv (t := 0) (by decide +kernel) F0.out) ?_
      exact hS.step rfl rfl (by rw [FS.out]; decide) (by decide +kernel) ⟨_, rfl, rfl⟩ hS.bel (fun _ _ _ q => q)
    · refine wpOp_of rfl rfl ?_
      obtain ⟨va, ea, sa⟩ := hS.val hm rfl (j := 8) rfl rfl (by decide +kernel)
      obtain rfl : va = .pointer (some ⟨p, 0, none⟩) := sa.get rfl
      refine step_call1 cf39 rfl ea (Calls.one (nonce_any hR hKx h2x)) fun v w' ⟨hv, hb'⟩ => ?_
      subst hv
      exact hS.step rfl rfl (by rw [FS.out]; decide) (by decide +kernel) ⟨_, rfl, rfl⟩ (hS.bel.trans (hb'.mono hS.bel.size)) (fun j v _ q => q.kept KP.out hb')
    · refine wpOp_of rfl rfl ?_
      refine step_move rfl (hS.oldv (t := 1) (by decide +kernel) F1.out) ?_
      exact hS.step rfl rfl (by rw [FS.out]; decide) (by decide +kernel) ⟨_, rfl, rfl⟩ hS.bel (fun _ _ _ q => q)
    · refine wpOp_of rfl rfl ?_
      obtain ⟨va, ea, sa⟩ := hS.val hm rfl (j := 3) rfl rfl (by decide +kernel)
      obtain rfl : va = .int .u64 (h.own : Int) := sa.get rfl
      obtain ⟨vb, eb, sb⟩ := hS.val hm rfl (j := 7) rfl rfl (by decide +kernel)
      obtain rfl : vb = .int .u64 (h.peer : Int) := sb.get rfl
      obtain ⟨vc, ec, sc⟩ := hS.val hm rfl (j := 9) rfl rfl (by decide +kernel)
      obtain rfl : vc = .int .u32 (u (nonceOf h.own h.path)) := sc.get rfl
      obtain ⟨vd, ed, sd⟩ := hS.val hm rfl (j := 10) rfl rfl (by decide +kernel)
      obtain rfl : vd = .int .u32 (u x) := sd.get rfl
      refine step_call4 cf51 rfl ea eb ec ed (Calls.one (proof_any h.own h.peer (nonceOf h.own h.path) x hKx h2x)) fun v w' ⟨hv, hb'⟩ => ?_
      subst hv
      exact hS.step rfl rfl (by rw [FS.out]; decide) (by decide +kernel) ⟨_, rfl, rfl⟩ (hS.bel.trans (hb'.mono hS.bel.size)) (fun j v _ q => q.kept KP.out hb')
set_option maxHeartbeats 4000000 in
theorem peerProof_any {w : World} {p : Nat} {h : Hf} (hH : HfAt w p h) (hK : KTab w) (h2 : 1 ≤ w.heap.size) (x : BitVec 32) :
    Calls Tryd.prog 43 #[.pointer (some ⟨p, 0, none⟩), .int .u32 (u x)] w fun e w' => e = .returned (.agg (bcells (proofL h.peer h.own x (nonceOf h.own h.path))).toArray) ∧ Below w.heap.size w w' := by
  have H := hid hH
  have HK := hid hK
  have H2 := hid h2
  clear hH hK h2
  go_enter Tryd.func43, Tryd.ntmps43
  go_upto_region 1 with fail
  refine wp_world fun W HW => ?_
  have HX : Hid (Row W w.heap.size (bcells z32) 73) := by show Row _ _ _ _; rw [HW.out]; exact Row.new' _ _ _ _ _ rfl rfl
  have HB : Hid (Below w.heap.size w W) := by show Below _ _ _; rw [HW.out]; exact (Below.refl _ _).alloc (Nat.le_refl _) _
  have HR : Hid (HfAt W p h) := H.out.kept HB.out
  have HKW : Hid (KTab W) := HK.out.kept HB.out
  have H2W : Hid (1 ≤ W.heap.size) := Nat.le_trans H2.out HB.out.size
  clear HW
  refine wp_act fun A HF => ?_
  have F0 : Hid (A.tmps[0]? = some (.pointer (some ⟨p, 0, none⟩))) := by show _ = _; rw [HF.out]; rfl
  have F1 : Hid (A.tmps[1]? = some (.int .u32 (u x))) := by show _ = _; rw [HF.out]; rfl
  have F4 : Hid (A.tmps[4]? = some (.pointer (some ⟨w.heap.size, 0, none⟩))) := by show _ = _; rw [HF.out]; rfl
  have FS : Hid (A.tmps.size = 17) := by show _ = _; rw [HF.out]; rfl
  have FD : Hid (A.defers = []) := by show _ = _; rw [HF.out]
  clear HF
  have KP : Hid (∀ f ∈ ([Is (.pointer (some ⟨p, 0, none⟩)), Is (.pointer (some ⟨p, 0, none⟩)), Is (.pointer (some ⟨p, 3, none⟩)), Is (.int .u64 (h.peer : Int)), Is (.pointer (some ⟨p, 0, none⟩)), Is (.pointer (some ⟨p, 0, none⟩)), Is (.pointer (some ⟨p, 2, none⟩)), Is (.int .u64 (h.own : Int)), Is (.int .u32 (u x)), Is (.pointer (some ⟨p, 0, none⟩)), Is (.int .u32 (u (nonceOf h.own h.path))), Is (.agg (bcells (proofL h.peer h.own x (nonceOf h.own h.path))).toArray)] : List (Value → World → Prop)), Keeps f) := by
    intro f hf
    simp only [List.mem_cons, List.not_mem_nil, or_false] at hf
    rcases hf with rfl | rfl | rfl | rfl | rfl | rfl | rfl | rfl | rfl | rfl | rfl | rfl
    · exact keeps_is _
    · exact keeps_is _
    · exact keeps_is _
    · exact keeps_is _
    · exact keeps_is _
    · exact keeps_is _
    · exact keeps_is _
    · exact keeps_is _
    · exact keeps_is _
    · exact keeps_is _
    · exact keeps_is _
    · exact keeps_is _
  refine wp_region_any (by kernel_rfl) ?_
  refine wpAny_last 12 rfl (by decide +kernel) (by decide +kernel) (fun _ wx => Below W.heap.size W wx) (Sps [Is (.pointer (some ⟨p, 0, none⟩)), Is (.pointer (some ⟨p, 0, none⟩)), Is (.pointer (some ⟨p, 3, none⟩)), Is (.int .u64 (h.peer : Int)), Is (.pointer (some ⟨p, 0, none⟩)), Is (.pointer (some ⟨p, 0, none⟩)), Is (.pointer (some ⟨p, 2, none⟩)), Is (.int .u64 (h.own : Int)), Is (.int .u32 (u x)), Is (.pointer (some ⟨p, 0, none⟩)), Is (.int .u32 (u (nonceOf h.own h.path))), Is (.agg (bcells (proofL h.peer h.own x (nonceOf h.own h.path))).toArray)]) (below_drawn (Below.refl _ _) _) ?step ?last
  case last =>
    intro l af wx hS hall
    obtain ⟨vz, hvz, sz⟩ := hS.new 11 _ 16 (hall 11 (by decide)) rfl rfl
    obtain rfl : vz = .agg (bcells (proofL h.peer h.own x (nonceOf h.own h.path))).toArray := sz.get rfl
    have hX := HX.out.kept hS.bel HX.out.lt
    have e2 : af.eval (.tmp 4) = .pointer (some ⟨w.heap.size, 0, none⟩) := hS.oldv (t := 4) (by decide +kernel) F4.out
    have hlen : (bcells (proofL h.peer h.own x (nonceOf h.own h.path))).length = 32 := by rw [bcells_len]; exact proofL_len _ _ _ _
    refine wpOp_of rfl rfl ?_
    refine step_storeA (c' := bcells (proofL h.peer h.own x (nonceOf h.own h.path))) hX rfl e2 (eval_tmp hvz) (by rw [hlen]; rfl) (bcells_one _) (by rw [hlen]; exact i44) ?_
    have hd : af.defers = [] := hS.defers.trans FD.out
    have hbx : Below w.heap.size w wx := HB.out.trans (hS.bel.mono HB.out.size)
    generalize hw5 : wx.setRow w.heap.size _ = w5
    show Exit.then _ _ Exit.normal af w5
    go_wp2_with fail
    rw [← hw5]
    exact bodyPost_ret ((hX.row (bcells (proofL h.peer h.own x (nonceOf h.own h.path)))).result Tryd.results43 _ e2 _ Tryd.underlying73 rfl (by rw [hlen]; exact i44)) hd ⟨rfl, below_setRow hbx (Nat.le_refl _) _⟩
  case step =>
    intro l af wx i hS hiN hf hm
    have hR := HR.out.kept hS.bel
    have hKx := HKW.out.kept hS.bel
    have h2x := Nat.le_trans H2W.out hS.bel.size
    unfold HfAt at hR
    rcases (show i = 0 ∨ i = 1 ∨ i = 2 ∨ i = 3 ∨ i = 4 ∨ i = 5 ∨ i = 6 ∨ i = 7 ∨ i = 8 ∨ i = 9 ∨ i = 10 ∨ i = 11 by omega) with rfl | rfl | rfl | rfl | rfl | rfl | rfl | rfl | rfl | rfl | rfl | rfl
    · refine wpOp_of rfl rfl ?_
      refine step_move rfl (hS.oldv (t := 0) (by decide +kernel) F0.out) ?_
      exact hS.step rfl rfl (by rw [FS.out]; decide) (by decide +kernel) ⟨_, rfl, rfl⟩ hS.bel (fun _ _ _ q => q)
    · refine wpOp_of rfl rfl ?_
      obtain ⟨va, ea, sa⟩ := hS.val hm rfl (j := 0) rfl rfl (by decide +kernel)
      obtain rfl : va = .pointer (some ⟨p, 0, none⟩) := sa.get rfl
      refine step_nilc rfl ea ?_
      exact hS.step rfl rfl (by rw [FS.out]; decide) (by decide +kernel) ⟨_, rfl, rfl⟩ hS.bel (fun _ _ _ q => q)
    · refine wpOp_of rfl rfl ?_
      obtain ⟨va, ea, sa⟩ := hS.val hm rfl (j := 1) rfl rfl (by decide +kernel)
      obtain rfl : va = .pointer (some ⟨p, 0, none⟩) := sa.get rfl
      refine step_f573 rfl ea ?_
      exact hS.step rfl rfl (by rw [FS.out]; decide) (by decide +kernel) ⟨_, rfl, rfl⟩ hS.bel (fun _ _ _ q => q)
    · refine wpOp_of rfl rfl ?_
      obtain ⟨va, ea, sa⟩ := hS.val hm rfl (j := 2) rfl rfl (by decide +kernel)
      obtain rfl : va = .pointer (some ⟨p, 3, none⟩) := sa.get rfl
      refine step_ld22 rfl ea (hR.cell 3 _ rfl) ?_
      exact hS.step rfl rfl (by rw [FS.out]; decide) (by decide +kernel) ⟨_, rfl, rfl⟩ hS.bel (fun _ _ _ q => q)
    · refine wpOp_of rfl rfl ?_
      refine step_move rfl (hS.oldv (t := 0) (by decide +kernel) F0.out) ?_
      exact hS.step rfl rfl (by rw [FS.out]; decide) (by decide +kernel) ⟨_, rfl, rfl⟩ hS.bel (fun _ _ _ q => q)
    · refine wpOp_of rfl rfl ?_
      obtain ⟨va, ea, sa⟩ := hS.val hm rfl (j := 4) rfl rfl (by decide +kernel)
      obtain rfl : va = .pointer (some ⟨p, 0, none⟩) := sa.get rfl
      refine step_nilc rfl ea ?_
      exact hS.step rfl rfl (by rw [FS.out]; decide) (by decide +kernel) ⟨_, rfl, rfl⟩ hS.bel (fun _ _ _ q => q)
    · refine wpOp_of rfl rfl ?_
      obtain ⟨va, ea, sa⟩ := hS.val hm rfl (j := 5) rfl rfl (by decide +kernel)
      obtain rfl : va = .pointer (some ⟨p, 0, none⟩) := sa.get rfl
      refine step_f572 rfl ea ?_
      exact hS.step rfl rfl (by rw [FS.out]; decide) (by decide +kernel) ⟨_, rfl, rfl⟩ hS.bel (fun _ _ _ q => q)
    · refine wpOp_of rfl rfl ?_
      obtain ⟨va, ea, sa⟩ := hS.val hm rfl (j := 6) rfl rfl (by decide +kernel)
      obtain rfl : va = .pointer (some ⟨p, 2, none⟩) := sa.get rfl
      refine step_ld22 rfl ea (hR.cell 2 _ rfl) ?_
      exact hS.step rfl rfl (by rw [FS.out]; decide) (by decide +kernel) ⟨_, rfl, rfl⟩ hS.bel (fun _ _ _ q => q)
    · refine wpOp_of rfl rfl ?_
      refine step_move rfl (hS.oldv (t := 1) (by decide +kernel) F1.out) ?_
      exact hS.step rfl rfl (by rw [FS.out]; decide) (by decide +kernel) ⟨_, rfl, rfl⟩ hS.bel (fun _ _ _ q => q)
    · refine wpOp_of rfl rfl ?_
      refine step_move rfl (hS.oldv (t := 0) (by decide +kernel) F0.out) ?_
      exact hS.step rfl rfl (by rw [FS.out]; decide) (by decide +kernel) ⟨_, rfl, rfl⟩ hS.bel (fun _ _ _ q => q)
    · refine wpOp_of rfl rfl ?_
      obtain ⟨va, ea, sa⟩ := hS.val hm rfl (j := 9) rfl rfl (by decide +kernel)
      obtain rfl : va = .pointer (some ⟨p, 0, none⟩) := sa.get rfl
      refine step_call1 cf39 rfl ea (Calls.one (nonce_any hR hKx h2x)) fun v w' ⟨hv, hb'⟩ => ?_
      subst hv
      exact hS.step rfl rfl (by rw [FS.out]; decide) (by decide +kernel) ⟨_, rfl, rfl⟩ (hS.bel.trans (hb'.mono hS.bel.size)) (fun j v _ q => q.kept KP.out hb')
    · refine wpOp_of rfl rfl ?_
      obtain ⟨va, ea, sa⟩ := hS.val hm rfl (j := 3) rfl rfl (by decide +kernel)
      obtain rfl : va = .int .u64 (h.peer : Int) := sa.get rfl
      obtain ⟨vb, eb, sb⟩ := hS.val hm rfl (j := 7) rfl rfl (by decide +kernel)
      obtain rfl : vb = .int .u64 (h.own : Int) := sb.get rfl
      obtain ⟨vc, ec, sc⟩ := hS.val hm rfl (j := 8) rfl rfl (by decide +kernel)
      obtain rfl : vc = .int .u32 (u x) := sc.get rfl
      obtain ⟨vd, ed, sd⟩ := hS.val hm rfl (j := 10) rfl rfl (by decide +kernel)
      obtain rfl : vd = .int .u32 (u (nonceOf h.own h.path)) := sd.get rfl
      refine step_call4 cf51 rfl ea eb ec ed (Calls.one (proof_any h.peer h.own x (nonceOf h.own h.path) hKx h2x)) fun v w' ⟨hv, hb'⟩ => ?_
      subst hv
      exact hS.step rfl rfl (by rw [FS.out]; decide) (by decide +kernel) ⟨_, rfl, rfl⟩ (hS.bel.trans (hb'.mono hS.bel.size)) (fun j v _ q => q.kept KP.out hb')
end Go.Proofs.YtjpllcliehgnfaaDoor
