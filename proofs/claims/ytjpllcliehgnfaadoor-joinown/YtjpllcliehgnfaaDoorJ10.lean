import Derived.Test.YtjpllcliehgnfaaDoorJ7
namespace Go.Proofs.YtjpllcliehgnfaaDoor
open Go.RowKit
set_option maxRecDepth 100000

set_option maxHeartbeats 4000000 in
theorem joined_any {w : World} {p : Nat} {h : Hf} (hH : HfAt w p h) (hK : KTab w) (h2 : 1 ≤ w.heap.size) :
    Calls Tryd.prog 29 #[.pointer (some ⟨p, 0, none⟩)] w fun e w' => ∃ v, e = .returned v ∧ FrO w.heap.size 8 h.path (nonceOf h.own h.path) ((proofL h.own h.peer (nonceOf h.own h.path) h.hd).take 8) v w' ∧ Below w.heap.size w w' := by
  have H := hid hH
  have HK := hid hK
  have H2 := hid h2
  clear hH hK h2
  go_enter Tryd.func29, Tryd.ntmps29
  go_upto_region 1 with fail
  refine wp_world fun W HW => ?_
  have HX : Hid (Row W w.heap.size frZ 29) := by show Row _ _ _ _; rw [HW.out]; exact Row.new' _ _ _ _ _ rfl rfl
  have HB : Hid (Below w.heap.size w W) := by show Below _ _ _; rw [HW.out]; exact (Below.refl _ _).alloc (Nat.le_refl _) _
  have HR : Hid (HfAt W p h) := H.out.kept HB.out
  have HKW : Hid (KTab W) := HK.out.kept HB.out
  have H2W : Hid (1 ≤ W.heap.size) := Nat.le_trans H2.out HB.out.size
  clear HW
  refine wp_act fun A HF => ?_
  have F0 : Hid (A.tmps[0]? = some (.pointer (some ⟨p, 0, none⟩))) := by show _ = _; rw [HF.out]; rfl
  have F2 : Hid (A.tmps[2]? = some (.pointer (some ⟨w.heap.size, 0, none⟩))) := by show _ = _; rw [HF.out]; rfl
  have FS : Hid (A.tmps.size = 17) := by show _ = _; rw [HF.out]; rfl
  have FD : Hid (A.defers = []) := by show _ = _; rw [HF.out]
  clear HF
  have KP : Hid (∀ f ∈ ([Is (.pointer (some ⟨p, 0, none⟩)), Is (.pointer (some ⟨p, 0, none⟩)), Is (.pointer (some ⟨p, 1, none⟩)), Is (.int .i64 h.path), Is (.pointer (some ⟨p, 0, none⟩)), Is (.int .u32 (u (nonceOf h.own h.path))), Is (.pointer (some ⟨p, 0, none⟩)), Is (.pointer (some ⟨p, 0, none⟩)), Is (.pointer (some ⟨p, 0, none⟩)), Is (.pointer (some ⟨p, 7, none⟩)), Is (.int .u32 (u h.hd)), Is (.agg (bcells (proofL h.own h.peer (nonceOf h.own h.path) h.hd)).toArray), Own W.heap.size ((proofL h.own h.peer (nonceOf h.own h.path) h.hd).take 8), FrO W.heap.size 8 h.path (nonceOf h.own h.path) ((proofL h.own h.peer (nonceOf h.own h.path) h.hd).take 8)] : List (Value → World → Prop)), Keeps f) := by
    intro f hf
    simp only [List.mem_cons, List.not_mem_nil, or_false] at hf
    rcases hf with rfl | rfl | rfl | rfl | rfl | rfl | rfl | rfl | rfl | rfl | rfl | rfl | rfl | rfl
    · exact keeps_is _
    · exact keeps_is _
    · exact keeps_is _
    · exact keeps_is _
    · exact keeps_is _
    · exact keeps_is _
    · exact keeps_is _
    · exact keeps_is _
    · exact keeps_is _
    · exact keeps_is _
    · exact keeps_is _
    · exact keeps_is _
    · exact keeps_own _ _
    · exact keeps_frO _ _ _ _ _
  refine wp_region_any (by kernel_rfl) ?_
  refine wpAny_last 14 rfl (by decide +kernel) (by decide +kernel) (fun _ wx => Below W.heap.size W wx) (Sps [Is (.pointer (some ⟨p, 0, none⟩)), Is (.pointer (some ⟨p, 0, none⟩)), Is (.pointer (some ⟨p, 1, none⟩)), Is (.int .i64 h.path), Is (.pointer (some ⟨p, 0, none⟩)), Is (.int .u32 (u (nonceOf h.own h.path))), Is (.pointer (some ⟨p, 0, none⟩)), Is (.pointer (some ⟨p, 0, none⟩)), Is (.pointer (some ⟨p, 0, none⟩)), Is (.pointer (some ⟨p, 7, none⟩)), Is (.int .u32 (u h.hd)), Is (.agg (bcells (proofL h.own h.peer (nonceOf h.own h.path) h.hd)).toArray), Own W.heap.size ((proofL h.own h.peer (nonceOf h.own h.path) h.hd).take 8), FrO W.heap.size 8 h.path (nonceOf h.own h.path) ((proofL h.own h.peer (nonceOf h.own h.path) h.hd).take 8)]) (below_drawn (Below.refl _ _) _) ?step ?last
  case last =>
    intro l af wx hS hall
    obtain ⟨vz, hvz, sz⟩ := hS.new 13 _ 16 (hall 13 (by decide)) rfl rfl
    obtain ⟨m, hm1, om⟩ : FrO W.heap.size 8 h.path (nonceOf h.own h.path) ((proofL h.own h.peer (nonceOf h.own h.path) h.hd).take 8) vz wx := sz.get rfl
    subst hm1
    obtain ⟨ac, cc, rfl, _, _⟩ := om.shape
    have hX := HX.out.kept hS.bel HX.out.lt
    have e2 : af.eval (.tmp 2) = .pointer (some ⟨w.heap.size, 0, none⟩) := hS.oldv (t := 2) (by decide +kernel) F2.out
    refine wpOp_of rfl rfl ?_
    refine step_storeA (c' := frC 8 h.path 0#32 (nonceOf h.own h.path) (.slice ac ((proofL h.own h.peer (nonceOf h.own h.path) h.hd).take 8).length cc) false) hX rfl e2 (eval_tmp hvz) rfl (frC_one _ _ _ _ _ _ _ _) i29 ?_
    have hd : af.defers = [] := hS.defers.trans FD.out
    have hbx : Below w.heap.size w wx := HB.out.trans (hS.bel.mono HB.out.size)
    generalize hw5 : wx.setRow w.heap.size _ = w5
    show Exit.then _ _ Exit.normal af w5
    go_wp2_with fail
    rw [← hw5]
    exact bodyPost_ret ((hX.row (frC 8 h.path 0#32 (nonceOf h.own h.path) (.slice ac ((proofL h.own h.peer (nonceOf h.own h.path) h.hd).take 8).length cc) false)).result Tryd.results29 _ e2 _ Tryd.underlying29 rfl i29) hd ⟨_, rfl, ⟨_, rfl, (ownB_set om HX.out.lt _).less HB.out.size⟩, below_setRow hbx (Nat.le_refl _) _⟩
  case step =>
    intro l af wx i hS hiN hf hm
    have hR := HR.out.kept hS.bel
    have hKx := HKW.out.kept hS.bel
    have h2x := Nat.le_trans H2W.out hS.bel.size
    unfold HfAt at hR
    rcases (show i = 0 ∨ i = 1 ∨ i = 2 ∨ i = 3 ∨ i = 4 ∨ i = 5 ∨ i = 6 ∨ i = 7 ∨ i = 8 ∨ i = 9 ∨ i = 10 ∨ i = 11 ∨ i = 12 ∨ i = 13 by omega) with rfl | rfl | rfl | rfl | rfl | rfl | rfl | rfl | rfl | rfl | rfl | rfl | rfl | rfl
    · refine wpOp_of rfl rfl ?_
      refine step_move rfl (hS.oldv (t := 0) (by decide +kernel) F0.out) ?_
      exact hS.step rfl rfl (by rw [FS.out]; decide) (by decide +kernel) ⟨_, rfl, rfl⟩ hS.bel (fun _ _ _ q => q)
    · refine wpOp_of rfl rfl ?_
      obtain ⟨va, ea, sa⟩ := hS.val hm rfl (j := 0) rfl rfl (by decide +kernel)
      obtain rfl : va = .pointer (some ⟨p, 0, none⟩) := sa.get rfl
      refine step_nilc rfl ea ?_
      exact hS.step rfl rfl (by rw [FS.out]; decide) (by decide +kernel) ⟨_, rfl, rfl⟩ hS.bel (fun _ _ _ q => q)
    · refine wpOp_of rfl rfl ?_
      obtain ⟨va, ea, sa⟩ := hS.val hm rfl (j := 1) rfl rfl (by decide +kernel)
      obtain rfl : va = .pointer (some ⟨p, 0, none⟩) := sa.get rfl
      refine step_f571 rfl ea ?_
      exact hS.step rfl rfl (by rw [FS.out]; decide) (by decide +kernel) ⟨_, rfl, rfl⟩ hS.bel (fun _ _ _ q => q)
    · refine wpOp_of rfl rfl ?_
      obtain ⟨va, ea, sa⟩ := hS.val hm rfl (j := 2) rfl rfl (by decide +kernel)
      obtain rfl : va = .pointer (some ⟨p, 1, none⟩) := sa.get rfl
      refine step_ld3 rfl ea (hR.cell 1 _ rfl) ?_
      exact hS.step rfl rfl (by rw [FS.out]; decide) (by decide +kernel) ⟨_, rfl, rfl⟩ hS.bel (fun _ _ _ q => q)
    · refine wpOp_of rfl rfl ?_
      refine step_move rfl (hS.oldv (t := 0) (by decide +kernel) F0.out) ?_
      exact hS.step rfl rfl (by rw [FS.out]; decide) (by decide +kernel) ⟨_, rfl, rfl⟩ hS.bel (fun _ _ _ q => q)
    · refine wpOp_of rfl rfl ?_
      obtain ⟨va, ea, sa⟩ := hS.val hm rfl (j := 4) rfl rfl (by decide +kernel)
      obtain rfl : va = .pointer (some ⟨p, 0, none⟩) := sa.get rfl
      refine step_call1 cf39 rfl ea (Calls.one (nonce_any hR hKx h2x)) fun v w' ⟨hv, hb'⟩ => ?_
      subst hv
      exact hS.step rfl rfl (by rw [FS.out]; decide) (by decide +kernel) ⟨_, rfl, rfl⟩ (hS.bel.trans (hb'.mono hS.bel.size)) (fun j v _ q => q.kept KP.out hb')
    · refine wpOp_of rfl rfl ?_
      refine step_move rfl (hS.oldv (t := 0) (by decide +kernel) F0.out) ?_
      exact hS.step rfl rfl (by rw [FS.out]; decide) (by decide +kernel) ⟨_, rfl, rfl⟩ hS.bel (fun _ _ _ q => q)
    · refine wpOp_of rfl rfl ?_
      refine step_move rfl (hS.oldv (t := 0) (by decide +kernel) F0.out) ?_
      exact hS.step rfl rfl (by rw [FS.out]; decide) (by decide +kernel) ⟨_, rfl, rfl⟩ hS.bel (fun _ _ _ q => q)
    · refine wpOp_of rfl rfl ?_
      obtain ⟨va, ea, sa⟩ := hS.val hm rfl (j := 7) rfl rfl (by decide +kernel)
      obtain rfl : va = .pointer (some ⟨p, 0, none⟩) := sa.get rfl
      refine step_nilc rfl ea ?_
      exact hS.step rfl rfl (by rw [FS.out]; decide) (by decide +kernel) ⟨_, rfl, rfl⟩ hS.bel (fun _ _ _ q => q)
    · refine wpOp_of rfl rfl ?_
      obtain ⟨va, ea, sa⟩ := hS.val hm rfl (j := 8) rfl rfl (by decide +kernel)
      obtain rfl : va = .pointer (some ⟨p, 0, none⟩) := sa.get rfl
      refine step_f577 rfl ea ?_
      exact hS.step rfl rfl (by rw [FS.out]; decide) (by decide +kernel) ⟨_, rfl, rfl⟩ hS.bel (fun _ _ _ q => q)
    · refine wpOp_of rfl rfl ?_
      obtain ⟨va, ea, sa⟩ := hS.val hm rfl (j := 9) rfl rfl (by decide +kernel)
      obtain rfl : va = .pointer (some ⟨p, 7, none⟩) := sa.get rfl
      refine step_ld27 rfl ea (hR.cell 7 _ rfl) ?_
      exact hS.step rfl rfl (by rw [FS.out]; decide) (by decide +kernel) ⟨_, rfl, rfl⟩ hS.bel (fun _ _ _ q => q)
    · refine wpOp_of rfl rfl ?_
      obtain ⟨va, ea, sa⟩ := hS.val hm rfl (j := 6) rfl rfl (by decide +kernel)
      obtain rfl : va = .pointer (some ⟨p, 0, none⟩) := sa.get rfl
      obtain ⟨vb, eb, sb⟩ := hS.val hm rfl (j := 10) rfl rfl (by decide +kernel)
      obtain rfl : vb = .int .u32 (u h.hd) := sb.get rfl
      refine step_call2 cf41 rfl ea eb (Calls.one (ownProof_any hR hKx h2x h.hd)) fun v w' ⟨hv, hb'⟩ => ?_
      subst hv
      exact hS.step rfl rfl (by rw [FS.out]; decide) (by decide +kernel) ⟨_, rfl, rfl⟩ (hS.bel.trans (hb'.mono hS.bel.size)) (fun j v _ q => q.kept KP.out hb')
    · refine wpOp_of rfl rfl ?_
      obtain ⟨va, ea, sa⟩ := hS.val hm rfl (j := 11) rfl rfl (by decide +kernel)
      obtain rfl : va = .agg (bcells (proofL h.own h.peer (nonceOf h.own h.path) h.hd)).toArray := sa.get rfl
      refine step_call2 cf40 rfl ea rfl (G := fun v w' => OwnB w' wx.heap.size v ((proofL h.own h.peer (nonceOf h.own h.path) h.hd).take 8) ∧ Below wx.heap.size wx w') (beginning_any wx (proofL_len _ _ _ _) 8 (by decide)) fun v w' ⟨hv, hb'⟩ => ?_
      exact hS.step rfl rfl (by rw [FS.out]; decide) (by decide +kernel) ⟨_, rfl, OwnB.less hv hS.bel.size⟩ (hS.bel.trans (hb'.mono hS.bel.size)) (fun j v _ q => q.kept KP.out hb')
    · refine wpOp_of rfl rfl ?_
      obtain ⟨va, ea, sa⟩ := hS.val hm rfl (j := 3) rfl rfl (by decide +kernel)
      obtain rfl : va = .int .i64 h.path := sa.get rfl
      obtain ⟨vb, eb, sb⟩ := hS.val hm rfl (j := 5) rfl rfl (by decide +kernel)
      obtain rfl : vb = .int .u32 (u (nonceOf h.own h.path)) := sb.get rfl
      obtain ⟨vc, ec, sc⟩ := hS.val hm rfl (j := 12) rfl rfl (by decide +kernel)
      have oc : OwnB wx W.heap.size vc ((proofL h.own h.peer (nonceOf h.own h.path) h.hd).take 8) := sc.get rfl
      obtain ⟨ac, cc, rfl, _, _⟩ := oc.shape
      refine step_bJoined rfl ea eb ec ?_
      exact hS.step rfl rfl (by rw [FS.out]; decide) (by decide +kernel) ⟨_, rfl, _, rfl, oc⟩ hS.bel (fun _ _ _ q => q)
end Go.Proofs.YtjpllcliehgnfaaDoor
