import Derived.Test.YtjpllcliehgnfaaDoorJ5
namespace Go.Proofs.YtjpllcliehgnfaaDoor
open Go.RowKit
set_option maxRecDepth 100000

theorem lit35 (t : Array Value) (h : t.size = 35) : ∃ x0 x1 x2 x3 x4 x5 x6 x7 x8 x9 x10 x11 x12 x13 x14 x15 x16 x17 x18 x19 x20 x21 x22 x23 x24 x25 x26 x27 x28 x29 x30 x31 x32 x33 x34, t = #[x0, x1, x2, x3, x4, x5, x6, x7, x8, x9, x10, x11, x12, x13, x14, x15, x16, x17, x18, x19, x20, x21, x22, x23, x24, x25, x26, x27, x28, x29, x30, x31, x32, x33, x34] := by
  obtain ⟨l⟩ := t
  match l, h with
  | x0 :: x1 :: x2 :: x3 :: x4 :: x5 :: x6 :: x7 :: x8 :: x9 :: x10 :: x11 :: x12 :: x13 :: x14 :: x15 :: x16 :: x17 :: x18 :: x19 :: x20 :: x21 :: x22 :: x23 :: x24 :: x25 :: x26 :: x27 :: x28 :: x29 :: x30 :: x31 :: x32 :: x33 :: x34 :: [], _ => exact ⟨x0, x1, x2, x3, x4, x5, x6, x7, x8, x9, x10, x11, x12, x13, x14, x15, x16, x17, x18, x19, x20, x21, x22, x23, x24, x25, x26, x27, x28, x29, x30, x31, x32, x33, x34, rfl⟩
set_option maxHeartbeats 4000000 in
theorem nonce_any {w : World} {p : Nat} {h : Hf} (hH : HfAt w p h) (hK : KTab w) (h2 : 1 ≤ w.heap.size) :
    Calls Tryd.prog 39 #[.pointer (some ⟨p, 0, none⟩)] w fun e w' => e = .returned (.int .u32 (u (nonceOf h.own h.path))) ∧ Below w.heap.size w w' := by
  have H := hid hH
  have HK := hid hK
  have H2 := hid h2
  clear hH hK h2
  go_enter Tryd.func39, Tryd.ntmps39
  go_upto_region 1 with fail
  refine wp_world fun W HW => ?_
  have HB : Hid (Below w.heap.size w W) := by show Below _ _ _; rw [HW.out]; exact Below.refl _ _
  have HR : Hid (HfAt W p h) := H.out.kept HB.out
  have HKW : Hid (KTab W) := HK.out.kept HB.out
  have H2W : Hid (1 ≤ W.heap.size) := Nat.le_trans H2.out HB.out.size
  clear HW
  refine wp_act fun A HF => ?_
  have F0 : Hid (A.tmps[0]? = some (.pointer (some ⟨p, 0, none⟩))) := by show _ = _; rw [HF.out]; rfl
  have FS : Hid (A.tmps.size = 35) := by show _ = _; rw [HF.out]; rfl
  have FD : Hid (A.defers = []) := by show _ = _; rw [HF.out]
  clear HF
  have KP : Hid (∀ f ∈ ([Is (.pointer (some ⟨p, 0, none⟩)), Is (.pointer (some ⟨p, 0, none⟩)), Is (.pointer (some ⟨p, 2, none⟩)), Is (.int .u64 (h.own : Int)), Own W.heap.size (keyB h.own), Is (.pointer (some ⟨p, 0, none⟩)), Is (.pointer (some ⟨p, 0, none⟩)), Is (.pointer (some ⟨p, 1, none⟩)), Is (.int .i64 h.path), Is (.int .u8 (ub (pathB h.path))), Own W.heap.size [pathB h.path], Two (keyB h.own) [pathB h.path], Is (.agg (bcells (nonceL h.own h.path)).toArray), NewR W.heap.size (bcells z32) 73] : List (Value → World → Prop)), Keeps f) := by
    intro f hf
    simp only [List.mem_cons, List.not_mem_nil, or_false] at hf
    rcases hf with rfl | rfl | rfl | rfl | rfl | rfl | rfl | rfl | rfl | rfl | rfl | rfl | rfl | rfl
    · exact keeps_is _
    · exact keeps_is _
    · exact keeps_is _
    · exact keeps_is _
    · exact keeps_own _ _
    · exact keeps_is _
    · exact keeps_is _
    · exact keeps_is _
    · exact keeps_is _
    · exact keeps_is _
    · exact keeps_own _ _
    · exact keeps_two _ _
    · exact keeps_is _
    · exact keeps_newR _ _ _
  refine wp_region_any (by kernel_rfl) ?_
  refine wpAny_last 14 rfl (by decide +kernel) (by decide +kernel) (fun _ wx => Below W.heap.size W wx) (Sps [Is (.pointer (some ⟨p, 0, none⟩)), Is (.pointer (some ⟨p, 0, none⟩)), Is (.pointer (some ⟨p, 2, none⟩)), Is (.int .u64 (h.own : Int)), Own W.heap.size (keyB h.own), Is (.pointer (some ⟨p, 0, none⟩)), Is (.pointer (some ⟨p, 0, none⟩)), Is (.pointer (some ⟨p, 1, none⟩)), Is (.int .i64 h.path), Is (.int .u8 (ub (pathB h.path))), Own W.heap.size [pathB h.path], Two (keyB h.own) [pathB h.path], Is (.agg (bcells (nonceL h.own h.path)).toArray), NewR W.heap.size (bcells z32) 73]) (below_drawn (Below.refl _ _) _) ?step ?last
  case last =>
    intro l af wx hS hall
    obtain ⟨vz, hvz, sz⟩ := hS.new 12 _ 16 (hall 12 (by decide)) rfl rfl
    obtain rfl : vz = .agg (bcells (nonceL h.own h.path)).toArray := sz.get rfl
    obtain ⟨vy, hvy, sy⟩ := hS.new 13 _ 3 (hall 13 (by decide)) rfl rfl
    obtain ⟨gy, rfl, hgy, hRy⟩ : NewR W.heap.size (bcells z32) 73 vy wx := sy.get rfl
    have hlen : (bcells (nonceL h.own h.path)).length = 32 := by rw [bcells_len]; exact sha_len _
    refine wpOp_of rfl rfl ?_
    refine step_storeA (c' := bcells (nonceL h.own h.path)) hRy rfl (eval_tmp hvy) (eval_tmp hvz) (by rw [hlen]; rfl) (bcells_one _) (by rw [hlen]; exact i44) ?_
    have hd : af.defers = [] := hS.defers.trans FD.out
    have hsz : af.tmps.size = 35 := hS.size.trans FS.out
    have R : Row (wx.setRow gy (bcells (nonceL h.own h.path)).toArray) gy (bcells (nonceL h.own h.path)) 73 := hRy.row _
    have hbz : Below w.heap.size w (wx.setRow gy (bcells (nonceL h.own h.path)).toArray) := below_setRow (HB.out.trans (hS.bel.mono HB.out.size)) (Nat.le_trans HB.out.size hgy) _
    generalize wx.setRow gy (bcells (nonceL h.own h.path)).toArray = wz at *
    obtain ⟨x0, x1, x2, x3, x4, x5, x6, x7, x8, x9, x10, x11, x12, x13, x14, x15, x16, x17, x18, x19, x20, x21, x22, x23, x24, x25, x26, x27, x28, x29, x30, x31, x32, x33, x34, et⟩ := lit35 af.tmps hsz
    obtain rfl : af = { tmps := #[x0, x1, x2, x3, x4, x5, x6, x7, x8, x9, x10, x11, x12, x13, x14, x15, x16, x17, x18, x19, x20, x21, x22, x23, x24, x25, x26, x27, x28, x29, x30, x31, x32, x33, x34], defers := [] } := by cases af; simp_all
    have e3 : x3 = .pointer (some ⟨gy, 0, none⟩) := by simpa using hvy
    subst e3
    show Exit.then _ _ Exit.normal ({ tmps := #[x0, x1, x2, .pointer (some ⟨gy, 0, none⟩), x4, x5, x6, x7, x8, x9, x10, x11, x12, x13, x14, x15, x16, x17, x18, x19, x20, x21, x22, x23, x24, x25, x26, x27, x28, x29, x30, x31, x32, x33, x34], defers := [] } : Act) wz
    have HBZ := hid hbz
    have HT : Hid (nonceOf h.own h.path = word4 ((nonceL h.own h.path).getD 0 0) ((nonceL h.own h.path).getD 1 0) ((nonceL h.own h.path).getD 2 0) ((nonceL h.own h.path).getD 3 0)) := rfl
    have hE : (nonceL h.own h.path).length = 32 := sha_len _
    have c0 := sgetb hE R 0 (by decide)
    have c1 := sgetb hE R 1 (by decide)
    have c2 := sgetb hE R 2 (by decide)
    have c3 := sgetb hE R 3 (by decide)
    clear R hbz hE hlen hRy hvz hvy hall hS et hsz hd
    generalize (nonceL h.own h.path).getD 0 0 = s0 at *
    generalize (nonceL h.own h.path).getD 1 0 = s1 at *
    generalize (nonceL h.own h.path).getD 2 0 = s2 at *
    generalize (nonceL h.own h.path).getD 3 0 = s3 at *
    go_wp2_with fail
    go_ret
    exact ⟨by rw [HT.out]; rfl, HBZ.out⟩
  case step =>
    intro l af wx i hS hiN hf hm
    have hR := HR.out.kept hS.bel
    have hKx := HKW.out.kept hS.bel
    have h2x := Nat.le_trans H2W.out hS.bel.size
    unfold HfAt at hR
    rcases (show i = 0 ∨ i = 1 ∨ i = 2 ∨ i = 3 ∨ i = 4 ∨ i = 5 ∨ i = 6 ∨ i = 7 ∨ i = 8 ∨ i = 9 ∨ i = 10 ∨ i = 11 ∨ i = 12 ∨ i = 13 by omega) with rfl | rfl | rfl | rfl | rfl | rfl | rfl | rfl | rfl | rfl | rfl | rfl | rfl | rfl
    · refine wpOp_of rfl rfl ?_
      refine step_move rfl (hS.oldv (t := 0) (by decide +kernel) F0.out) ?_
      exact hS.step rfl rfl (by rw [FS.out]; decide) (by decide +kernel) ⟨_, rfl, rfl⟩ hS.bel (fun _ _ _ q => q)
    · refine wpOp_of rfl rfl ?_
      obtain ⟨va, ea, sa⟩ := hS.val hm rfl (j := 0) rfl rfl (by decide +kernel)
      obtain rfl : va = .pointer (some ⟨p, 0, none⟩) := sa.get rfl
      refine step_nilc rfl ea ?_
      exact hS.step rfl rfl (by rw [FS.out]; decide) (by decide +kernel) ⟨_, rfl, rfl⟩ hS.bel (fun _ _ _ q => q)
    · refine wpOp_of rfl rfl ?_
      obtain ⟨va, ea, sa⟩ := hS.val hm rfl (j := 1) rfl rfl (by decide +kernel)
      obtain rfl : va = .pointer (some ⟨p, 0, none⟩) := sa.get rfl
      refine step_f572 rfl ea ?_
      exact hS.step rfl rfl (by rw [FS.out]; decide) (by decide +kernel) ⟨_, rfl, rfl⟩ hS.bel (fun _ _ _ q => q)
    · refine wpOp_of rfl rfl ?_
      obtain ⟨va, ea, sa⟩ := hS.val hm rfl (j := 2) rfl rfl (by decide +kernel)
      obtain rfl : va = .pointer (some ⟨p, 2, none⟩) := sa.get rfl
      refine step_ld22 rfl ea (hR.cell 2 _ rfl) ?_
      exact hS.step rfl rfl (by rw [FS.out]; decide) (by decide +kernel) ⟨_, rfl, rfl⟩ hS.bel (fun _ _ _ q => q)
    · refine wpOp_of rfl rfl ?_
      obtain ⟨va, ea, sa⟩ := hS.val hm rfl (j := 3) rfl rfl (by decide +kernel)
      obtain rfl : va = .int .u64 (h.own : Int) := sa.get rfl
      refine step_call1 cf50 rfl ea (G := fun v w' => OwnB w' wx.heap.size v (keyB h.own) ∧ Below wx.heap.size wx w') (jeight_any wx h.own) fun v w' ⟨hv, hb'⟩ => ?_
      exact hS.step rfl rfl (by rw [FS.out]; decide) (by decide +kernel) ⟨_, rfl, OwnB.less hv hS.bel.size⟩ (hS.bel.trans (hb'.mono hS.bel.size)) (fun j v _ q => q.kept KP.out hb')
    · refine wpOp_of rfl rfl ?_
      refine step_move rfl (hS.oldv (t := 0) (by decide +kernel) F0.out) ?_
      exact hS.step rfl rfl (by rw [FS.out]; decide) (by decide +kernel) ⟨_, rfl, rfl⟩ hS.bel (fun _ _ _ q => q)
    · refine wpOp_of rfl rfl ?_
      obtain ⟨va, ea, sa⟩ := hS.val hm rfl (j := 5) rfl rfl (by decide +kernel)
      obtain rfl : va = .pointer (some ⟨p, 0, none⟩) := sa.get rfl
      refine step_nilc rfl ea ?_
      exact hS.step rfl rfl (by rw [FS.out]; decide) (by decide +kernel) ⟨_, rfl, rfl⟩ hS.bel (fun _ _ _ q => q)
    · refine wpOp_of rfl rfl ?_
      obtain ⟨va, ea, sa⟩ := hS.val hm rfl (j := 6) rfl rfl (by decide +kernel)
      obtain rfl : va = .pointer (some ⟨p, 0, none⟩) := sa.get rfl
      refine step_f571 rfl ea ?_
      exact hS.step rfl rfl (by rw [FS.out]; decide) (by decide +kernel) ⟨_, rfl, rfl⟩ hS.bel (fun _ _ _ q => q)
    · refine wpOp_of rfl rfl ?_
      obtain ⟨va, ea, sa⟩ := hS.val hm rfl (j := 7) rfl rfl (by decide +kernel)
      obtain rfl : va = .pointer (some ⟨p, 1, none⟩) := sa.get rfl
      refine step_ld3 rfl ea (hR.cell 1 _ rfl) ?_
      exact hS.step rfl rfl (by rw [FS.out]; decide) (by decide +kernel) ⟨_, rfl, rfl⟩ hS.bel (fun _ _ _ q => q)
    · refine wpOp_of rfl rfl ?_
      obtain ⟨va, ea, sa⟩ := hS.val hm rfl (j := 8) rfl rfl (by decide +kernel)
      obtain rfl : va = .int .i64 h.path := sa.get rfl
      refine step_conv8 rfl ea ?_
      exact hS.step rfl rfl (by rw [FS.out]; decide) (by decide +kernel) ⟨_, rfl, rfl⟩ hS.bel (fun _ _ _ q => q)
    · refine wpOp_of rfl rfl ?_
      obtain ⟨va, ea, sa⟩ := hS.val hm rfl (j := 9) rfl rfl (by decide +kernel)
      obtain rfl : va = .int .u8 (ub (pathB h.path)) := sa.get rfl
      refine step_bs1 rfl ea ?_
      have hb' : Below wx.heap.size wx (wx.alloc (.cells (bcells [pathB h.path]).toArray 5)) := below_new _ _
      exact hS.step rfl rfl (by rw [FS.out]; decide) (by decide +kernel) ⟨_, rfl, (OwnB.new wx [pathB h.path] 1 rfl (by decide)).less hS.bel.size⟩ (hS.bel.trans (hb'.mono hS.bel.size)) (fun j v _ q => q.kept KP.out hb')
    · refine wpOp_of rfl rfl ?_
      obtain ⟨va, ea, sa⟩ := hS.val hm rfl (j := 4) rfl rfl (by decide +kernel)
      obtain ⟨aa, ca, rfl, ya, la, ma⟩ := OwnB.shape (sa.get rfl : OwnB wx W.heap.size va (keyB h.own))
      obtain ⟨vb, eb, sb⟩ := hS.val hm rfl (j := 10) rfl rfl (by decide +kernel)
      obtain ⟨ab, cb, rfl, yb, lb, mb⟩ := OwnB.shape (sb.get rfl : OwnB wx W.heap.size vb [pathB h.path])
      refine step_bs2 rfl ea eb ?_
      have hb' : Below wx.heap.size wx (wx.alloc (.cells #[.slice aa (keyB h.own).length ca, .slice ab [pathB h.path].length cb] 25)) := below_new _ _
      have hP : PartsC (wx.alloc (.cells #[.slice aa (keyB h.own).length ca, .slice ab [pathB h.path].length cb] 25)) (some ⟨wx.heap.size, 0, none⟩) [keyB h.own, [pathB h.path]] := by
        intro k hk
        have hk2 : k < 2 := by simpa using hk
        rcases (show k = 0 ∨ k = 1 by omega) with rfl | rfl
        · exact ⟨wx.heap.size, 0, aa, ca, rfl, by simp, ya.kept hb', la, ma⟩
        · exact ⟨wx.heap.size, 0, ab, cb, rfl, by simp, yb.kept hb', lb, mb⟩
      exact hS.step rfl rfl (by rw [FS.out]; decide) (by decide +kernel) ⟨_, rfl, _, rfl, hP⟩ (hS.bel.trans (hb'.mono hS.bel.size)) (fun j v _ q => q.kept KP.out hb')
    · refine wpOp_of rfl rfl ?_
      obtain ⟨va, ea, sa⟩ := hS.val hm rfl (j := 11) rfl rfl (by decide +kernel)
      obtain ⟨ga, rfl, pa⟩ : Two (keyB h.own) [pathB h.path] va wx := sa.get rfl
      have hof := of_any (cap := 2) (ps := [keyB h.own, [pathB h.path]]) pa (by simp) hKx h2x
      rw [show [keyB h.own, [pathB h.path]].flatten = keyB h.own ++ [pathB h.path] by simp] at hof
      refine step_call1 cf49 rfl ea (Calls.one (hof)) fun v w' ⟨hv, hb'⟩ => ?_
      subst hv
      exact hS.step rfl rfl (by rw [FS.out]; decide) (by decide +kernel) ⟨_, rfl, rfl⟩ (hS.bel.trans (hb'.mono hS.bel.size)) (fun j v _ q => q.kept KP.out hb')
    · refine wpOp_of rfl rfl ?_
      refine step_alloc73 rfl ?_
      have hb' : Below wx.heap.size wx (wx.alloc (.cells (bcells z32).toArray 73)) := below_new _ _
      exact hS.step rfl rfl (by rw [FS.out]; decide) (by decide +kernel) ⟨_, rfl, _, rfl, hS.bel.size, Row.new' _ _ _ _ _ rfl rfl⟩ (hS.bel.trans (hb'.mono hS.bel.size)) (fun j v _ q => q.kept KP.out hb')
end Go.Proofs.YtjpllcliehgnfaaDoor
