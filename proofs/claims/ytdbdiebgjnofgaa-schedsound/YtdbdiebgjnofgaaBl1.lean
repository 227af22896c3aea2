import Derived.Test.YtdbdiebgjnofgaaBl0
namespace Go.Proofs.Ytdbdiebgjnofgaa
open Go.RowKit Go.Maps Go.Sort
set_option maxRecDepth 100000

theorem eg64 : ∀ args w, (callFunc 64 args).run Try.prog w = .ok (.enter 64 args) w := enters_of Try.func64 (by kernel_rfl) rfl
/-- Is a path on call, with a window? -/
def wid (L : List Pv) (p : Pv) : Bool := p.call (oth L) && decide (1 ≤ p.w)
set_option maxHeartbeats 1000000 in
theorem bl1_any (w : World) (p : Pv) {c d : Nat} {o : Bool} (hc : w.cell? ⟨c, 0, none⟩ = some (.func (.func 55) #[] #[.pointer (some ⟨d, 0, none⟩)])) (hd : w.cell? ⟨d, 0, none⟩ = some (.bool o)) : Calls Try.prog 64 #[p.val, .pointer (some ⟨c, 0, none⟩)] w fun e w' => e = .returned (.bool (p.call o && decide (1 ≤ p.w))) ∧ Below w.heap.size w w' := by
  have h1 := fun w' (hb : Below w.heap.size w w') => call_any w' p (cell_kept hb hd)
  generalize p.call o = x at *
  obtain ⟨u, b, k, s, wi, i, h, off, len, fin, on, held⟩ := p
  simp only [Pv.val, Pv.cells] at h1 ⊢
  generalize Value.slice on.a on.n on.c = on at *
  have HB := hid (below_grow (Below.refl w.heap.size w) (.cells #[.bool u, .bool b, .bool k, .int .u64 s, .int .i64 wi, .int .i64 i, .bool h, .int .u64 off, .int .i64 len, .bool fin, on, .bool held] 43))
  have HR : Hid (Row (w.alloc (.cells #[.bool u, .bool b, .bool k, .int .u64 s, .int .i64 wi, .int .i64 i, .bool h, .int .u64 off, .int .i64 len, .bool fin, on, .bool held] 43)) w.heap.size [.bool u, .bool b, .bool k, .int .u64 s, .int .i64 wi, .int .i64 i, .bool h, .int .u64 off, .int .i64 len, .bool fin, on, .bool held] 43) := Row.new _ _ _
  have hl := World.block_lt_of_cell? w _ hc
  have c1 := cell_kept HB.out hc
  have H1 := hid (h1 _ HB.out)
  have eg := eg55
  clear h1 hd hc
  cases x
  · go_enter Try.func64, Try.ntmps64
    go_wp2_with (go_at_fn 55; refine H1.out.mono ?_; rintro e w' ⟨rfl, hb⟩; have HB1 := hid (HB.out.trans (hb.mono HB.out.size)); clear hb)
    go_ret
    exact ⟨rfl, HB1.out⟩
  · go_enter Try.func64, Try.ntmps64
    go_wp2_with (go_at_fn 55; refine H1.out.mono ?_; rintro e w' ⟨rfl, hb⟩; clear c1; have HB1 := hid (HB.out.trans (hb.mono HB.out.size)); have R1 := HR.out.kept hb HR.out.lt; have d4 := R1.cell 4 _ rfl; clear hb R1)
    go_ret
    exact ⟨by first | rfl | simp, HB1.out⟩
def Vw.widest (V : Vw) : Int := bst (wid V.L) Pv.time V.L V.L.length
def bleO (V : Vw) : Option Pk := if V.has = true then (if V.widest < 0 then none else if (pth V.L V.widest.toNat).room = true then some ⟨V.widest, V.want.off, V.want.len⟩ else if V.fastest < 0 then none else if holds V (pth V.L V.widest.toNat) (pth V.L V.fastest.toNat) = true then none else some ⟨V.fastest, V.want.off, V.want.len⟩) else none
/-- The head of Blest's Next: the widest quick path is found. -/
theorem St.setRes {w : World} {x y : Nat} {cs : List Value} {a : Option Addr} {L : List Pv} {w1 : World} (h : St w x y cs a L w1) (hy : w.heap.size ≤ y) (p : Pk) : Row (((w1.setCell ⟨y, 0, none⟩ (.int .i64 p.path)).setCell ⟨y, 1, none⟩ (.int .u64 p.off)).setCell ⟨y, 2, none⟩ (.int .i64 p.len)) y p.cells 36 ∧ Below w.heap.size w (((w1.setCell ⟨y, 0, none⟩ (.int .i64 p.path)).setCell ⟨y, 1, none⟩ (.int .u64 p.off)).setCell ⟨y, 2, none⟩ (.int .i64 p.len)) :=
  ⟨((h.p.set 0 _).set 1 _).set 2 _, ((h.b.setCell (p := ⟨y, 0, none⟩) hy _).setCell (p := ⟨y, 1, none⟩) hy _).setCell (p := ⟨y, 2, none⟩) hy _⟩
set_option maxHeartbeats 4000000 in
theorem ble_any {w : World} {V : Vw} (h : VwAt w V) (h0 : 0 ≤ V.want.off) (h1 : V.edge ≤ 18446744073709551615) : Calls Try.prog 63 #[.agg #[], V.val] w fun e w' => e = .returned (pkv (bleO V)) ∧ Below w.heap.size w w' := by
  obtain ⟨O, hO⟩ : ∃ O, O = bleO V := ⟨_, rfl⟩
  rw [← hO]
  unfold bleO at hO
  have HH := hid (fun w f s => holds_any w V f s h0 h1)
  obtain ⟨hA, hF⟩ := h
  unfold Vw.widest Vw.fastest at hO
  generalize hh : holds V = hol at *
  obtain ⟨a, cap, L, has, want, edge, mss⟩ := V
  simp only [Vw.val, Vw.cells] at hO HH hA hF ⊢
  clear hh h0 h1
  obtain ⟨n, hn⟩ : ∃ n, L.length = n := ⟨_, rfl⟩
  rw [hn] at hF hO HH ⊢
  cases has with
  | false =>
    rw [if_neg (by decide)] at hO
    subst hO
    go_enter Try.func63, Try.ntmps63
    go_wp2
    refine bodyPost_ret (Row.result2 (c := pk0) (t := 36) (Row.new' _ _ _ _ _ (by simp) rfl) Try.results63 _ rfl _ Try.underlying36 rfl i36) rfl ⟨rfl, ?_⟩
    exact (((Below.refl _ _).alloc (Nat.le_refl _) _).alloc (by simp) _).alloc (by simp; omega) _
  | true =>
    rw [if_pos rfl] at hO
    have HAt := hid hA
    have HN := hid hn
    have HF := hid hF
    have HO := hid hO
    clear hA hn hF hO
    go_enter Try.func63, Try.ntmps63
    go_upto_region 3 with fail
    refine wp_world fun W HW => ?_
    obtain ⟨x, hx⟩ : ∃ x, x = w.heap.size + 1 := ⟨_, rfl⟩
    obtain ⟨y, hy⟩ : ∃ y, y = w.heap.size + 1 + 1 := ⟨_, rfl⟩
    have HY : Hid (w.heap.size ≤ y) := by show _ ≤ _; omega
    have HS : Hid (St w x y [.slice a n cap, .bool true, .int .u64 want.off, .int .i64 want.len, .bool want.fin, .slice want.on.a want.on.n want.on.c, .bool want.held, .int .u64 edge, .int .i64 mss] a L W) := by
      have hb : Below w.heap.size w W := by rw [HW.out]; exact (((Below.refl _ _).alloc (Nat.le_refl _) _).alloc (by simp) _).alloc (by simp; omega) _
      refine ⟨hb, ?_, ?_, HAt.out.kept hb⟩
      · rw [HW.out, hx]; exact (Row.new' _ _ _ _ _ (by simp) rfl).alloc _
      · rw [HW.out, hy]; exact Row.new' _ _ _ _ _ (by simp) rfl
    have ne1 : ¬ x = y := by omega
    have ne2 : ¬ y = x := by omega
    rw [← hy, ← hx]
    clear HW hx hy HAt
    obtain ⟨b0, b1, b2, b3, b4, b5, b6, b7, b8⟩ := HS.out.cells
    go_upto_region 4 with (go_at_call 50; refine (oncall_any HS.out.at_ n cap HN.out (by have := HF.out; omega)).mono ?_; rintro e w1 ⟨hb1, d, rfl, hd⟩; have HD := hid hd; replace HS := hid (HS.out.kept hb1); clear hd hb1 b0 b1 b2 b3 b4 b5 b6 b7 b8)
    refine wp_world fun W2 HW => ?_
    obtain ⟨c2, hc2⟩ : ∃ c, c = w1.heap.size := ⟨_, rfl⟩
    have hb2 : Below w1.heap.size w1 W2 := by rw [HW.out]; exact (Below.refl _ _).alloc (Nat.le_refl _) _
    have HC2 : Hid (W2.cell? ⟨c2, 0, none⟩ = some (.func (.func 55) #[] #[.pointer (some ⟨d, 0, none⟩)])) := by show _ = _; rw [HW.out, hc2]; exact (Row.new _ [.func (.func 55) #[] #[.pointer (some ⟨d, 0, none⟩)]] _).cell 0 _ rfl
    have HT : Hid (IsT W2 64 [.pointer (some ⟨c2, 0, none⟩)] (wid L)) := fun w' p hb => bl1_any w' p (cell_kept hb HC2.out) (cell_kept hb (cell_kept hb2 HD.out))
    replace HS := hid (HS.out.kept hb2)
    rw [← hc2]
    clear HW hc2 hb2 HC2 HD
    obtain ⟨b0, b1, b2, b3, b4, b5, b6, b7, b8⟩ := HS.out.cells
    obtain ⟨F, hF⟩ : ∃ F, bst (wid L) Pv.time L n = F := ⟨_, rfl⟩
    have hfb := bst_bd (wid L) Pv.time L n
    rw [hF] at hfb HO
    have HFE := hid hF
    clear hF
    go_upto_region 5 with (go_at_call 46; refine (quick_any HS.out.at_ n cap HN.out (by have := HF.out; omega) HT.out eg64).mono ?_; rintro e w3 ⟨rfl, hb3⟩; rw [HFE.out]; replace HS := hid (HS.out.kept hb3); clear hb3 HT b0 b1 b2 b3 b4 b5 b6 b7 b8; obtain ⟨b0, b1, b2, b3, b4, b5, b6, b7, b8⟩ := HS.out.cells)
    by_cases hF0 : F < 0
    · have HR : Hid (O = none) := by show _ = _; rw [HO.out, if_pos hF0]
      have HSN := hid (fun w => send_no w want F (by omega))
      simp only [Cu.val, Cu.cells] at HSN
      go_wp2_with (go_at_call 45; refine (HSN.out _).mono ?_; rintro e w9 ⟨rfl, hb9⟩; replace HS := hid (HS.out.kept hb9); clear hb9 b0 b1 b2 b3 b4 b5 b6 b7 b8; obtain ⟨⟨y0, y1, y2⟩, z0, z1, z2⟩ := HS.out.res)
      refine bodyPost_ret (Row.result2 (HS.out.setRes HY.out ⟨0, 0, 0⟩).1 Try.results63 _ rfl _ Try.underlying36 rfl i36) rfl ⟨by rw [HR.out]; rfl, (HS.out.setRes HY.out ⟨0, 0, 0⟩).2⟩
    · obtain ⟨k, rfl⟩ : ∃ k : Nat, F = k := ⟨F.toNat, by omega⟩
      have hkl : k < L.length := by have := HN.out; omega
      have hkn : (k : Int) < n := by omega
      rw [if_neg hF0, Int.toNat_natCast, pth_eq hkl] at HO
      obtain ⟨g, o, rfl, q0, q1, q2, q3, q4, q5, q6, q7, q8, q9, q10, q11⟩ := HS.out.at_.cell hkl
      obtain ⟨P, hP⟩ : ∃ P, L[k] = P := ⟨_, rfl⟩
      rw [hP] at q0 q1 q2 q3 q4 q5 q6 q7 q8 q9 q10 q11 HO
      have HRM := hid (fun w => room_any w P)
      simp only [Pv.val, Pv.cells] at HRM
      have HP := hid hP
      clear hP
      cases hrm : P.room with
      | true =>
        have HR : Hid (O = some ⟨k, want.off, want.len⟩) := by show _ = _; rw [HO.out, hrm, if_pos rfl]
        rw [hrm] at HRM
        clear hrm
        go_upto_region 6 with (go_at_call 52; refine (HRM.out _).mono ?_; rintro e w4 ⟨rfl, hb4⟩; replace HS := hid (HS.out.kept hb4); clear hb4 b0 b1 b2 b3 b4 b5 b6 b7 b8; obtain ⟨b0, b1, b2, b3, b4, b5, b6, b7, b8⟩ := HS.out.cells)
        clear q0 q1 q2 q3 q4 q5 q6 q7 q8 q9 q10 q11
        have HSN := hid (fun w => send_yes w want k (by omega))
        simp only [Cu.val, Cu.cells] at HSN
        go_wp2_with (go_at_call 45; refine (HSN.out _).mono ?_; rintro e w9 ⟨rfl, hb9⟩; replace HS := hid (HS.out.kept hb9); clear hb9 b0 b1 b2 b3 b4 b5 b6 b7 b8; obtain ⟨⟨y0, y1, y2⟩, z0, z1, z2⟩ := HS.out.res)
        refine bodyPost_ret (Row.result2 (HS.out.setRes HY.out ⟨k, want.off, want.len⟩).1 Try.results63 _ rfl _ Try.underlying36 rfl i36) rfl ⟨by rw [HR.out]; rfl, (HS.out.setRes HY.out ⟨k, want.off, want.len⟩).2⟩
      | false =>
        rw [hrm, if_neg (by decide)] at HO
        rw [hrm] at HRM
        clear hrm
        go_upto_region 7 with (go_at_call 52; refine (HRM.out _).mono ?_; rintro e w4 ⟨rfl, hb4⟩; replace HS := hid (HS.out.kept hb4); clear hb4 b0 b1 b2 b3 b4 b5 b6 b7 b8; obtain ⟨b0, b1, b2, b3, b4, b5, b6, b7, b8⟩ := HS.out.cells)
        clear q0 q1 q2 q3 q4 q5 q6 q7 q8 q9 q10 q11 HRM
        obtain ⟨S, hS⟩ : ∃ S, bst (rdy L) Pv.time L n = S := ⟨_, rfl⟩
        have hsb := bst_bd (rdy L) Pv.time L n
        rw [hS] at hsb HO
        have HSE := hid hS
        clear hS hF0 hfb
        replace HS := hid (HS.out.drawn (w4.drawn + 1))
        go_region_held3 (fun w' => w'.cell? ⟨x, 0, none⟩ = some (.slice (some ⟨g, o, none⟩) n cap)) (go_keep)
          (first
            | (go_at_call 47; refine (ready_any HS.out.at_ n cap HN.out (by have := HF.out; omega)).mono ?_; rintro e w5 ⟨hb5, c5, rfl, hT⟩; have HT := hid hT; replace HS := hid (HS.out.kept hb5); clear hT hb5 b0 b1 b2 b3 b4 b5 b6 b7 b8; obtain ⟨b0, b1, b2, b3, b4, b5, b6, b7, b8⟩ := HS.out.cells)
            | (go_at_call 46; refine (quick_any HS.out.at_ n cap HN.out (by have := HF.out; omega) HT.out eg51).mono ?_; rintro e w6 ⟨rfl, hb6⟩; rw [HSE.out]; replace HS := hid (HS.out.kept hb6); clear hb6 HT b0 b1 b2 b3 b4 b5 b6 b7 b8; obtain ⟨b0, b1, b2, b3, b4, b5, b6, b7, b8⟩ := HS.out.cells))
        go_upto_region 8 with fail
        by_cases hS0 : S < 0
        · have HR : Hid (O = none) := by show _ = _; rw [HO.out, if_pos hS0]
          replace b0 := cell_regrown b0
          clear b1 b2 b3 b4 b5 b6 b7 b8 HH
          refine wp_region_quiet_below (by kernel_rfl) (by decide +kernel) ?_
          repeat (go_big_quiet_step (fail))
          clear b0
          refine wpQuiet_nil ?_
          intro _ hw'
          obtain ⟨⟨dq, osq⟩, hw''⟩ := hw'
          subst hw''
          replace HS := hid (HS.out.kept (below_regrown w6 dq osq))
          generalize (grow (redrawn w6 dq) osq) = w7 at *
          obtain ⟨⟨y0, y1, y2⟩, z0, z1, z2⟩ := HS.out.res
          go_wp2_with fail
          refine bodyPost_ret (Row.result2 (HS.out.setRes HY.out ⟨0, 0, 0⟩).1 Try.results63 _ rfl _ Try.underlying36 rfl i36) rfl ⟨by rw [HR.out]; rfl, (HS.out.setRes HY.out ⟨0, 0, 0⟩).2⟩
        · obtain ⟨j, rfl⟩ : ∃ j : Nat, S = j := ⟨S.toNat, by omega⟩
          have hjl : j < L.length := by have := HN.out; omega
          have hjn : (j : Int) < n := by omega
          have hj0 : decide ((j : Int) < 0) = false := by simp
          rw [if_neg hS0, Int.toNat_natCast, pth_eq hjl] at HO
          obtain ⟨g', o', e', q0, q1, q2, q3, q4, q5, q6, q7, q8, q9, q10, q11⟩ := HS.out.at_.cell hkl
          cases e'
          obtain ⟨g', o', e', r0, r1, r2, r3, r4, r5, r6, r7, r8, r9, r10, r11⟩ := HS.out.at_.cell hjl
          cases e'
          rw [HP.out] at q0 q1 q2 q3 q4 q5 q6 q7 q8 q9 q10 q11
          obtain ⟨R, hR⟩ : ∃ R, L[j] = R := ⟨_, rfl⟩
          rw [hR] at r0 r1 r2 r3 r4 r5 r6 r7 r8 r9 r10 r11 HO
          clear hR hS0
          replace q0 := cell_regrown q0
          replace q1 := cell_regrown q1
          replace q2 := cell_regrown q2
          replace q3 := cell_regrown q3
          replace q4 := cell_regrown q4
          replace q5 := cell_regrown q5
          replace q6 := cell_regrown q6
          replace q7 := cell_regrown q7
          replace q8 := cell_regrown q8
          replace q9 := cell_regrown q9
          replace q10 := cell_regrown q10
          replace q11 := cell_regrown q11
          replace r0 := cell_regrown r0
          replace r1 := cell_regrown r1
          replace r2 := cell_regrown r2
          replace r3 := cell_regrown r3
          replace r4 := cell_regrown r4
          replace r5 := cell_regrown r5
          replace r6 := cell_regrown r6
          replace r7 := cell_regrown r7
          replace r8 := cell_regrown r8
          replace r9 := cell_regrown r9
          replace r10 := cell_regrown r10
          replace r11 := cell_regrown r11
          replace b0 := cell_regrown b0
          replace b1 := cell_regrown b1
          replace b2 := cell_regrown b2
          replace b3 := cell_regrown b3
          replace b4 := cell_regrown b4
          replace b5 := cell_regrown b5
          replace b6 := cell_regrown b6
          replace b7 := cell_regrown b7
          replace b8 := cell_regrown b8
          have HK := hid (toK (n := 65) (args := #[.agg #[.slice (some ⟨g, o, none⟩) n cap, .bool true, .int .u64 want.off, .int .i64 want.len, .bool want.fin, .slice want.on.a want.on.n want.on.c, .bool want.held, .int .u64 edge, .int .i64 mss], P.val, R.val]) (v := .bool (hol P R)) (w := w6) (fun w' hb => HH.out w' P R))
          simp only [Pv.val, Pv.cells] at HK
          clear HH
          cases hh : hol P R with
          | true =>
            have HR : Hid (O = none) := by show _ = _; rw [HO.out, hh, if_pos rfl]
            rw [hh] at HK
            clear hh
            refine wp_region_quiet_below (by kernel_rfl) (by decide +kernel) ?_
            repeat (go_big_quiet_step ((go_at_call 65; exact HK.out _ _)))
            clear b0 b1 b2 b3 b4 b5 b6 b7 b8 q0 q1 q2 q3 q4 q5 q6 q7 q8 q9 q10 q11 r0 r1 r2 r3 r4 r5 r6 r7 r8 r9 r10 r11 HK
            refine wpQuiet_nil ?_
            intro _ hw'
            obtain ⟨⟨dq, osq⟩, hw''⟩ := hw'
            subst hw''
            replace HS := hid (HS.out.kept (below_regrown w6 dq osq))
            generalize (grow (redrawn w6 dq) osq) = w7 at *
            obtain ⟨b0, b1, b2, b3, b4, b5, b6, b7, b8⟩ := HS.out.cells
            obtain ⟨⟨y0, y1, y2⟩, z0, z1, z2⟩ := HS.out.res
            go_wp2_with fail
            refine bodyPost_ret (Row.result2 (HS.out.setRes HY.out ⟨0, 0, 0⟩).1 Try.results63 _ rfl _ Try.underlying36 rfl i36) rfl ⟨by rw [HR.out]; rfl, (HS.out.setRes HY.out ⟨0, 0, 0⟩).2⟩
          | false =>
            have HR : Hid (O = some ⟨j, want.off, want.len⟩) := by show _ = _; rw [HO.out, hh, if_neg (by decide)]
            rw [hh] at HK
            clear hh
            refine wp_region_quiet_below (by kernel_rfl) (by decide +kernel) ?_
            repeat (go_big_quiet_step ((go_at_call 65; exact HK.out _ _)))
            clear b0 b1 b2 b3 b4 b5 b6 b7 b8 q0 q1 q2 q3 q4 q5 q6 q7 q8 q9 q10 q11 r0 r1 r2 r3 r4 r5 r6 r7 r8 r9 r10 r11 HK
            refine wpQuiet_nil ?_
            intro _ hw'
            obtain ⟨⟨dq, osq⟩, hw''⟩ := hw'
            subst hw''
            replace HS := hid (HS.out.kept (below_regrown w6 dq osq))
            generalize (grow (redrawn w6 dq) osq) = w7 at *
            obtain ⟨b0, b1, b2, b3, b4, b5, b6, b7, b8⟩ := HS.out.cells
            have HSN := hid (fun w => send_yes w want j (by omega))
            simp only [Cu.val, Cu.cells] at HSN
            go_wp2_with (go_at_call 45; refine (HSN.out _).mono ?_; rintro e w9 ⟨rfl, hb9⟩; replace HS := hid (HS.out.kept hb9); clear hb9 b0 b1 b2 b3 b4 b5 b6 b7 b8; obtain ⟨⟨y0, y1, y2⟩, z0, z1, z2⟩ := HS.out.res)
            refine bodyPost_ret (Row.result2 (HS.out.setRes HY.out ⟨j, want.off, want.len⟩).1 Try.results63 _ rfl _ Try.underlying36 rfl i36) rfl ⟨by rw [HR.out]; rfl, (HS.out.setRes HY.out ⟨j, want.off, want.len⟩).2⟩
end Go.Proofs.Ytdbdiebgjnofgaa
