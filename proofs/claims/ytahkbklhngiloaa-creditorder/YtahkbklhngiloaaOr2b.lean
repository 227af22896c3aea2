import Derived.Test.YtahkbklhngiloaaOr2
import Derived.Deep.CutRange
import Derived.Lib.QuietBelow
namespace Go.Proofs.Ytahkbklhngiloaa
open Go.RowKit Go.Maps
set_option maxRecDepth 100000

set_option maxHeartbeats 8000000 in
theorem order_1 {w : World} (side : Int) (hbit : bits BinOp.and IntKind.i64 side 1 = 1) (own peer : Rm) (ho0 : 0 ≤ own.all ∧ own.all ≤ 18446744073709551615) (ho1 : 0 ≤ own.each ∧ own.each ≤ 18446744073709551615) (hp0 : 0 ≤ peer.all ∧ peer.all ≤ 18446744073709551615) (hp1 : 0 ≤ peer.each ∧ peer.each ≤ 18446744073709551615)
    {a : Option Addr} {cap : Nat} {Os : List OpC} (hO : OpcAt w a Os) (hl : Os.length ≤ 4398046511104) :
    Calls Try.prog 3 #[.int .i64 side, own.val, peer.val, .slice a Os.length cap] w fun e w' => e = .returned (.bool true) ∧ Below w.heap.size w w' := by
  have HOP := hid2 hO
  have HLL := hid2 hl
  have hF1 := fun w => fit_any w own ho0 ho1
  have hF2 := fun w => fit_any w peer hp0 hp1
  have hba := below_box w (.cells #[.int .u64 own.all, .int .u64 own.each, .int .i64 own.str] 24)
  have hbb := below_box (w.alloc (.cells #[.int .u64 own.all, .int .u64 own.each, .int .i64 own.str] 24)) (.cells #[.int .u64 peer.all, .int .u64 peer.each, .int .i64 peer.str] 24)
  have Ra := (Row.new w [.int .u64 own.all, .int .u64 own.each, .int .i64 own.str] 24).kept hbb (by simp)
  have Rb := Row.new (w.alloc (.cells #[.int .u64 own.all, .int .u64 own.each, .int .i64 own.str] 24)) [.int .u64 peer.all, .int .u64 peer.each, .int .i64 peer.str] 24
  have HB := hid2 (hba.trans (hbb.mono hba.size))
  have hsz : (w.alloc (.cells #[.int .u64 own.all, .int .u64 own.each, .int .i64 own.str] 24)).heap.size = w.heap.size + 1 := by simp
  rw [hsz] at Rb
  clear hba hbb hsz hO hl ho0 ho1 hp0 hp1
  have HOK := hid2 (And.intro own.fit_ok peer.fit_ok)
  have hNew := fun w => new_yes w side own.fit_ok peer.fit_ok
  generalize own.fit = ro at *
  generalize peer.fit = rp at *
  unfold Rm.val at *
  go_enter Try.func3, Try.ntmps3
  go_upto_region 1 with fail
  refine wp_world ?_
  intro w2 hw2
  rw [← hw2.out] at Ra Rb HB
  have RB := hid2 Rb
  have RA := hid2 Ra
  have a0 := Ra.cell 0 _ rfl
  have a1 := Ra.cell 1 _ rfl
  have a2 := Ra.cell 2 _ rfl
  clear Ra Rb hw2
  go_upto_region 2 with (go_at_call 9; refine (hF1 _).mono ?_; rintro e w3 ⟨rfl, hb3⟩; have RA3 := RA.out.kept hb3 RA.out.lt; have HRA3 := hid2 RA3; have HRB3 := hid2 (RB.out.kept hb3 RB.out.lt); have HB3 := hid2 (HB.out.trans (hb3.mono HB.out.size)); have t0 := RA3.cell 0 _ rfl; have t1 := RA3.cell 1 _ rfl; have t2 := RA3.cell 2 _ rfl; have f0 := RA3.frozen 0; have f1 := RA3.frozen 1; have f2 := RA3.frozen 2; clear hb3 RA3 a0 a1 a2 RA RB HB)
  refine wp_world ?_
  intro w4 hw4
  have RA4 : Row w4 w.heap.size [.int .u64 ro.all, .int .u64 ro.each, .int .i64 ro.str] 24 := by rw [hw4.out]; exact ((HRA3.out.set 0 (.int .u64 ro.all)).set 1 (.int .u64 ro.each)).set 2 (.int .i64 ro.str)
  have F4 : Fr (fun k => k = w.heap.size) w3 w4 := by rw [hw4.out]; exact (((Fr.refl (fun k => k = w.heap.size) w3).setCell w.heap.size 0 _ (.inl rfl)).setCell w.heap.size 1 _ (.inl rfl)).setCell w.heap.size 2 _ (.inl rfl)
  have RB4 := F4.row HRB3.out (by omega)
  have HB4 := hid2 (HB3.out.trans (F4.below (fun k e => by omega) HB3.out.size))
  have HRA4 := hid2 RA4
  have HRB4 := hid2 RB4
  have b0 := RB4.cell 0 _ rfl
  have b1 := RB4.cell 1 _ rfl
  have b2 := RB4.cell 2 _ rfl
  clear hw4 RA4 F4 RB4 t0 t1 t2 f0 f1 f2 HRA3 HRB3 HB3 hF1
  go_upto_region 3 with (go_at_call 9; refine (hF2 _).mono ?_; rintro e w5 ⟨rfl, hb5⟩; have RB5 := HRB4.out.kept hb5 HRB4.out.lt; have HRB5 := hid2 RB5; have HRA5 := hid2 (HRA4.out.kept hb5 HRA4.out.lt); have HB5 := hid2 (HB4.out.trans (hb5.mono HB4.out.size)); have t0 := RB5.cell 0 _ rfl; have t1 := RB5.cell 1 _ rfl; have t2 := RB5.cell 2 _ rfl; have f0 := RB5.frozen 0; have f1 := RB5.frozen 1; have f2 := RB5.frozen 2; clear hb5 RB5 b0 b1 b2 HRA4 HRB4 HB4)
  refine wp_world ?_
  intro w6 hw6
  have RB6 : Row w6 (w.heap.size + 1) [.int .u64 rp.all, .int .u64 rp.each, .int .i64 rp.str] 24 := by rw [hw6.out]; exact ((HRB5.out.set 0 (.int .u64 rp.all)).set 1 (.int .u64 rp.each)).set 2 (.int .i64 rp.str)
  have F6 : Fr (fun k => k = w.heap.size + 1) w5 w6 := by rw [hw6.out]; exact (((Fr.refl (fun k => k = w.heap.size + 1) w5).setCell (w.heap.size + 1) 0 _ (.inl rfl)).setCell (w.heap.size + 1) 1 _ (.inl rfl)).setCell (w.heap.size + 1) 2 _ (.inl rfl)
  have RA6 := F6.row HRA5.out (by omega)
  have HB6 := hid2 (HB5.out.trans (F6.below (fun k e => by omega) HB5.out.size))
  have HRA6 := hid2 RA6
  have HRB6 := hid2 RB6
  have a0 := RA6.cell 0 _ rfl
  have a1 := RA6.cell 1 _ rfl
  have a2 := RA6.cell 2 _ rfl
  have b0 := RB6.cell 0 _ rfl
  have b1 := RB6.cell 1 _ rfl
  have b2 := RB6.cell 2 _ rfl
  clear hw6 RA6 F6 RB6 t0 t1 t2 f0 f1 f2 HRA5 HRB5 HB5 hF2
  go_upto_region 6 with (go_at_call 10; refine (hNew _).mono ?_; rintro e w7 ⟨p, b, rfl, h7, hb7, hp7, hq7⟩; have HH7 := hid2 h7; have HRA7 := hid2 (HRA6.out.kept hb7 HRA6.out.lt); have HRB7 := hid2 (HRB6.out.kept hb7 HRB6.out.lt); have HB7 := hid2 (HB6.out.trans (hb7.mono HB6.out.size)); have HPQ := hid2 (And.intro hp7 hq7); have HZ7 := hid2 hb7.size; clear h7 hb7 hp7 hq7 a0 a1 a2 b0 b1 b2 hNew HRA6 HRB6)
  have a2 := HRA7.out.cell 2 _ rfl
  have b2 := HRB7.out.cell 2 _ rfl
  have hlt := HRA7.out.lt
  have hlt2 := HRB7.out.lt
  have hbs := build32
  have hbz := build32z
  have hb31 := build31
  go_upto_region 11 with fail
  refine wp_world ?_
  intro w8 hw8
  have hsd : (side % 2).toNat = 1 := by rw [bits_two] at hbit; omega
  have hI : OrI w.heap.size w8 p b w7.heap.size (w7.heap.size + 1) (w7.heap.size + 2) 1 rp ro (Bk.zero 1 ro rp) [] (.slice none 0 0) 0 ∧ Below w.heap.size w w8 := by
    have k1 := below_box w7 (.cells #[.int .u64 1, .int .u64 2] 31)
    have k2 := below_box (w7.alloc (.cells #[.int .u64 1, .int .u64 2] 31)) (.cells #[.int .i64 0, .int .i64 0] 32)
    have k3 := below_box ((w7.alloc (.cells #[.int .u64 1, .int .u64 2] 31)).alloc (.cells #[.int .i64 0, .int .i64 0] 32)) (.cells #[.int .i64 ro.str, .int .i64 rp.str] 32)
    have s1 : (w7.alloc (.cells #[.int .u64 1, .int .u64 2] 31)).heap.size = w7.heap.size + 1 := by simp
    have s2 : ((w7.alloc (.cells #[.int .u64 1, .int .u64 2] 31)).alloc (.cells #[.int .i64 0, .int .i64 0] 32)).heap.size = w7.heap.size + 2 := by simp
    have r1 := ((Row.new w7 [.int .u64 1, .int .u64 2] 31).kept k2 (by omega)).kept k3 (by omega)
    have r2 := (Row.new (w7.alloc (.cells #[.int .u64 1, .int .u64 2] 31)) [.int .i64 0, .int .i64 0] 32).kept k3 (by omega)
    have r3 := Row.new ((w7.alloc (.cells #[.int .u64 1, .int .u64 2] 31)).alloc (.cells #[.int .i64 0, .int .i64 0] 32)) [.int .i64 ro.str, .int .i64 rp.str] 32
    rw [s1] at r2
    rw [s2] at r3
    have hb8 : Below w7.heap.size w7 w8 := by
      rw [hw8.out]
      exact (k1.trans (k2.mono k1.size)).trans (k3.mono (by omega))
    have z7 := HB7.out.size
    have h7 := HH7.out
    rw [hsd] at h7
    refine ⟨⟨h7.below hb8, zero_ok (by omega) HOK.out.1 HOK.out.2, fun k hk => ?_, rfl, rfl, rfl, by rw [hw8.out]; exact r1, by rw [hw8.out]; exact r2, by rw [hw8.out]; exact r3, ⟨rfl, .inl ⟨rfl, rfl⟩⟩, fun z => ⟨fun h => (by cases h), fun ⟨x, hx, _⟩ => (by cases hx)⟩, List.nodup_nil, fun x hx => (by cases hx), Nat.le_refl _, ⟨by show (1 : Int) ≤ _; omega, by show (2 : Int) ≤ _; omega⟩, z7, by omega, by omega, by omega, Nat.le_trans z7 hb8.size⟩, HB7.out.trans (hb8.mono z7)⟩
    have := HPQ.out
    have := HB6.out.size
    rcases hk with rfl | rfl | ⟨x, hx, _⟩
    · omega
    · omega
    · cases hx
  have HI := hid2 hI.1
  have HB8 := hid2 hI.2
  clear hI hw8 a2 b2 hlt hlt2 hbs hbz hb31 HRA7 HRB7 HB7 HPQ HZ7 HH7 HB6
  generalize w7.heap.size = pn at *
  go_wp2_with fail
  go_loopw [14, 15] (fun s14 s15 wr => ∃ (i : Nat) (B : Bk) (Ls : List Int), i ≤ Os.length ∧ s15 = .int .i64 i ∧ OrI w.heap.size wr p b pn (pn + 1) (pn + 2) 1 rp ro B Ls s14 i ∧ Below w.heap.size w wr) (fun _ s _ => Os.length - (intOf s).toNat)
  case atStart => exact ⟨0, _, _, Nat.zero_le _, rfl, HI.out, HB8.out⟩
  case round =>
    obtain ⟨i, B, Ls, hi, rfl, hI, hbr⟩ := hrel
    have HIr := hid2 hI
    have HBr := hid2 hbr
    clear hI hbr HI HB8
    by_cases hlt : i < Os.length
    · obtain ⟨g, o, rfl, hce, hok⟩ := HOP.out i hlt
      generalize hop : Os[i] = op at hce hok
      obtain ⟨kd, sec, id, nn⟩ := op
      have hge : g < w.heap.size := World.block_lt_of_cell? w _ (hce 0 _ rfl)
      have hkc : ∀ j u, w.cell? ⟨g, o + (i * 4 + j), none⟩ = some u → wr.cell? ⟨g, o + i * 4 + j, none⟩ = some u := fun j u h => by
        rw [Nat.add_assoc]
        exact (HBr.out.cell hge).trans h
      have k0 := hkc 0 _ (hce 0 _ rfl)
      have k1 := hkc 1 _ (hce 1 _ rfl)
      have k2 := hkc 2 _ (hce 2 _ rfl)
      have k3 := hkc 3 _ (hce 3 _ rfl)
      rw [Nat.add_zero] at k0
      have HOp := hid2 hok
      clear hkc hce hok hop hge
      have hi0 : (0 : Int) ≤ (i : Int) := by omega
      have hi1 : (i : Int) < (Os.length : Int) := by omega
      have hi2 : (i : Int) ≤ 4398046511104 := by have := HLL.out; omega
      go_upto_region 15 with fail
      refine wp_world ?_
      intro w1 hw1
      have hb1 : Below wr.heap.size wr w1 := by rw [hw1.out]; exact below_box wr _
      have hR1 : Row w1 wr.heap.size [.int .i64 kd, .bool sec, .int .u64 id, .int .u64 nn] 35 := by rw [hw1.out]; exact Row.new wr _ 35
      have HI1 := hid2 (HIr.out.keep hb1)
      have HB1 := hid2 (HBr.out.trans (hb1.mono HBr.out.size))
      have HR1 := hid2 hR1
      have hNx := next_any HI1.out.at_ HI1.out.ok.sd
      have hne := HI1.out.next
      have hnN : B.nextN = B.n1 := by unfold Bk.nextN; rw [HI1.out.side]; rfl
      rw [hnN] at hNx hne
      have hne2 : B.openE B.n1 = 0 ↔ B.o1 < rp.str := hne
      clear hw1 hb1 hR1 hne hnN k0 k1 k2 k3
      have HOKB : Hid (decide (B.openE B.n1 = 0) = decide (B.o1 < rp.str) ∧ (if B.openE B.n1 = 0 then B.n1 else 0) = if decide (B.openE B.n1 = 0) = true then B.n1 else 0) := ⟨by simp only [hne2], by simp only [decide_eq_true_eq]⟩
      revert hNx HOKB
      generalize decide (B.openE B.n1 = 0) = okb
      generalize (if B.openE B.n1 = 0 then B.n1 else 0) = N
      intro hNx HOKB
      go_upto_region 16 with (go_at_call 11; refine hNx.mono ?_; rintro e wn ⟨rfl, q, rfl⟩)
      refine wp_world ?_
      intro w2 hw2
      have hb2 : Below w1.heap.size w1 w2 := by rw [hw2.out]; exact below_drewN (Below.refl _ _) q
      have HI2 := hid2 (HI1.out.keep hb2)
      have HR2 := hid2 (HR1.out.kept hb2 HR1.out.lt)
      have HB2 := hid2 (HB1.out.trans (hb2.mono HB1.out.size))
      clear hw2 hb2 HI1 HB1 HR1 hne2 hNx
      go_cut [17, 18, 97] from 63 to 97 (fun _ _ s97 wx => s97 = .bool false ∧ Below w2.heap.size w2 wx)
      case first =>
        have e1 := cell_regrown (HI2.out.ro.cell 1 _ rfl)
        have m1 := cell_regrown (HI2.out.rm.cell 1 _ rfl)
        have n1 := cell_regrown (HI2.out.rn.cell 1 _ rfl)
        cases hokb : okb with
        | true =>
            have hld : decide (B.o1 < rp.str) = true := HOKB.out.1.symm.trans hokb
            have hlo : B.o1 < rp.str := of_decide_eq_true hld
            have hNN : N = B.n1 := by have := HOKB.out.2; rw [hokb] at this; exact this
            subst hNN
            refine wp_region_quiet_below (by kernel_rfl) (by decide +kernel) ?_
            iterate 26 (quiet_step (fail))
            iterate 2 go_big_quiet_skip
            iterate 2 (quiet_step (fail))
            refine wpQuiet_nil ?_
            intro _ hw'
            obtain ⟨⟨dq, osq⟩, hw''⟩ := hw'
            subst hw''
            go_wp2_with fail
            go_meet
            exact ⟨rfl, below_regrown w2 dq osq⟩
        | false =>
            have hld : decide (B.o1 < rp.str) = false := HOKB.out.1.symm.trans hokb
            have hlo : ¬ B.o1 < rp.str := of_decide_eq_false hld
            have hNN : N = 0 := by have := HOKB.out.2; rw [hokb] at this; exact this
            subst hNN
            refine wp_region_quiet_below (by kernel_rfl) (by decide +kernel) ?_
            iterate 14 (quiet_step (fail))
            iterate 6 go_big_quiet_skip
            iterate 10 (quiet_step (fail))
            refine wpQuiet_nil ?_
            intro _ hw'
            obtain ⟨⟨dq, osq⟩, hw''⟩ := hw'
            subst hw''
            go_wp2_with fail
            go_meet
            exact ⟨rfl, below_regrown w2 dq osq⟩
      case rest =>
        obtain ⟨rfl, hbc⟩ := hcut
        have HI3 := hid2 (HI2.out.keep hbc)
        have HR3 := hid2 (HR2.out.kept hbc HR2.out.lt)
        have HB3 := hid2 (HB2.out.trans (hbc.mono HB2.out.size))
        clear hbc HI2 HR2 HB2 HOKB
        have c0 := HR3.out.cell 0 _ rfl
        have c2 := HR3.out.cell 2 _ rfl
        by_cases hk1 : kd = 1
        · subst hk1
          rcases sideN_cases id with hside | hside
          · have hbk : bits BinOp.and IntKind.u64 (IntKind.u64.wrap (id + 1)) 1 = 0 := by rw [bits_u, IntKind.wrap_u64]; have := HOp.out.i0; unfold sideN at hside; omega
            have n0 := HI3.out.rn.cell 0 _ rfl
            have o0 := HI3.out.ro.cell 0 _ rfl
            have m0 := HI3.out.rm.cell 0 _ rfl
            have HS := hid2 hside
            have HKN := hid2 HI3.out.ok
            have hr0 := HI3.out.r0
            have hr1 := HI3.out.r1
            have hEq : B.openE id = if id ≠ B.n0 then 181 else if ro.str ≤ B.o0 then 182 else 0 := by unfold Bk.openE; rw [hside, hr0, hr1]; rw [if_pos rfl]
            clear hside hr0 hr1
            by_cases hid1 : id = B.n0
            · subst hid1
              rw [if_neg (by simp)] at hEq
              have hle : B.o0 ≤ ro.str := by have := HKN.out.o0.2; rw [HI3.out.r1] at this; exact this
              by_cases hfull : B.o0 = ro.str
              · rw [if_pos (by omega)] at hEq
                have hOp := fun W (hW : BkAt W p b B) => open_no hW (id := B.n0) (by rw [hEq]; decide)
                rw [hEq] at hOp
                go_upto_region 22 with fail
                go_region
                go_upto_region 24 with fail
                go_region
                go_upto_region 26 with fail
                refine wp_world ?_
                intro w4 hw4
                have hb4 : Below wc.heap.size wc w4 := by rw [hw4.out]; exact below_drewN (below_drewN (Below.refl _ _) 1) 1
                have HI4 := hid2 (HI3.out.keep hb4)
                have HB4 := hid2 (HB3.out.trans (hb4.mono HB3.out.size))
                have d2 := cell_kept hb4 c2
                clear hw4 hb4 c2 HI3 HB3
                have hO4 := hOp w4 HI4.out.at_
                go_wp2_with (go_at_call 12; refine hO4.mono ?_; rintro e wo ⟨rfl, q2, rfl⟩)
                go_roundw
                case rel =>
                  have hbo := below_drewN (Below.refl w4.heap.size w4) q2
                  exact ⟨i + 1, B, Ls, hlt, by go_num, (HI4.out.keep hbo).more, HB4.out.trans (hbo.mono HB4.out.size)⟩
                case measure => simp [intOf]; omega
              · rw [if_neg (by omega)] at hEq
                have hbnd := HI3.out.bn
                have hOp := fun W (hW : BkAt W p b B) => open_yes hW HKN.out (id := B.n0) hEq (by omega) (by omega)
                have HEQ := hid2 hEq
                clear hEq
                go_upto_region 22 with fail
                go_region
                go_upto_region 24 with fail
                go_region
                go_upto_region 26 with fail
                refine wp_world ?_
                intro w4 hw4
                have hb4 : Below wc.heap.size wc w4 := by rw [hw4.out]; exact below_drewN (below_drewN (Below.refl _ _) 1) 1
                have HI4 := hid2 (HI3.out.keep hb4)
                have HB4 := hid2 (HB3.out.trans (hb4.mono HB3.out.size))
                have HR4 := hid2 (HR3.out.kept hb4 HR3.out.lt)
                have d2 := cell_kept hb4 c2
                clear hw4 hb4 c2 HI3 HB3 n0 o0 m0
                have hO4 := hOp w4 HI4.out.at_
                go_upto_region 29 with (go_at_call 12; refine hO4.mono ?_; rintro e w5 ⟨rfl, g5, hg5, h5, f5⟩; have HO5 := hid2 (And.intro hg5 (And.intro h5 f5)); clear hg5 h5 f5)
                obtain ⟨rn5, ro5, hv5, hb5⟩ := HI4.out.rows1 HO5.out.2.2 (fun k e => by rcases e with e | e; exact .inl e; exact .inr (.inl e))
                have R5 := HO5.out.2.2.row HR4.out (fun e => HI4.out.at_.notRow HR4.out (by decide) (by decide) (by rcases e with e | e; exact .inl e; exact .inr (.inl e)))
                have e2 := R5.cell 2 _ rfl
                have n5 := rn5.cell 0 _ rfl
                have fn5 := rn5.frozen 0
                have o5 := ro5.cell 0 _ rfl
                have fo5 := ro5.frozen 0
                have hpo : ¬ pn + 1 = pn := by omega
                have hwn : IntKind.u64.wrap (B.n0 + 2) = B.n0 + 2 := by rw [IntKind.wrap_u64]; have := HKN.out.n0; omega
                have ho0 : 0 ≤ B.o0 := by rw [HKN.out.o0.1]; omega
                have ho1 : B.o0 ≤ 1024 := by have := HKN.out.o0.2; have := HKN.out.k1.s1; omega
                have hwo : IntKind.i64.wrap (B.o0 + 1) = B.o0 + 1 := by rw [IntKind.wrap_i64]; omega
                have HR5 := hid2 R5
                have HX5 := hid2 (And.intro rn5 (And.intro ro5 (And.intro hv5 hb5)))
                clear rn5 ro5 hv5 hb5 R5 d2
                go_upto_region 31 with fail
                refine wp_world ?_
                intro w6 hw6
                have hmid := HI4.out.mid HX5.out.1 HX5.out.2.1 HX5.out.2.2.1 HX5.out.2.2.2 hw6.out
                have hne1 : pn ≠ wr.heap.size := row_ne HX5.out.1 HR5.out (by decide)
                have hne2 : pn + 1 ≠ wr.heap.size := row_ne HX5.out.2.1 HR5.out (by decide)
                have c26 : w6.cell? ⟨wr.heap.size, 2, none⟩ = some (.int .u64 B.n0) := by
                  rw [hw6.out]
                  exact ((HR5.out.setOther ⟨pn, 0, none⟩ (fun e => hne1 e.symm) _).setOther ⟨pn + 1, 0, none⟩ (fun e => hne2 e.symm) _).cell 2 _ rfl
                have HE6 := hid2 hw6.out
                have HM6 := hid2 hmid.1
                have HB6 := hid2 hmid.2
                have hsz6 := hid2 (Nat.le_trans HI4.out.sz hmid.2.size)
                have hbs := bsl22
                have HLn := hid2 (show Ls.length + 1 ≤ 17592186044416 by have := HI4.out.len; omega)
                have HOX := hid2 (own_fr (S := fun _ => False) HM6.out (Fr.of_below (below_box w6 (.cells #[.int .u64 B.n0] 22)) (Nat.le_refl _)) (fun _ e => e.elim))
                have HCX : Hid (∀ j (h : j < [B.n0].length), (w6.alloc (.cells #[.int .u64 B.n0] 22)).cell? ((⟨w6.heap.size, 0, none⟩ : Addr).add j) = some (.int .u64 [B.n0][j])) := fun j h => by
                  have hj : j = 0 := by simpa using h
                  subst hj
                  exact box_cells w6 #[.int .u64 B.n0] 22 0 _ rfl
                clear hw6 hmid hne1 hne2 n5 fn5 o5 fo5 hwn hwo e2
                go_wp2_with (at_builtin; refine wpNums (.tmp 139) (.tmp 142) rfl rfl rfl HOX.out (by have := hsz6.out; simp; omega) (news := [B.n0]) rfl rfl HCX.out HLn.out ?_; intro w9 v9 ho9 hg9)
                go_roundw
                case rel =>
                  have hI9 := HI4.out.opened HEQ.out HO5.out.1 HO5.out.2.1 HO5.out.2.2 (k := 0) HS.out.symm (w2 := w6) (by rw [HE6.out, HS.out]; rfl) hg9.out ho9.out
                  have hb9 : Below w.heap.size w6 w9 := by
                    have q1 := below_box w6 (.cells #[.int .u64 B.n0] 22)
                    have q2 : Fr (fun k => w.heap.size ≤ k) w6 w9 := (Fr.of_below q1 (Nat.le_refl _)).trans (T := fun k => w.heap.size ≤ k) (Fr.of_grown hg9.out (fun k e => .inl (own_ge HM6.out e))) (fun _ e => .inl e)
                    exact q2.below (fun _ e => e) hsz6.out
                  exact ⟨i + 1, _, _, hlt, by go_num, hI9, (HB4.out.trans HB6.out).trans hb9⟩
                case measure => simp [intOf]; omega
            · rw [if_pos hid1] at hEq
              have hOp := fun q => open_no (HI3.out.at_.drewN q) (id := id) (by rw [hEq]; decide)
              rw [hEq] at hOp
              go_upto_region 22 with fail
              go_region
              go_wp2_with (go_at_call 12; refine (hOp _).mono ?_; rintro e wo ⟨rfl, q2, rfl⟩)
              go_roundw
              case rel =>
                have hbo := below_drewN (Below.refl wc.heap.size wc) (1 + q2)
                exact ⟨i + 1, B, Ls, hlt, by go_num, (HI3.out.keep hbo).more, HB3.out.trans (hbo.mono HB3.out.size)⟩
              case measure => simp [intOf]; omega
          · have hbk : bits BinOp.and IntKind.u64 (IntKind.u64.wrap (id + 1)) 1 = 1 := by rw [bits_u, IntKind.wrap_u64]; have := HOp.out.i0; unfold sideN at hside; omega
            have n1 := HI3.out.rn.cell 1 _ rfl
            have o1 := HI3.out.ro.cell 1 _ rfl
            have m1 := HI3.out.rm.cell 1 _ rfl
            have HS := hid2 hside
            have HKN := hid2 HI3.out.ok
            have hr0 := HI3.out.r0
            have hr1 := HI3.out.r1
            have hEq : B.openE id = if id ≠ B.n1 then 181 else if rp.str ≤ B.o1 then 182 else 0 := by unfold Bk.openE; rw [hside, hr0, hr1]; rw [if_neg (by omega)]
            clear hside hr0 hr1
            by_cases hid1 : id = B.n1
            · subst hid1
              rw [if_neg (by simp)] at hEq
              have hle : B.o1 ≤ rp.str := by have := HKN.out.o1.2; rw [HI3.out.r0] at this; exact this
              by_cases hfull : B.o1 = rp.str
              · rw [if_pos (by omega)] at hEq
                have hOp := fun W (hW : BkAt W p b B) => open_no hW (id := B.n1) (by rw [hEq]; decide)
                rw [hEq] at hOp
                go_upto_region 22 with fail
                go_region
                go_upto_region 24 with fail
                go_region
                go_upto_region 26 with fail
                refine wp_world ?_
                intro w4 hw4
                have hb4 : Below wc.heap.size wc w4 := by rw [hw4.out]; exact below_drewN (below_drewN (Below.refl _ _) 1) 1
                have HI4 := hid2 (HI3.out.keep hb4)
                have HB4 := hid2 (HB3.out.trans (hb4.mono HB3.out.size))
                have d2 := cell_kept hb4 c2
                clear hw4 hb4 c2 HI3 HB3
                have hO4 := hOp w4 HI4.out.at_
                go_wp2_with (go_at_call 12; refine hO4.mono ?_; rintro e wo ⟨rfl, q2, rfl⟩)
                go_roundw
                case rel =>
                  have hbo := below_drewN (Below.refl w4.heap.size w4) q2
                  exact ⟨i + 1, B, Ls, hlt, by go_num, (HI4.out.keep hbo).more, HB4.out.trans (hbo.mono HB4.out.size)⟩
                case measure => simp [intOf]; omega
              · rw [if_neg (by omega)] at hEq
                have hbnd := HI3.out.bn
                have hOp := fun W (hW : BkAt W p b B) => open_yes hW HKN.out (id := B.n1) hEq (by omega) (by omega)
                have HEQ := hid2 hEq
                clear hEq
                go_upto_region 22 with fail
                go_region
                go_upto_region 24 with fail
                go_region
                go_upto_region 26 with fail
                refine wp_world ?_
                intro w4 hw4
                have hb4 : Below wc.heap.size wc w4 := by rw [hw4.out]; exact below_drewN (below_drewN (Below.refl _ _) 1) 1
                have HI4 := hid2 (HI3.out.keep hb4)
                have HB4 := hid2 (HB3.out.trans (hb4.mono HB3.out.size))
                have HR4 := hid2 (HR3.out.kept hb4 HR3.out.lt)
                have d2 := cell_kept hb4 c2
                clear hw4 hb4 c2 HI3 HB3 n1 o1 m1
                have hO4 := hOp w4 HI4.out.at_
                go_upto_region 29 with (go_at_call 12; refine hO4.mono ?_; rintro e w5 ⟨rfl, g5, hg5, h5, f5⟩; have HO5 := hid2 (And.intro hg5 (And.intro h5 f5)); clear hg5 h5 f5)
                obtain ⟨rn5, ro5, hv5, hb5⟩ := HI4.out.rows1 HO5.out.2.2 (fun k e => by rcases e with e | e; exact .inl e; exact .inr (.inl e))
                have R5 := HO5.out.2.2.row HR4.out (fun e => HI4.out.at_.notRow HR4.out (by decide) (by decide) (by rcases e with e | e; exact .inl e; exact .inr (.inl e)))
                have e2 := R5.cell 2 _ rfl
                have n5 := rn5.cell 1 _ rfl
                have fn5 := rn5.frozen 1
                have o5 := ro5.cell 1 _ rfl
                have fo5 := ro5.frozen 1
                have hpo : ¬ pn + 1 = pn := by omega
                have hwn : IntKind.u64.wrap (B.n1 + 2) = B.n1 + 2 := by rw [IntKind.wrap_u64]; have := HKN.out.n1; omega
                have ho0 : 0 ≤ B.o1 := by rw [HKN.out.o1.1]; omega
                have ho1 : B.o1 ≤ 1024 := by have := HKN.out.o1.2; have := HKN.out.k0.s1; omega
                have hwo : IntKind.i64.wrap (B.o1 + 1) = B.o1 + 1 := by rw [IntKind.wrap_i64]; omega
                have HR5 := hid2 R5
                have HX5 := hid2 (And.intro rn5 (And.intro ro5 (And.intro hv5 hb5)))
                clear rn5 ro5 hv5 hb5 R5 d2
                go_upto_region 31 with fail
                refine wp_world ?_
                intro w6 hw6
                have hmid := HI4.out.mid HX5.out.1 HX5.out.2.1 HX5.out.2.2.1 HX5.out.2.2.2 hw6.out
                have hne1 : pn ≠ wr.heap.size := row_ne HX5.out.1 HR5.out (by decide)
                have hne2 : pn + 1 ≠ wr.heap.size := row_ne HX5.out.2.1 HR5.out (by decide)
                have c26 : w6.cell? ⟨wr.heap.size, 2, none⟩ = some (.int .u64 B.n1) := by
                  rw [hw6.out]
                  exact ((HR5.out.setOther ⟨pn, 1, none⟩ (fun e => hne1 e.symm) _).setOther ⟨pn + 1, 1, none⟩ (fun e => hne2 e.symm) _).cell 2 _ rfl
                have HE6 := hid2 hw6.out
                have HM6 := hid2 hmid.1
                have HB6 := hid2 hmid.2
                have hsz6 := hid2 (Nat.le_trans HI4.out.sz hmid.2.size)
                have hbs := bsl22
                have HLn := hid2 (show Ls.length + 1 ≤ 17592186044416 by have := HI4.out.len; omega)
                have HOX := hid2 (own_fr (S := fun _ => False) HM6.out (Fr.of_below (below_box w6 (.cells #[.int .u64 B.n1] 22)) (Nat.le_refl _)) (fun _ e => e.elim))
                have HCX : Hid (∀ j (h : j < [B.n1].length), (w6.alloc (.cells #[.int .u64 B.n1] 22)).cell? ((⟨w6.heap.size, 0, none⟩ : Addr).add j) = some (.int .u64 [B.n1][j])) := fun j h => by
                  have hj : j = 0 := by simpa using h
                  subst hj
                  exact box_cells w6 #[.int .u64 B.n1] 22 0 _ rfl
                clear hw6 hmid hne1 hne2 n5 fn5 o5 fo5 hwn hwo e2
                go_wp2_with (at_builtin; refine wpNums (.tmp 139) (.tmp 142) rfl rfl rfl HOX.out (by have := hsz6.out; simp; omega) (news := [B.n1]) rfl rfl HCX.out HLn.out ?_; intro w9 v9 ho9 hg9)
                go_roundw
                case rel =>
                  have hI9 := HI4.out.opened HEQ.out HO5.out.1 HO5.out.2.1 HO5.out.2.2 (k := 1) HS.out.symm (w2 := w6) (by rw [HE6.out, HS.out]; rfl) hg9.out ho9.out
                  have hb9 : Below w.heap.size w6 w9 := by
                    have q1 := below_box w6 (.cells #[.int .u64 B.n1] 22)
                    have q2 : Fr (fun k => w.heap.size ≤ k) w6 w9 := (Fr.of_below q1 (Nat.le_refl _)).trans (T := fun k => w.heap.size ≤ k) (Fr.of_grown hg9.out (fun k e => .inl (own_ge HM6.out e))) (fun _ e => .inl e)
                    exact q2.below (fun _ e => e) hsz6.out
                  exact ⟨i + 1, _, _, hlt, by go_num, hI9, (HB4.out.trans HB6.out).trans hb9⟩
                case measure => simp [intOf]; omega
            · rw [if_pos hid1] at hEq
              have hOp := fun q => open_no (HI3.out.at_.drewN q) (id := id) (by rw [hEq]; decide)
              rw [hEq] at hOp
              go_upto_region 22 with fail
              go_region
              go_wp2_with (go_at_call 12; refine (hOp _).mono ?_; rintro e wo ⟨rfl, q2, rfl⟩)
              go_roundw
              case rel =>
                have hbo := below_drewN (Below.refl wc.heap.size wc) (1 + q2)
                exact ⟨i + 1, B, Ls, hlt, by go_num, (HI3.out.keep hbo).more, HB3.out.trans (hbo.mono HB3.out.size)⟩
              case measure => simp [intOf]; omega
        · by_cases hk9 : kd = 9
          · subst hk9
            obtain ⟨al, cl, hva, hlc, hcm, hrd⟩ := own_nums HI3.out.row
            have HV := hid2 hva
            have HRD := hid2 hrd
            have HLC := hid2 (And.intro hlc hcm)
            obtain ⟨bx, hbxe⟩ : ∃ bx, bx = wr.heap.size := ⟨_, rfl⟩
            rw [← hbxe] at HR3 c0 c2
            rw [hva, ← hbxe]
            clear hrd hcm hbxe
            have HLn := hid2 (show Ls.length ≤ 4398046511104 by have := HI3.out.len; omega)
            go_wp2_with fail
            go_loopw [21, 22] (fun s21 s22 wx => ∃ (j : Nat) (at_ : Int), j ≤ Ls.length ∧ s22 = .int .i64 j ∧ s21 = .int .i64 at_ ∧ ((at_ = -1 ∧ id ∉ Ls.take j) ∨ ∃ m : Nat, at_ = m ∧ m < j ∧ Ls[m]? = some id) ∧ Below wc.heap.size wc wx) (fun _ s _ => Ls.length - (intOf s).toNat)
            case atStart => exact ⟨0, -1, Nat.zero_le _, rfl, rfl, .inl ⟨rfl, by simp⟩, Below.refl _ _⟩
            case round =>
              obtain ⟨j, at_, hj, rfl, rfl, hat, hbx⟩ := hrel
              have HIx := hid2 (HI3.out.keep hbx)
              have HBx := hid2 (HB3.out.trans (hbx.mono HB3.out.size))
              have HRx := hid2 (HR3.out.kept hbx HR3.out.lt)
              have HBW := hid2 hbx
              have HAT := hid2 hat
              have d2 := HRx.out.cell 2 _ rfl
              clear hat hbx c0 c2
              have hj0 : (0 : Int) ≤ (j : Int) := by omega
              have hj2 : (j : Int) ≤ 4398046511104 := by have := HLn.out; omega
              by_cases hjl : j < Ls.length
              · obtain ⟨gl, hal, hcell⟩ := HRD.out j hjl
                subst hal
                have l0 := cell_kept HBW.out hcell
                have hj1 : (j : Int) < (Ls.length : Int) := by omega
                clear hcell
                by_cases hq : Ls[j] = id
                · go_upto_region 37 with fail
                  go_region
                  go_wp2_with fail
                  go_roundw
                  case rel => exact ⟨j + 1, j, hjl, by go_num, rfl, .inr ⟨j, rfl, by omega, by rw [List.getElem?_eq_getElem hjl, hq]⟩, below_drewN HBW.out 1⟩
                  case measure => simp [intOf]; omega
                · go_upto_region 37 with fail
                  go_region
                  go_wp2_with fail
                  go_roundw
                  case rel =>
                    refine ⟨j + 1, at_, hjl, by go_num, rfl, ?_, below_drewN HBW.out 1⟩
                    rcases HAT.out with ⟨e, hno⟩ | ⟨m, e, hm, hmv⟩
                    · refine .inl ⟨e, ?_⟩
                      rw [List.take_succ_eq_append_getElem hjl, List.mem_append, List.mem_singleton]
                      rintro (h | h)
                      · exact hno h
                      · exact hq h.symm
                    · exact .inr ⟨m, e, by omega, hmv⟩
                  case measure => simp [intOf]; omega
              · obtain rfl : j = Ls.length := by omega
                rcases HAT.out with ⟨rfl, hno⟩ | ⟨m, rfl, hm, hmv⟩
                · rw [List.take_length] at hno
                  have hC := close_none HIx.out.at_ HOp.out.i0 HOp.out.i1 (HIx.out.shut hno)
                  go_wp2_with (go_at_call 13; refine hC.mono ?_; rintro e wo ⟨rfl, rfl⟩)
                  go_roundw
                  case rel => exact ⟨i + 1, B, Ls, hlt, by go_num, by rw [← HV.out]; exact HIx.out.more, HBx.out⟩
                  case measure => simp [intOf]; omega
                · obtain ⟨x, hxU, hxn, hxf⟩ := HIx.out.has (List.mem_of_getElem? hmv)
                  subst hxn
                  have hC := close_ok HIx.out.at_ HIx.out.ok hxf (HIx.out.all x hxU).1 HOp.out.i0 HOp.out.i1
                  have hat0 : (0 : Int) ≤ (m : Int) := by omega
                  rcases sideN_cases x.num with hside | hside
                  · have hbk : bits BinOp.and IntKind.u64 (IntKind.u64.wrap (x.num + 1)) 1 = 0 := by rw [bits_u, IntKind.wrap_u64]; have := HOp.out.i0; unfold sideN at hside; omega
                    have HS := hid2 hside
                    clear hside
                    go_upto_region 42 with (go_at_call 13; refine hC.mono ?_; rintro e w5 ⟨rfl, h5, f5⟩; have HC5 := hid2 (And.intro h5 f5); clear h5 f5 hC)
                    obtain ⟨rn5, ro5, hv5, hb5⟩ := HIx.out.rows1 HC5.out.2 (fun _ e => e)
                    have R5 := HC5.out.2.row HRx.out (HIx.out.at_.notRow HRx.out (by decide) (by decide))
                    have e2 := R5.cell 2 _ rfl
                    have o5 := ro5.cell 0 _ rfl
                    have fo5 := ro5.frozen 0
                    have hKN := HIx.out.ok
                    have ho0 : 0 ≤ B.o0 := by rw [hKN.o0.1]; omega
                    have ho1 : B.o0 ≤ 1024 := by have := hKN.o0.2; have := hKN.k1.s1; omega
                    have hwo : IntKind.i64.wrap (B.o0 - 1) = B.o0 - 1 := by rw [IntKind.wrap_i64]; omega
                    have HX5 := hid2 (And.intro ro5 (And.intro hv5 hb5))
                    clear rn5 ro5 hv5 hb5 R5 d2 hKN
                    go_upto_region 44 with fail
                    refine wp_world ?_
                    intro w6 hw6
                    have hmid := HIx.out.mid2 HX5.out.1 HX5.out.2.1 HX5.out.2.2 hw6.out
                    rw [HV.out] at hmid
                    obtain ⟨al6, cl6, hv6, hlc6, hcm6, hrd6⟩ := own_nums hmid.1
                    obtain ⟨rfl, _, rfl⟩ : al = al6 ∧ Ls.length = Ls.length ∧ cl = cl6 := by simpa using hv6
                    have HE6 := hid2 hw6.out
                    have HM6 := hid2 hmid.1
                    have HB6 := hid2 hmid.2
                    have hsz6 := hid2 (Nat.le_trans HIx.out.sz hmid.2.size)
                    obtain ⟨gl, hal, _⟩ := hrd6 m hm
                    subst hal
                    have HC6 : Hid (∀ q (hq : q < Ls.length), w6.cell? ⟨gl, q, none⟩ = some (.int .u64 Ls[q])) := fun q hq => by obtain ⟨g', e', c'⟩ := hrd6 q hq; cases e'; exact c'
                    clear hrd6 hv6 hmid hw6 o5 fo5 hwo e2
                    have hm0 : (0 : Int) ≤ (m : Int) := by omega
                    have hm1 : (m : Int) ≤ (cl : Int) := by omega
                    have hm2 : (m : Int) ≤ (Ls.length : Int) := by omega
                    have hm3 : (m : Int) + 1 ≤ (Ls.length : Int) := by omega
                    have hm4 : m ≤ cl := by omega
                    have hm5 : m + 1 ≤ Ls.length := by omega
                    have hm6 : m + 1 ≤ cl := by omega
                    have hl1 : (Ls.length : Int) ≤ (cl : Int) := by omega
                    have hl2 : (cl : Int) ≤ 9223372036854775807 := by have := HLC.out.2; unfold maxLen at this; omega
                    have HCT : Hid (∀ q (hq : q < (Ls.take m).length), w6.cell? ((⟨gl, 0, none⟩ : Addr).add q) = some (.int .u64 (Ls.take m)[q])) := fun q hq => by
                      have hq' : q < m := by simp at hq; omega
                      rw [Addr.add_mid, Nat.zero_add, HC6.out q (by omega)]
                      simp
                    have HLT : Hid ((Ls.take m).length = m) := by show _ = _; simp; omega
                    go_upto_region 45 with (at_builtin; refine wpNums (.tmp 179) (.tmp 182) rfl rfl (base := w6.heap.size) (v := .slice none 0 0) (old := []) rfl ⟨rfl, .inl ⟨rfl, rfl⟩⟩ (Nat.le_refl _) (news := Ls.take m) rfl HLT.out HCT.out (by have := HLn.out; omega) ?_; intro w7 v7 ho7 hg7)
                    have hb7 : Below w6.heap.size w6 w7 := by have := hg7.out; exact ⟨this.os, this.tape, this.output, this.size, fun q hq => this.block q hq (by simp [Value.ownBlock])⟩
                    have HO7 : Hid (w7.ownsRow w6.heap.size 22 1 v7 m (ucells (Ls.take m))) := by have h1 := ho7.out; rw [List.nil_append, Nat.zero_add] at h1; exact h1
                    have HB7 := hid2 hb7
                    have HC7 : Hid (∀ q (hq : q < Ls.length), w7.cell? ⟨gl, q, none⟩ = some (.int .u64 Ls[q])) := fun q hq => cell_kept hb7 (HC6.out q hq)
                    have HSZ7 := hid2 hb7.size
                    have HLD : Hid ((Ls.drop (m + 1)).length = Ls.length - (m + 1)) := by show _ = _; simp
                    have HTK := hid2 (take_nd hm HIx.out.nd)
                    have HMX : Hid (Ls[m] = x.num) := by have := hmv; rw [List.getElem?_eq_getElem hm] at this; exact Option.some.inj this
                    have HPL : Hid (∀ (w9 : World) (v9 : Value), w7.grownBy w9 v7.ownBlock → w9.ownsRow w6.heap.size 22 1 v9 (m + (Ls.length - (m + 1))) (ucells (Ls.take m ++ Ls.drop (m + 1))) → OrI w.heap.size w9 p b pn (pn + 1) (pn + 2) 1 rp ro (B.cls x) (Ls.take m ++ Ls.drop (m + 1)) v9 (i + 1) ∧ Below w.heap.size w w9) := fun w9 v9 hg ho => by
                      have f79 : Fr (fun k => w6.heap.size ≤ k) w7 w9 := Fr.of_grown hg (fun k e => .inl (own_ge HO7.out e))
                      have f3 : Below w6.heap.size w6 w9 := HB7.out.trans (f79.below (fun _ e => e) HSZ7.out)
                      have htk := HTK.out
                      rw [HMX.out] at htk
                      have ho' : w9.ownsRow w.heap.size 22 1 v9 (Ls.take m ++ Ls.drop (m + 1)).length (ucells (Ls.take m ++ Ls.drop (m + 1))) := by
                        have := own_mono ho hsz6.out
                        rw [show (Ls.take m ++ Ls.drop (m + 1)).length = m + (Ls.length - (m + 1)) by simp; omega]
                        exact this
                      have hv0 := HIx.out
                      refine ⟨hv0.closed (List.mem_of_find?_eq_some hxf) HC5.out.1 HC5.out.2 (k := 0) HS.out.symm (w2 := w6) (by rw [HE6.out, HS.out]; rfl) f3 ho' htk.1 htk.2.1 htk.2.2, (HBx.out.trans HB6.out).trans (f3.mono hsz6.out)⟩
                    clear HB7 hb7 ho7 hg7
                    by_cases hcl : cl = m + 1
                    · have hcl2 : (cl : Int) = (m : Int) + 1 := by omega
                      have HDN : Hid (Ls.drop (m + 1) = []) := by show _ = _; rw [List.drop_eq_nil_iff]; omega
                      go_wp2_with (at_builtin; refine wpNums (.tmp 184) (.tmp 188) rfl rfl rfl HO7.out HSZ7.out (news := Ls.drop (m + 1)) rfl HLD.out (fun q hq => absurd hq (by rw [HDN.out]; simp)) (by have := HLn.out; omega) ?_; intro w9 v9 ho9 hg9)
                      go_roundw
                      case rel => exact ⟨i + 1, _, _, hlt, by go_num, (HPL.out w9 v9 hg9.out ho9.out).1, (HPL.out w9 v9 hg9.out ho9.out).2⟩
                      case measure => simp [intOf]; omega
                    · have hcl2 : ¬ (cl : Int) = (m : Int) + 1 := by omega
                      have HCD : Hid (∀ q (hq : q < (Ls.drop (m + 1)).length), w7.cell? ((⟨gl, m + 1, none⟩ : Addr).add q) = some (.int .u64 (Ls.drop (m + 1))[q])) := fun q hq => by
                        have hq' : m + 1 + q < Ls.length := by simp at hq; omega
                        rw [Addr.add_mid, HC7.out (m + 1 + q) hq']
                        simp
                      go_wp2_with (at_builtin; refine wpNums (.tmp 184) (.tmp 188) rfl rfl rfl HO7.out HSZ7.out (news := Ls.drop (m + 1)) rfl HLD.out HCD.out (by have := HLn.out; omega) ?_; intro w9 v9 ho9 hg9)
                      go_roundw
                      case rel => exact ⟨i + 1, _, _, hlt, by go_num, (HPL.out w9 v9 hg9.out ho9.out).1, (HPL.out w9 v9 hg9.out ho9.out).2⟩
                      case measure => simp [intOf]; omega
                  · have hbk : bits BinOp.and IntKind.u64 (IntKind.u64.wrap (x.num + 1)) 1 = 1 := by rw [bits_u, IntKind.wrap_u64]; have := HOp.out.i0; unfold sideN at hside; omega
                    have HS := hid2 hside
                    clear hside
                    go_upto_region 42 with (go_at_call 13; refine hC.mono ?_; rintro e w5 ⟨rfl, h5, f5⟩; have HC5 := hid2 (And.intro h5 f5); clear h5 f5 hC)
                    obtain ⟨rn5, ro5, hv5, hb5⟩ := HIx.out.rows1 HC5.out.2 (fun _ e => e)
                    have R5 := HC5.out.2.row HRx.out (HIx.out.at_.notRow HRx.out (by decide) (by decide))
                    have e2 := R5.cell 2 _ rfl
                    have o5 := ro5.cell 1 _ rfl
                    have fo5 := ro5.frozen 1
                    have hKN := HIx.out.ok
                    have ho0 : 0 ≤ B.o1 := by rw [hKN.o1.1]; omega
                    have ho1 : B.o1 ≤ 1024 := by have := hKN.o1.2; have := hKN.k0.s1; omega
                    have hwo : IntKind.i64.wrap (B.o1 - 1) = B.o1 - 1 := by rw [IntKind.wrap_i64]; omega
                    have HX5 := hid2 (And.intro ro5 (And.intro hv5 hb5))
                    clear rn5 ro5 hv5 hb5 R5 d2 hKN
                    go_upto_region 44 with fail
                    refine wp_world ?_
                    intro w6 hw6
                    have hmid := HIx.out.mid2 HX5.out.1 HX5.out.2.1 HX5.out.2.2 hw6.out
                    rw [HV.out] at hmid
                    obtain ⟨al6, cl6, hv6, hlc6, hcm6, hrd6⟩ := own_nums hmid.1
                    obtain ⟨rfl, _, rfl⟩ : al = al6 ∧ Ls.length = Ls.length ∧ cl = cl6 := by simpa using hv6
                    have HE6 := hid2 hw6.out
                    have HM6 := hid2 hmid.1
                    have HB6 := hid2 hmid.2
                    have hsz6 := hid2 (Nat.le_trans HIx.out.sz hmid.2.size)
                    obtain ⟨gl, hal, _⟩ := hrd6 m hm
                    subst hal
                    have HC6 : Hid (∀ q (hq : q < Ls.length), w6.cell? ⟨gl, q, none⟩ = some (.int .u64 Ls[q])) := fun q hq => by obtain ⟨g', e', c'⟩ := hrd6 q hq; cases e'; exact c'
                    clear hrd6 hv6 hmid hw6 o5 fo5 hwo e2
                    have hm0 : (0 : Int) ≤ (m : Int) := by omega
                    have hm1 : (m : Int) ≤ (cl : Int) := by omega
                    have hm2 : (m : Int) ≤ (Ls.length : Int) := by omega
                    have hm3 : (m : Int) + 1 ≤ (Ls.length : Int) := by omega
                    have hm4 : m ≤ cl := by omega
                    have hm5 : m + 1 ≤ Ls.length := by omega
                    have hm6 : m + 1 ≤ cl := by omega
                    have hl1 : (Ls.length : Int) ≤ (cl : Int) := by omega
                    have hl2 : (cl : Int) ≤ 9223372036854775807 := by have := HLC.out.2; unfold maxLen at this; omega
                    have HCT : Hid (∀ q (hq : q < (Ls.take m).length), w6.cell? ((⟨gl, 0, none⟩ : Addr).add q) = some (.int .u64 (Ls.take m)[q])) := fun q hq => by
                      have hq' : q < m := by simp at hq; omega
                      rw [Addr.add_mid, Nat.zero_add, HC6.out q (by omega)]
                      simp
                    have HLT : Hid ((Ls.take m).length = m) := by show _ = _; simp; omega
                    go_upto_region 45 with (at_builtin; refine wpNums (.tmp 179) (.tmp 182) rfl rfl (base := w6.heap.size) (v := .slice none 0 0) (old := []) rfl ⟨rfl, .inl ⟨rfl, rfl⟩⟩ (Nat.le_refl _) (news := Ls.take m) rfl HLT.out HCT.out (by have := HLn.out; omega) ?_; intro w7 v7 ho7 hg7)
                    have hb7 : Below w6.heap.size w6 w7 := by have := hg7.out; exact ⟨this.os, this.tape, this.output, this.size, fun q hq => this.block q hq (by simp [Value.ownBlock])⟩
                    have HO7 : Hid (w7.ownsRow w6.heap.size 22 1 v7 m (ucells (Ls.take m))) := by have h1 := ho7.out; rw [List.nil_append, Nat.zero_add] at h1; exact h1
                    have HB7 := hid2 hb7
                    have HC7 : Hid (∀ q (hq : q < Ls.length), w7.cell? ⟨gl, q, none⟩ = some (.int .u64 Ls[q])) := fun q hq => cell_kept hb7 (HC6.out q hq)
                    have HSZ7 := hid2 hb7.size
                    have HLD : Hid ((Ls.drop (m + 1)).length = Ls.length - (m + 1)) := by show _ = _; simp
                    have HTK := hid2 (take_nd hm HIx.out.nd)
                    have HMX : Hid (Ls[m] = x.num) := by have := hmv; rw [List.getElem?_eq_getElem hm] at this; exact Option.some.inj this
                    have HPL : Hid (∀ (w9 : World) (v9 : Value), w7.grownBy w9 v7.ownBlock → w9.ownsRow w6.heap.size 22 1 v9 (m + (Ls.length - (m + 1))) (ucells (Ls.take m ++ Ls.drop (m + 1))) → OrI w.heap.size w9 p b pn (pn + 1) (pn + 2) 1 rp ro (B.cls x) (Ls.take m ++ Ls.drop (m + 1)) v9 (i + 1) ∧ Below w.heap.size w w9) := fun w9 v9 hg ho => by
                      have f79 : Fr (fun k => w6.heap.size ≤ k) w7 w9 := Fr.of_grown hg (fun k e => .inl (own_ge HO7.out e))
                      have f3 : Below w6.heap.size w6 w9 := HB7.out.trans (f79.below (fun _ e => e) HSZ7.out)
                      have htk := HTK.out
                      rw [HMX.out] at htk
                      have ho' : w9.ownsRow w.heap.size 22 1 v9 (Ls.take m ++ Ls.drop (m + 1)).length (ucells (Ls.take m ++ Ls.drop (m + 1))) := by
                        have := own_mono ho hsz6.out
                        rw [show (Ls.take m ++ Ls.drop (m + 1)).length = m + (Ls.length - (m + 1)) by simp; omega]
                        exact this
                      have hv0 := HIx.out
                      refine ⟨hv0.closed (List.mem_of_find?_eq_some hxf) HC5.out.1 HC5.out.2 (k := 1) HS.out.symm (w2 := w6) (by rw [HE6.out, HS.out]; rfl) f3 ho' htk.1 htk.2.1 htk.2.2, (HBx.out.trans HB6.out).trans (f3.mono hsz6.out)⟩
                    clear HB7 hb7 ho7 hg7
                    by_cases hcl : cl = m + 1
                    · have hcl2 : (cl : Int) = (m : Int) + 1 := by omega
                      have HDN : Hid (Ls.drop (m + 1) = []) := by show _ = _; rw [List.drop_eq_nil_iff]; omega
                      go_wp2_with (at_builtin; refine wpNums (.tmp 184) (.tmp 188) rfl rfl rfl HO7.out HSZ7.out (news := Ls.drop (m + 1)) rfl HLD.out (fun q hq => absurd hq (by rw [HDN.out]; simp)) (by have := HLn.out; omega) ?_; intro w9 v9 ho9 hg9)
                      go_roundw
                      case rel => exact ⟨i + 1, _, _, hlt, by go_num, (HPL.out w9 v9 hg9.out ho9.out).1, (HPL.out w9 v9 hg9.out ho9.out).2⟩
                      case measure => simp [intOf]; omega
                    · have hcl2 : ¬ (cl : Int) = (m : Int) + 1 := by omega
                      have HCD : Hid (∀ q (hq : q < (Ls.drop (m + 1)).length), w7.cell? ((⟨gl, m + 1, none⟩ : Addr).add q) = some (.int .u64 (Ls.drop (m + 1))[q])) := fun q hq => by
                        have hq' : m + 1 + q < Ls.length := by simp at hq; omega
                        rw [Addr.add_mid, HC7.out (m + 1 + q) hq']
                        simp
                      go_wp2_with (at_builtin; refine wpNums (.tmp 184) (.tmp 188) rfl rfl rfl HO7.out HSZ7.out (news := Ls.drop (m + 1)) rfl HLD.out HCD.out (by have := HLn.out; omega) ?_; intro w9 v9 ho9 hg9)
                      go_roundw
                      case rel => exact ⟨i + 1, _, _, hlt, by go_num, (HPL.out w9 v9 hg9.out ho9.out).1, (HPL.out w9 v9 hg9.out ho9.out).2⟩
                      case measure => simp [intOf]; omega
          · go_wp2_with fail
            go_roundw
            case rel => exact ⟨i + 1, B, Ls, hlt, by go_num, HI3.out.more, HB3.out⟩
            case measure => simp [intOf]; omega

    · obtain rfl : i = Os.length := by omega
      have hiE : ¬ (Os.length : Int) < (Os.length : Int) := by omega
      go_wp2_with (go_at_call 14; refine (alive_any _).mono ?_; rintro e w9 ⟨rfl, hb9⟩; have HB9 := hid2 hb9; clear hb9)
      go_ret
      exact ⟨rfl, HBr.out.trans (HB9.out.mono HBr.out.size)⟩
end Go.Proofs.Ytahkbklhngiloaa
