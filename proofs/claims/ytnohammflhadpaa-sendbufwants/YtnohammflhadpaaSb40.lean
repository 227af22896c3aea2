import Derived.Test.YtnohammflhadpaaSb39
import Derived.Deep.RegionHeld3
import Derived.Deep.CutRange
namespace Go.Proofs.Ytnohammflhadpaa
open Go.RowKit Go.Maps Go.Sort
set_option maxRecDepth 100000

set_option maxHeartbeats 8000000 in
theorem wants_law {w : World} {base room mss edge b r m : Int} (h0 : 0 ≤ base) (h1 : 0 ≤ edge) (h2 : edge ≤ 18446744073709551615) (hb : min base 4611686018427387904 = b) (hr : max 1 (min room 65536) = r) (hm : max 1 (min mss 1024) = m) {ao : Option Addr} {Os : List (OpQ × Wt)} (co : Nat) (hO : OpwAt w ao Os) (hOl : Os.length ≤ 140737488355328) :
    Calls Try.prog 4 #[.agg #[.int .u64 base, .int .i64 room, .int .i64 mss, .int .u64 edge], .slice ao Os.length co] w fun e w' => e = .returned (.bool true) ∧ Below w.heap.size w w' := by
  have hbx : Below w.heap.size w (w.alloc (.cells #[.int .u64 base, .int .i64 room, .int .i64 mss, .int .u64 edge] 24)) := (Below.refl _ _).alloc (Nat.le_refl _) _
  have hR := Row.new w [.int .u64 base, .int .i64 room, .int .i64 mss, .int .u64 edge] 24
  have c0 := hR.cell 0 _ rfl
  have c1 := hR.cell 1 _ rfl
  have c2 := hR.cell 2 _ rfl
  have c3 := hR.cell 3 _ rfl
  have HBX := hid hbx
  have HO := hid hO
  clear hbx hR hO
  obtain ⟨NO, hNO⟩ : ∃ NO, Os.length = NO := ⟨_, rfl⟩
  have HNO := hid hNO
  rw [hNO] at hOl ⊢
  clear hNO
  have hOi : (NO : Int) ≤ 140737488355328 := by omega
  go_enter Try.func4, Try.ntmps4
  go_wp2_with fail
  refine (new_any _ h0 h1 h2 hb hr hm).mono ?_
  rintro e w1 ⟨p, rfl, hs1, hb1, hp1⟩
  have HW1 : Hid (WaS w p (Sb.mk1 b r m edge) (fun _ => False) w1) := ⟨⟨_, bf_new hs1 rfl, fun y hy => by subst hy; exact Nat.le_trans HBX.out.size hp1, fun y hy => hy.elim⟩, ⟨fun c1 => (by cases c1), fun _ => Int.le_refl _⟩, HBX.out.trans (hb1.mono HBX.out.size)⟩
  clear hs1 hb1 hp1 HBX c0 c1 c2 c3 hb hr hm h0 h1 h2
  generalize Sb.mk1 b r m edge = F0 at *
  go_wp2_with (go_at_call 10; refine (awake_any _).mono ?_; rintro e w2 ⟨rfl, hb2⟩; have HW2 := hid (HW1.out.kept hb2); clear hb2)
  clear HW1
  go_loopw [34] (fun s34 wr => ∃ (i : Nat) (F : Sb), i ≤ NO ∧ s34 = .int .i64 i ∧ Hid (WaS w p F (fun _ => False) wr)) (fun s _ => NO - (intOf s).toNat)
  case atStart => exact ⟨0, F0, Nat.zero_le _, rfl, HW2⟩
  case round =>
    obtain ⟨i, F, hi, rfl, HS⟩ := hrel
    clear HW2
    by_cases hlt : i < NO
    · have hii : (i : Int) < NO := by omega
      obtain ⟨g2, o2, rfl, hcl, hed, hda, hok⟩ := HO.out i (by have := HNO.out; omega)
      generalize Os[i]'(by have := HNO.out; omega) = ox at *
      obtain ⟨⟨o0, o1, o2', o3, o4, o5, o6, o7⟩, y⟩ := ox
      simp only at hcl hed hda hok
      subst hda
      have k0 : wr.cell? ⟨g2, o2 + i * 8, none⟩ = some (.int .i64 o0) := cell_kept HS.out.bel (hcl 0 _ rfl)
      have k1 : wr.cell? ⟨g2, o2 + i * 8 + 1, none⟩ = some (.bool o1) := cell_kept HS.out.bel (hcl 1 _ rfl)
      have k2 : wr.cell? ⟨g2, o2 + i * 8 + 2, none⟩ = some (.int .i64 o2') := cell_kept HS.out.bel (hcl 2 _ rfl)
      have k3 : wr.cell? ⟨g2, o2 + i * 8 + 3, none⟩ = some (.int .u64 o3) := cell_kept HS.out.bel (hcl 3 _ rfl)
      have k4 : wr.cell? ⟨g2, o2 + i * 8 + 4, none⟩ = some (.bool o4) := cell_kept HS.out.bel (hcl 4 _ rfl)
      have k5 : wr.cell? ⟨g2, o2 + i * 8 + 5, none⟩ = some (.int .u64 o5) := cell_kept HS.out.bel (hcl 5 _ rfl)
      have k6 : wr.cell? ⟨g2, o2 + i * 8 + 6, none⟩ = some (.int .i64 o6) := cell_kept HS.out.bel (hcl 6 _ rfl)
      have k7 : wr.cell? ⟨g2, o2 + i * 8 + 7, none⟩ = some (.slice y.a y.bs.length y.cap) := cell_kept HS.out.bel (hcl 7 _ rfl)
      have HOK := hid hok
      clear hcl hok
      have hRo := Row.new wr [.int .i64 o0, .bool o1, .int .i64 o2', .int .u64 o3, .bool o4, .int .u64 o5, .int .i64 o6, .slice y.a y.bs.length y.cap] 43
      have HS3 := hid ((HS.out.box (.cells #[.int .i64 o0, .bool o1, .int .i64 o2', .int .u64 o3, .bool o4, .int .u64 o5, .int .i64 o6, .slice y.a y.bs.length y.cap] 43)).less (M := fun z => z = wr.heap.size) (fun z hz => .inr hz))
      have HRO := hid hRo
      clear hRo HS
      go_upto_if 40 with fail
      generalize wr.alloc (.cells #[.int .i64 o0, .bool o1, .int .i64 o2', .int .u64 o3, .bool o4, .int .u64 o5, .int .i64 o6, .slice y.a y.bs.length y.cap] 43) = w3 at *
      clear k0 k1 k2 k3 k4 k5 k6 k7
      generalize wr.heap.size = ob at *
      have q0 := HRO.out.cell 0 _ rfl
      have q1 := HRO.out.cell 1 _ rfl
      have q2 := HRO.out.cell 2 _ rfl
      have q3 := HRO.out.cell 3 _ rfl
      have q4 := HRO.out.cell 4 _ rfl
      have q5 := HRO.out.cell 5 _ rfl
      have q6 := HRO.out.cell 6 _ rfl
      have q7 := HRO.out.cell 7 _ rfl
      go_cut [41] from 38 to 47 (fun _ wx => ∃ F', WaS w p F' (fun z => z = ob) wx ∧ wx.cell? ⟨ob, 0, none⟩ = some (.int .i64 o0))
      case first =>
        by_cases hk1 : o0 = 1
        · subst hk1
          go_wp2_with (go_at_call 11; refine (HS3.out.write HOK.out).mono ?_; rintro e w4 ⟨⟨nn, rfl⟩, F', hA, hN⟩; have HA := hid (And.intro hA (hN ob 0 _ rfl q0)); clear hA hN)
          go_meet
          exact ⟨F', HA.out⟩
        · go_wp2_with (go_at_call 21; refine (HS3.out.play o0 o1 o2' o3 o4 o5 o6 _ hed.1 hed.2).mono ?_; rintro e w4 ⟨rfl, F', hA, hN⟩; have HA := hid (And.intro hA (hN ob 0 _ rfl q0)); clear hA hN)
          go_meet
          exact ⟨F', HA.out⟩
      case rest =>
        obtain ⟨F4, h4, q0'⟩ := hcut
        have HS4 := hid h4
        have HQ0 := hid q0'
        clear h4 q0' q0 q1 q2 q3 q4 q5 q6 q7 HS3 HRO HOK
        go_upto_region 10 with fail
        go_cut [8, 9, 13, 17, 18, 19, 20, 21, 22, 23, 24, 25, 26, 27, 28, 29, 30, 31, 32, 33, 34] from 8 to 52 (fun s8 s9 s13 s17 s18 s19 s20 s21 s22 s23 s24 s25 s26 s27 s28 s29 s30 s31 s32 s33 s34 wx => s13 = undef ∧ s17 = .pointer (some ⟨w.heap.size, 0, none⟩) ∧ s18 = .int .u64 base ∧ s19 = .pointer (some ⟨w.heap.size, 1, none⟩) ∧ s20 = .int .i64 room ∧ s21 = .pointer (some ⟨w.heap.size, 2, none⟩) ∧ s22 = .int .i64 mss ∧ s23 = .pointer (some ⟨w.heap.size, 3, none⟩) ∧ s24 = .int .u64 edge ∧ s25 = .pointer (some ⟨p, 0, none⟩) ∧ s26 = .pointer (some ⟨p, 0, none⟩) ∧ s27 = .bool false ∧ s28 = .bool false ∧ s29 = .bool true ∧ s30 = .bool false ∧ s31 = .bool false ∧ s32 = .slice (some ⟨g2, o2, none⟩) NO co ∧ s33 = .int .i64 NO ∧ s34 = .int .i64 i ∧ ∃ (wb : Nat) (ok : Bool) (wo wl : Int) (fi : Bool) (sa : Option Addr) (sn sc : Nat), s8 = .pointer (some ⟨wb, 0, none⟩) ∧ s9 = .bool ok ∧ WaS w p F4 (fun z => z = ob ∨ z = wb) wx ∧ wx.cell? ⟨ob, 0, none⟩ = some (.int .i64 o0) ∧ Row wx wb [.int .u64 wo, .int .i64 wl, .bool fi, .slice sa sn sc, .bool false] 32 ∧ WInfo F4 ok wo wl fi sn)
        case first =>
          have HWT := hid HS4.out.want
          cases hl : F4.low 255 with
          | none =>
            rw [hl] at HWT
            go_wp2_with fail
            refine HWT.out.mono ?_
            rintro e w5 ⟨hb5, rfl⟩
            have HS5 := hid (HS4.out.kept hb5)
            have HQ5 := hid (cell_kept hb5 HQ0.out)
            clear hb5
            go_wp2_with fail
            go_meet
            exact ⟨rfl, rfl, rfl, rfl, rfl, rfl, rfl, rfl, rfl, rfl, rfl, rfl, rfl, rfl, rfl, rfl, rfl, rfl, rfl, w5.heap.size, false, 0, 0, false, none, 0, 0, rfl, rfl, HS5.out.box _, cell_kept ((Below.refl _ _).alloc (Nat.le_refl _) _) HQ5.out, Row.new w5 [.int .u64 0, .int .i64 0, .bool false, .slice none 0 0, .bool false] 32, winfo_none hl⟩
          | some c =>
            rw [hl] at HWT
            obtain ⟨hwi, hhd⟩ := winfo_some HS4.out.ok hl
            have HWI := hid hwi
            go_wp2_with fail
            refine HWT.out.mono ?_
            rintro e w5 ⟨hb5, s, rfl, hs⟩
            obtain ⟨sa, sc, rfl⟩ := ownI_shape hs
            unfold ChV
            rw [hhd]
            have HS5 := hid (HS4.out.kept hb5)
            have HQ5 := hid (cell_kept hb5 HQ0.out)
            clear hb5 hs hhd hwi HWT
            go_wp2_with fail
            go_meet
            exact ⟨rfl, rfl, rfl, rfl, rfl, rfl, rfl, rfl, rfl, rfl, rfl, rfl, rfl, rfl, rfl, rfl, rfl, rfl, rfl, w5.heap.size, true, c.off, c.bs.length, c.fin, sa, (onUp c.on 8).length, sc, rfl, rfl, HS5.out.box _, cell_kept ((Below.refl _ _).alloc (Nat.le_refl _) _) HQ5.out, Row.new w5 [.int .u64 c.off, .int .i64 c.bs.length, .bool c.fin, .slice sa (onUp c.on 8).length sc, .bool false] 32, HWI.out⟩
        case rest =>
          obtain ⟨rfl, rfl, rfl, rfl, rfl, rfl, rfl, rfl, rfl, rfl, rfl, rfl, rfl, rfl, rfl, rfl, rfl, rfl, rfl, wb, ok, wo, wl, fi, sa, sn, sc, rfl, rfl, h5, q5, hrw, hwi⟩ := hcut
          have HS5 := hid h5
          have HQ5 := hid q5
          have HRW := hid hrw
          have HWI := hid hwi
          clear h5 q5 hrw hwi HS4 HQ0
          go_upto_region 11 with fail
          go_cut [79] from 53 to 79 (fun s79 wx => s79 = .bool false ∧ Below wc.heap.size wc wx)
          case first =>
            cases ok with
            | false =>
              refine wp_region_quiet_below (by kernel_rfl) (by decide +kernel) ?_
              iterate 2 (quiet_step (fail))
              iterate 24 go_big_quiet_skip
              quiet_step (fail)
              refine wpQuiet_nil ?_
              intro _ hw'
              obtain ⟨⟨dq, osq⟩, hw''⟩ := hw'
              subst hw''
              go_wp2_with fail
              go_meet
              exact ⟨rfl, below_regrown wc dq osq⟩
            | true =>
              obtain ⟨k, hk, _, e1, e2, e3, e4, e5, e6, rfl⟩ := HWI.out.yes rfl
              have r0 := cell_regrown (HRW.out.cell 0 _ rfl)
              have r1 := cell_regrown (HRW.out.cell 1 _ rfl)
              have r2 := cell_regrown (HRW.out.cell 2 _ rfl)
              have r3 := cell_regrown (HRW.out.cell 3 _ rfl)
              have r4 := cell_regrown (HRW.out.cell 4 _ rfl)
              have hck := HS5.out.ok.ck _ (List.getElem_mem hk)
              have hb0 : 0 ≤ wo ∧ 0 ≤ wl ∧ wo + wl ≤ 4611686018427387904 := by
                have := hck.o0; have := hck.ol; have := HS5.out.ok.e1
                omega
              cases fi with
              | true =>
                clear hck e1 e2 e3 e4 e5 e6
                refine wp_region_quiet_below (by kernel_rfl) (by decide +kernel) ?_
                iterate 15 (quiet_step (fail))
                iterate 9 go_big_quiet_skip
                iterate 3 (quiet_step (fail))
                refine wpQuiet_nil ?_
                intro _ hw'
                obtain ⟨⟨dq, osq⟩, hw''⟩ := hw'
                subst hw''
                go_wp2_with fail
                go_meet
                exact ⟨rfl, below_regrown wc dq osq⟩
              | false =>
                have hle : wo + wl ≤ F4.edge := by
                  unfold Sb.mayGo at e4
                  rw [if_neg (by rw [e3]; decide)] at e4
                  have := of_decide_eq_true e4
                  unfold Ck.behind at this
                  rw [if_neg (by rw [e3]; decide)] at this
                  omega
                have hgt : ¬ F4.edge < wo + wl := by omega
                have hdg : decide (F4.edge < wo + wl) = false := decide_eq_false hgt
                have hw1 : IntKind.u64.wrap wl = wl := by rw [IntKind.wrap_u64]; omega
                have hw2 : IntKind.u64.wrap (wo + wl) = wo + wl := by rw [IntKind.wrap_u64]; omega
                have HED := hid (toK (n := 22) (args := #[.pointer (some ⟨p, 0, none⟩)]) (v := .int .u64 F4.edge) (w := wc) (fun w' hb => (HS5.out.kept hb).edge.mono (by rintro e w'' ⟨rfl, rfl⟩; exact ⟨rfl, Below.refl _ _⟩)))
                clear hck e1 e2 e3 e4 e5 e6
                refine wp_region_quiet_below (by kernel_rfl) (by decide +kernel) ?_
                iterate 27 (quiet_step (first | (go_at_call 22; exact HED.out _ _)))
                refine wpQuiet_nil ?_
                intro _ hw'
                obtain ⟨⟨dq, osq⟩, hw''⟩ := hw'
                subst hw''
                go_wp2_with fail
                go_meet
                exact ⟨rfl, below_regrown wc dq osq⟩
          case rest =>
            obtain ⟨rfl, hb6⟩ := hcut
            have HS6 := hid (HS5.out.kept hb6)
            have HQ6 := hid (cell_kept hb6 HQ5.out)
            have HRW6 := hid (HRW.out.kept hb6 HRW.out.lt)
            clear hb6 HS5 HQ5 HRW
            obtain ⟨wh, hwh⟩ : ∃ wh, wh = wc := ⟨_, rfl⟩
            rw [← hwh] at HS6 HQ6 HRW6 ⊢
            clear hwh
            go_wp2_with fail
            go_loopw [10] (fun s10 wx => ∃ j : Nat, j ≤ 8 ∧ s10 = .int .i64 j ∧ Hid (WaS w p F4 (fun z => z = ob ∨ z = wb) wx) ∧ Hid (wx.cell? ⟨ob, 0, none⟩ = some (.int .i64 o0)) ∧ Hid (Row wx wb [.int .u64 wo, .int .i64 wl, .bool fi, .slice sa sn sc, .bool false] 32)) (fun s _ => 8 - (intOf s).toNat)
            case atStart => exact ⟨0, by omega, rfl, HS6, HQ6, HRW6⟩
            case round =>
              obtain ⟨j, hj, rfl, HS7, HQ7, HR7⟩ := hrel
              clear HS6 HQ6 HRW6
              by_cases hj8 : j < 8
              · have hji : (j : Int) < 8 := by omega
                have HNX := hid (HS7.out.next j)
                rw [nxt_low F4 hj8] at HNX
                cases hl : F4.low (bit j) with
                | none =>
                  rw [hl] at HNX
                  have hokf : ok = false := by
                    cases ok with
                    | false => rfl
                    | true =>
                      obtain ⟨k, hk, e0, _, _, _, _, e5, e6, _⟩ := HWI.out.yes rfl
                      obtain ⟨d, hd, _⟩ := low_le F4 255 (bit j) F4.L _ e0 (free_zero e5 e6 hj8) HS7.out.ok.so
                      have hd' : F4.low (bit j) = some d := hd
                      rw [hl] at hd'
                      cases hd'
                  subst hokf
                  go_wp2_with fail
                  refine HNX.out.mono ?_
                  rintro e w8 ⟨hb8, rfl⟩
                  have hb9 := hb8.trans (((Below.refl w8.heap.size w8).alloc (Nat.le_refl _) (.cells #[.int .u64 0, .int .i64 0, .bool false, .slice none 0 0, .bool false] 32)).mono hb8.size)
                  have HS9 := hid (HS7.out.kept hb9)
                  have HQ9 := hid (cell_kept hb9 HQ7.out)
                  have HR9 := hid (HR7.out.kept hb9 HR7.out.lt)
                  clear hb8 hb9 HNX
                  go_wp2_with fail
                  go_roundw
                  case rel => exact ⟨j + 1, hj8, by go_num, HS9, HQ9, HR9⟩
                  case measure => simp [intOf]; omega
                | some d =>
                  rw [hl] at HNX
                  obtain ⟨kd, hkd, hde, hgo, hfr⟩ := low_spec F4 (bit j) F4.L d hl
                  obtain ⟨hhd, hon⟩ := free_off hfr
                  have hckd := HS7.out.ok.ck _ (List.getElem_mem hkd)
                  rw [hde] at hckd
                  have hd0 : 0 ≤ d.off ∧ d.off + d.bs.length ≤ 4611686018427387904 := by have := hckd.o0; have := hckd.ol; have := HS7.out.ok.e1; omega
                  have hle : ok = true → ¬ wo < d.off := fun hok => by
                    obtain ⟨k, hk, e0, e1, _, _, _, e5, e6, _⟩ := HWI.out.yes hok
                    obtain ⟨d', hd, hle⟩ := low_le F4 255 (bit j) F4.L _ e0 (free_zero e5 e6 hj8) HS7.out.ok.so
                    have hd' : F4.low (bit j) = some d' := hd
                    rw [hl] at hd'
                    cases hd'
                    omega
                  have HLE := hid hle
                  have HGO := hid hgo
                  have HON := hid hon
                  have HDE := hid hde
                  have HFR := hid hfr
                  clear hle hgo hon hfr hckd
                  go_wp2_with fail
                  refine HNX.out.mono ?_
                  rintro e w8 ⟨hb8, s, rfl, hs⟩
                  obtain ⟨na, nc, rfl⟩ := ownI_shape hs
                  unfold ChV
                  rw [hhd]
                  have hba := (Below.refl w8.heap.size w8).alloc (Nat.le_refl _) (.cells #[.int .u64 d.off, .int .i64 d.bs.length, .bool d.fin, .slice na (onUp d.on 8).length nc, .bool false] 32)
                  have hb9 := hb8.trans (hba.mono hb8.size)
                  have HS9 := hid (HS7.out.kept hb9)
                  have HQ9 := hid (cell_kept hb9 HQ7.out)
                  have HR9 := hid (HR7.out.kept hb9 HR7.out.lt)
                  have HRN := hid (Row.new w8 [.int .u64 d.off, .int .i64 d.bs.length, .bool d.fin, .slice na (onUp d.on 8).length nc, .bool false] 32)
                  have HOI := hid (ownI_kept hs hba)
                  have hwo := HR9.out.cell 0 _ rfl
                  have hno := HRN.out.cell 0 _ rfl
                  clear hs hb8 hb9 hba HNX
                  go_upto_region 17 with fail
                  generalize w8.alloc (.cells #[.int .u64 d.off, .int .i64 d.bs.length, .bool d.fin, .slice na (onUp d.on 8).length nc, .bool false] 32) = wm at *
                  generalize w8.heap.size = nb at *
                  go_cut [101] from 90 to 101 (fun s101 wx => s101 = .bool false ∧ wx = wm)
                  case first =>
                    cases ok with
                    | false =>
                      go_wp2_with fail
                      go_meet
                      exact ⟨rfl, rfl⟩
                    | true =>
                      have hnl : ¬ wo < d.off := by have := HLE.out rfl; omega
                      have hdl : decide (wo < d.off) = false := decide_eq_false hnl
                      go_wp2_with fail
                      go_meet
                      exact ⟨by first | rfl | simp_all, rfl⟩
                  case rest =>
                    obtain ⟨rfl, hwm⟩ := hcut
                    rw [hwm]
                    clear hwm hwo hno
                    go_upto_region 20 with fail
                    have HM1 := hid (toK (n := 24) (args := #[.pointer (some ⟨p, 0, none⟩), .int .i64 (j : Int), .int .u64 d.off, .int .i64 (d.bs.length : Int)]) (v := .bool true) (w := wm) (fun w' hb => by
                      have := (HS9.out.kept hb).mayAt j (d.bs.length : Int) hkd
                      rw [HDE.out, mayOn_yes hj8 HGO.out HFR.out, decide_eq_true rfl] at this
                      exact this))
                    have HM2 := hid (toK (n := 24) (args := #[.pointer (some ⟨p, 0, none⟩), .int .i64 (j : Int), .int .u64 d.off, .int .i64 ((d.bs.length : Int) + 1)]) (v := .bool false) (w := wm) (fun w' hb => by
                      have := (HS9.out.kept hb).mayAt j ((d.bs.length : Int) + 1) hkd
                      rw [HDE.out, decide_eq_false (by omega), Bool.false_and] at this
                      exact this))
                    have HED := hid (toK (n := 22) (args := #[.pointer (some ⟨p, 0, none⟩)]) (v := .int .u64 F4.edge) (w := wm) (fun w' hb => (HS9.out.kept hb).edge.mono (by rintro e w'' ⟨rfl, rfl⟩; exact ⟨rfl, Below.refl _ _⟩)))
                    have hw1 : IntKind.u64.wrap (d.bs.length : Int) = d.bs.length := by rw [IntKind.wrap_u64]; omega
                    have hw2 : IntKind.u64.wrap (d.off + d.bs.length) = d.off + d.bs.length := by rw [IntKind.wrap_u64]; omega
                    have hw3 : IntKind.i64.wrap ((d.bs.length : Int) + 1) = (d.bs.length : Int) + 1 := by rw [IntKind.wrap_i64]; omega
                    go_cut [141] from 104 to 141 (fun s141 wx => s141 = .bool false ∧ Below wm.heap.size wm wx)
                    case first =>
                      have r0 := cell_regrown (HRN.out.cell 0 _ rfl)
                      have r1 := cell_regrown (HRN.out.cell 1 _ rfl)
                      have r2 := cell_regrown (HRN.out.cell 2 _ rfl)
                      have r4 := cell_regrown (HRN.out.cell 4 _ rfl)
                      rcases (show d.fin = true ∨ d.fin = false by cases d.fin <;> simp) with hf | hf
                      · rw [hf] at r2
                        clear hf
                        refine wp_region_quiet_below (by kernel_rfl) (by decide +kernel) ?_
                        iterate 7 (quiet_step (fail))
                        iterate 9 go_big_quiet_skip
                        iterate 10 (quiet_step (first | (go_at_call 24; exact HM1.out _ _)))
                        iterate 12 (quiet_step (first | (go_at_call 24; exact HM2.out _ _)))
                        refine wpQuiet_nil ?_
                        intro _ hw'
                        obtain ⟨⟨dq, osq⟩, hw''⟩ := hw'
                        subst hw''
                        go_wp2_with fail
                        go_meet
                        exact ⟨rfl, below_regrown wm dq osq⟩
                      · have hle : d.off + d.bs.length ≤ F4.edge := by
                          have e4 := HGO.out
                          unfold Sb.mayGo at e4
                          rw [if_neg (by rw [hf]; decide)] at e4
                          have := of_decide_eq_true e4
                          unfold Ck.behind at this
                          rw [if_neg (by rw [hf]; decide)] at this
                          omega
                        have hgt : ¬ F4.edge < d.off + d.bs.length := by omega
                        have hdg : decide (F4.edge < d.off + d.bs.length) = false := decide_eq_false hgt
                        rw [hf] at r2
                        clear hf
                        refine wp_region_quiet_below (by kernel_rfl) (by decide +kernel) ?_
                        iterate 26 (quiet_step (first | (go_at_call 22; exact HED.out _ _) | (go_at_call 24; exact HM1.out _ _)))
                        iterate 12 (quiet_step (first | (go_at_call 24; exact HM2.out _ _)))
                        refine wpQuiet_nil ?_
                        intro _ hw'
                        obtain ⟨⟨dq, osq⟩, hw''⟩ := hw'
                        subst hw''
                        go_wp2_with fail
                        go_meet
                        exact ⟨rfl, below_regrown wm dq osq⟩
                    case rest =>
                      obtain ⟨rfl, hb10⟩ := hcut
                      have HS10 := hid (HS9.out.kept hb10)
                      have HQ10 := hid (cell_kept hb10 HQ9.out)
                      have HR10 := hid (HR9.out.kept hb10 HR9.out.lt)
                      have n3 := (HRN.out.kept hb10 HRN.out.lt).cell 3 _ rfl
                      have HOI10 := hid (ownI_kept HOI.out hb10)
                      clear hb10 HS9 HQ9 HR9 HRN HOI HM1 HM2 HED hw1 hw2 hw3
                      obtain ⟨wz, hwz⟩ : ∃ wz, wz = wc := ⟨_, rfl⟩
                      rw [← hwz] at HS10 HQ10 HR10 n3 HOI10 ⊢
                      clear hwz
                      obtain ⟨K, hK⟩ : ∃ K, (onUp d.on 8).length = K := ⟨_, rfl⟩
                      have hK8 : K ≤ 8 := by have := onUp_len d.on 8; omega
                      rw [hK] at n3
                      have HAT : Hid (∀ t (ht : t < K), ∃ gg q, na = some ⟨gg, 0, none⟩ ∧ wz.cell? ⟨gg, t, none⟩ = some (.int .i64 q) ∧ q ≠ (j : Int)) := fun t ht => by
                        obtain ⟨a', c', e', hrd⟩ := own_rd HOI10.out
                        have ht' : t < (onUp d.on 8).length := by omega
                        obtain ⟨gg, eg, hc⟩ := hrd t (.int .i64 ((onUp d.on 8)[t])) (by rw [List.getElem?_map, List.getElem?_eq_getElem ht']; rfl)
                        cases e'
                        refine ⟨gg, _, eg, hc, fun e => ?_⟩
                        obtain ⟨k, hk8, e2, e3⟩ := onUp_mem (List.getElem_mem ht')
                        rw [e2] at e
                        have : k = j := by omega
                        subst this
                        rw [HON.out] at e3
                        cases e3
                      clear HOI10 hK
                      have hKi : (K : Int) ≤ 8 := by omega
                      go_wp2_with fail
                      go_loopw [145] (fun s145 wx => ∃ t : Nat, t ≤ K ∧ s145 = .int .i64 t ∧ wx = wz) (fun s _ => K - (intOf s).toNat)
                      case atStart => exact ⟨0, Nat.zero_le _, rfl, rfl⟩
                      case round =>
                        obtain ⟨t, ht, rfl, hwx⟩ := hrel
                        rw [hwx]
                        clear hwx
                        by_cases htk : t < K
                        · have hti : (t : Int) < K := by omega
                          obtain ⟨gg, qq, rfl, hc, hqj⟩ := HAT.out t htk
                          have hbq : (qq == (j : Int)) = false := by simpa using hqj
                          go_wp2_with fail
                          go_roundw
                          case rel => exact ⟨t + 1, htk, by go_num, by simp⟩
                          case measure => simp [intOf]; omega
                        · have hti : ¬ (t : Int) < K := by omega
                          go_wp2_with fail
                          go_roundw
                          case rel => exact ⟨j + 1, hj8, by go_num, HS10, HQ10, HR10⟩
                          case measure => simp [intOf]; omega
              · have hji : ¬ (j : Int) < 8 := by omega
                have HNX := hid (HS7.out.next 8)
                rw [nxt_bad F4 (.inr (by decide))] at HNX
                go_wp2_with fail
                refine HNX.out.mono ?_
                rintro e w11 ⟨hb11, rfl⟩
                have hb12 := hb11.trans (((Below.refl w11.heap.size w11).alloc (Nat.le_refl _) (.cells #[.int .u64 0, .int .i64 0, .bool false, .slice none 0 0, .bool false] 32)).mono hb11.size)
                have HS12 := hid (HS7.out.kept hb12)
                have HQ12 := hid (cell_kept hb12 HQ7.out)
                have HR12 := hid (HR7.out.kept hb12 HR7.out.lt)
                have HMB := hid (HS12.out.mayBad (x := -1) (.inl (by decide)) wo wl)
                have v0 := HR12.out.cell 0 _ rfl
                have v1 := HR12.out.cell 1 _ rfl
                clear hb11 hb12 HNX HS7 HQ7 HR7
                go_wp2_with fail
                refine HMB.out.mono ?_
                rintro e w13 ⟨rfl, hb13⟩
                have HS13 := hid (HS12.out.kept hb13)
                have HQ13 := hid (cell_kept hb13 HQ12.out)
                have HR13 := hid (HR12.out.kept hb13 HR12.out.lt)
                clear hb13 HS12 HQ12 HR12 HMB v0 v1
                go_upto_region 31 with fail
                go_cut [198] from 167 to 198 (fun s198 wx => s198 = .bool false ∧ ∃ F', WaS w p F' (fun _ => False) wx)
                case first =>
                  have r0 := cell_regrown HQ13.out
                  cases ok with
                  | false =>
                    refine wp_region_quiet_below (by kernel_rfl) (by decide +kernel) ?_
                    iterate 2 (quiet_step (fail))
                    iterate 3 go_big_quiet_skip
                    iterate 2 (quiet_step (fail))
                    iterate 24 go_big_quiet_skip
                    iterate 1 (quiet_step (fail))
                    refine wpQuiet_nil ?_
                    intro _ hw'
                    obtain ⟨⟨dq, osq⟩, hw''⟩ := hw'
                    subst hw''
                    go_wp2_with fail
                    go_meet
                    exact ⟨rfl, F4, (HS13.out.kept (below_regrown w13 dq osq)).less (fun _ h => h.elim)⟩
                  | true =>
                    by_cases hk11 : o0 = 11
                    · subst hk11
                      obtain ⟨k, hk, _, e1, e2, _, e4, e5, e6, _⟩ := HWI.out.yes rfl
                      have hck := HS13.out.ok.ck _ (List.getElem_mem hk)
                      have hb0 : 0 ≤ wo ∧ 0 ≤ wl ∧ wo + wl ≤ 4611686018427387904 := by
                        have := hck.o0; have := hck.ol; have := HS13.out.ok.e1
                        omega
                      have hmo : F4.mayOn F4.L[k] (bit 7) = true := mayOn_yes (x := 7) (by decide) e4 (free_zero (x := 7) e5 e6 (by decide))
                      have HSN : Hid (∀ W, Below w13.heap.size w13 W → Calls Try.prog 17 #[.pointer (some ⟨p, 0, none⟩), .int .i64 7, .int .u64 wo] W fun e w' => e = .returned (.bool true) ∧ WaS w p (F4.sent k F4.L[k] (bit 7)) (fun z => z = ob ∨ z = wb) w' ∧ SameN (fun z => z = ob ∨ z = wb) W w') := fun W hW => by
                        have := (HS13.out.kept hW).sent 7 hk hmo
                        rw [e1] at this
                        exact this
                      have hkG : k < (F4.sent k F4.L[k] (bit 7)).L.length := by show k < (F4.L.set k _).length; rw [List.length_set]; exact hk
                      have hGk : (F4.sent k F4.L[k] (bit 7)).L[k]'hkG = F4.L[k].go (bit 7) := by show (F4.L.set k _)[k]'(by rw [List.length_set]; exact hk) = _; rw [List.getElem_set_self]
                      have HMY : Hid (∀ W, WaS w p (F4.sent k F4.L[k] (bit 7)) (fun z => z = ob ∨ z = wb) W → Calls Try.prog 24 #[.pointer (some ⟨p, 0, none⟩), .int .i64 7, .int .u64 wo, .int .i64 wl] W fun e w' => e = .returned (.bool false) ∧ Below W.heap.size W w') := fun W hW => by
                        have := hW.mayAt 7 wl hkG
                        rw [hGk] at this
                        have hoff : (F4.L[k].go (bit 7)).off = wo := e1
                        have hno : (F4.sent k F4.L[k] (bit 7)).mayOn (F4.L[k].go (bit 7)) (bit 7) = false := by
                          unfold Sb.mayOn Ck.free
                          have : (F4.L[k].go (bit 7)).on = bits BinOp.or IntKind.u8 0 (bit 7) := by show bits BinOp.or IntKind.u8 F4.L[k].on (bit 7) = _; rw [e6]
                          rw [this, show (bits BinOp.and IntKind.u8 (bits BinOp.or IntKind.u8 0 (bit 7)) (bit 7) == 0) = false by decide]
                          simp
                        rw [hoff, hno, Bool.and_false] at this
                        exact this
                      have HHI : Hid (∀ W, WaS w p (F4.sent k F4.L[k] (bit 7)) (fun z => z = ob ∨ z = wb) W → Calls Try.prog 16 #[.pointer (some ⟨p, 0, none⟩)] W fun e w' => e = .returned (.int .u64 (max F4.high (wo + wl))) ∧ w' = W) := fun W hW => by
                        have := hW.high
                        rw [show (F4.sent k F4.L[k] (bit 7)).high = max F4.high (F4.L[k].off + F4.L[k].bs.length) from rfl, e1, e2] at this
                        exact this
                      have hw1 : IntKind.u64.wrap wl = wl := by rw [IntKind.wrap_u64]; omega
                      have hw2 : IntKind.u64.wrap (wo + wl) = wo + wl := by rw [IntKind.wrap_u64]; omega
                      have hnlt : ¬ max F4.high (wo + wl) < wo + wl := by omega
                      have hdlt : decide (max F4.high (wo + wl) < wo + wl) = false := decide_eq_false hnlt
                      have d0 := HQ13.out
                      have d1 := HR13.out.cell 0 _ rfl
                      have d2 := HR13.out.cell 1 _ rfl
                      generalize F4.sent k F4.L[k] (bit 7) = G at *
                      clear r0 e1 e2 e4 e5 e6 hmo hck hkG hGk
                      go_region_held3 (fun w' => w'.cell? ⟨ob, 0, none⟩ = some (.int .i64 11) ∧ w'.cell? ⟨wb, 0, none⟩ = some (.int .u64 wo) ∧ w'.cell? ⟨wb, 1, none⟩ = some (.int .i64 wl)) (go_keep)
                        (first
                          | (go_at_call 17; refine Calls.mono (HSN.out _ (below_drewN (Below.refl _ _) 1)) ?_; rintro e w20 ⟨rfl, hs20, hn20⟩; have f0 := hn20 ob 0 _ (.inl rfl) d0; have f1 := hn20 wb 0 _ (.inr rfl) d1; have f2 := hn20 wb 1 _ (.inr rfl) d2; have HS20 := hid hs20; have HF := hid (And.intro f0 (And.intro f1 f2)); clear hs20 hn20)
                          | (go_at_call 24; refine Calls.mono (HMY.out _ HS20.out) ?_; rintro e w21 ⟨rfl, hb21⟩; have g0 := cell_kept hb21 HF.out.1; have g1 := cell_kept hb21 HF.out.2.1; have g2 := cell_kept hb21 HF.out.2.2; have HS21 := hid (HS20.out.kept hb21); clear hb21)
                          | (go_at_call 16; refine Calls.mono (HHI.out _ HS21.out) ?_; rintro e w22 ⟨rfl, h22⟩; rw [h22]; clear h22))
                      all_goals (go_wp2_with fail; go_meet; exact ⟨rfl, G, HS21.out.less (fun _ h => h.elim)⟩)
                    · have hbk : (o0 == 11) = false := by simpa using hk11
                      refine wp_region_quiet_below (by kernel_rfl) (by decide +kernel) ?_
                      iterate 7 (quiet_step (fail))
                      iterate 24 go_big_quiet_skip
                      iterate 1 (quiet_step (fail))
                      refine wpQuiet_nil ?_
                      intro _ hw'
                      obtain ⟨⟨dq, osq⟩, hw''⟩ := hw'
                      subst hw''
                      go_wp2_with fail
                      go_meet
                      exact ⟨rfl, F4, (HS13.out.kept (below_regrown w13 dq osq)).less (fun _ h => h.elim)⟩
                case rest =>
                  obtain ⟨rfl, F', hA⟩ := hcut
                  have HA := hid hA
                  clear hA
                  go_wp2_with fail
                  go_roundw
                  case rel => exact ⟨i + 1, F', hlt, by go_num, HA⟩
                  case measure => simp [intOf]; omega
    · have hii : ¬ (i : Int) < NO := by omega
      go_wp2_with fail
      go_ret
      exact ⟨rfl, HS.out.bel⟩
end Go.Proofs.Ytnohammflhadpaa
