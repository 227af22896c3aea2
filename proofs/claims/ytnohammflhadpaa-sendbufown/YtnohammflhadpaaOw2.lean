import Derived.Test.YtnohammflhadpaaOw1
import Derived.Deep.CutRange
import Derived.BigQuiet
namespace Go.Proofs.Ytnohammflhadpaa
open Go.RowKit Go.Maps Go.Sort
set_option maxRecDepth 100000

set_option maxHeartbeats 8000000 in
theorem own_law {w : World} {base room mss e0 b r m : Int} (h0 : 0 ≤ base) (hb : min base 4611686018427387904 = b) (hr : max 1 (min room 65536) = r) (hm : max 1 (min mss 1024) = m) {yd : Wt} (hy : yd.Ok w) {ap : Option Addr} {ps : List Int} (cp : Nat) (hP : Ix.IntsIn w ap ps) (hpl : ps.length ≤ 140737488355328) :
    Calls Try.prog 5 #[.agg #[.int .u64 base, .int .i64 room, .int .i64 mss, .int .u64 e0], .slice yd.a yd.bs.length yd.cap, .slice ap ps.length cp] w fun e w' => e = .returned (.bool true) ∧ Below w.heap.size w w' := by
  have hbx : Below w.heap.size w (w.alloc (.cells #[.int .u64 base, .int .i64 room, .int .i64 mss, .int .u64 e0] 24)) := (Below.refl _ _).alloc (Nat.le_refl _) _
  have hR := Row.new w [.int .u64 base, .int .i64 room, .int .i64 mss, .int .u64 e0] 24
  have c0 := hR.cell 0 _ rfl
  have c1 := hR.cell 1 _ rfl
  have c2 := hR.cell 2 _ rfl
  have HBX := hid hbx
  have HP := hid hP
  have HY := hid hy
  clear hbx hR hP hy
  obtain ⟨NP, hNP⟩ : ∃ NP, ps.length = NP := ⟨_, rfl⟩
  have HNP := hid hNP
  rw [hNP] at hpl ⊢
  clear hNP
  have hpi : (NP : Int) ≤ 140737488355328 := by omega
  go_enter Try.func5, Try.ntmps5
  go_wp2_with fail
  refine (new_any _ h0 (by decide) (by decide) hb hr hm).mono ?_
  rintro e w1 ⟨p, rfl, hs1, hb1, hp1⟩
  have HW1 : Hid (OpS w p (Sb.mk1 b r m 9223372036854775808) w1) := ⟨⟨_, bf_new hs1 rfl, fun y hy => by subst hy; exact Nat.le_trans HBX.out.size hp1⟩, rfl, Int.le_refl _, HBX.out.trans (hb1.mono HBX.out.size)⟩
  clear hs1 hb1 hp1 HBX c0 c1 c2 hb hr hm h0
  generalize Sb.mk1 b r m 9223372036854775808 = F0 at *
  go_wp2_with (first | (go_at_call 10; refine (awake_any _).mono ?_; rintro e w2 ⟨rfl, hb2⟩; have HW2 := hid (HW1.out.kept hb2); clear hb2) | (go_at_call 11; refine (HW2.out.write HY.out).mono ?_; rintro e w3 ⟨⟨nn, rfl⟩, F1, h3⟩; have HW3 := hid h3; clear h3))
  clear HW1 HW2
  go_loopw [44] (fun s44 wr => ∃ (i : Nat) (F : Sb), i ≤ NP ∧ s44 = .int .i64 i ∧ Hid (OpS w p F wr)) (fun s _ => NP - (intOf s).toNat)
  case atStart => exact ⟨0, F1, Nat.zero_le _, rfl, HW3⟩
  case round =>
    obtain ⟨i, F, hi, rfl, HS⟩ := hrel
    clear HW3
    by_cases hlt : i < NP
    · have hii : (i : Int) < NP := by omega
      obtain ⟨g2, o2, rfl, hcl⟩ := HP.out i (by have := HNP.out; omega)
      generalize ps[i]'(by have := HNP.out; omega) = x at *
      replace hcl := cell_kept HS.out.bel hcl
      have HNX := hid (HS.out.next x)
      go_wp2_with fail
      refine HNX.out.mono ?_
      rintro e w4 ⟨off, len, fin, a, l, c, held, okk, rfl, _, _, hb4⟩
      have hb5 := hb4.trans (((Below.refl w4.heap.size w4).alloc (Nat.le_refl _) (.cells #[.int .u64 off, .int .i64 len, .bool fin, .slice a l.length c, .bool held] 32)).mono hb4.size)
      have HS5 := hid (HS.out.kept hb5)
      have q0 := (Row.new w4 [.int .u64 off, .int .i64 len, .bool fin, .slice a l.length c, .bool held] 32).cell 0 _ rfl
      clear hb4 hb5 HNX hcl
      cases okk with
      | false =>
        go_wp2_with fail
        go_roundw
        case rel => exact ⟨i + 1, F, hlt, by go_num, HS5⟩
        case measure => simp [intOf]; omega
      | true =>
        go_wp2_with (go_at_call 17; refine (HS5.out.sent x off).mono ?_; rintro e w6 ⟨⟨bb, rfl⟩, F6, h6⟩; have HS6 := hid h6; clear h6)
        go_roundw
        case rel => exact ⟨i + 1, F6, hlt, by go_num, HS6⟩
        case measure => simp [intOf]; omega
    · have hii : ¬ (i : Int) < NP := by omega
      obtain ⟨NL, hNL⟩ : ∃ n, F.L.length = n := ⟨_, rfl⟩
      have HNL := hid hNL
      have hnl : (NL : Int) ≤ 65537 := by have := HS.out.ok.nl; omega
      have HCH : Hid (∀ W, Below wr.heap.size wr W → Calls Try.prog 19 #[.pointer (some ⟨p, 0, none⟩)] W fun e w' => ∃ v X, e = .returned v ∧ w'.ownsRow W.heap.size 32 5 v NL X ∧ ChZ w' W.heap.size F.L X ∧ Below W.heap.size W w') := fun W hW => by rw [← hNL]; exact (HS.out.kept hW).chunks
      clear hNL
      go_upto_region 13 with (go_at_call 19; refine (HCH.out _ (Below.refl _ _)).mono ?_; rintro e wl ⟨u12, X12, rfl, ho12, hz12, hb12⟩; obtain ⟨a12, c12, rfl, hrd12⟩ := own_rd ho12; have HRD := hid hrd12; have HZ := hid hz12; have HBL := hid hb12; clear ho12 hrd12 hz12 hb12)
      have HSL := hid (HS.out.kept HBL.out)
      have HCL : Hid (∀ W, Below wl.heap.size wl W → Calls Try.prog 19 #[.pointer (some ⟨p, 0, none⟩)] W fun e w' => ∃ v X, e = .returned v ∧ w'.ownsRow W.heap.size 32 5 v NL X ∧ ChZ w' W.heap.size F.L X ∧ Below W.heap.size W w') := fun W hW => HCH.out W (HBL.out.trans (hW.mono HBL.out.size))
      have HB0 : Hid (Below wl.heap.size wl ((wl.alloc (.cells #[.slice none 0 0, .slice none 0 0] 50)).alloc (.cells #[.slice none 0 0, .slice none 0 0] 53))) := ((Below.refl _ _).alloc (Nat.le_refl _) _).alloc (by simp) _
      have HTB : Hid (Tx.TB wl.heap.size wl.heap.size 65536 ((wl.alloc (.cells #[.slice none 0 0, .slice none 0 0] 50)).alloc (.cells #[.slice none 0 0, .slice none 0 0] 53)) []) := (Tx.TB.new wl (Nat.le_refl _)).below ((Below.refl _ _).alloc (Nat.le_refl _) _)
      have HIB : Hid (Ix.IB wl.heap.size (wl.heap.size + 1) 8 ((wl.alloc (.cells #[.slice none 0 0, .slice none 0 0] 50)).alloc (.cells #[.slice none 0 0, .slice none 0 0] 53)) []) := by
        have h := Ix.IB.new (B := wl.heap.size) (m := 8) (wl.alloc (.cells #[.slice none 0 0, .slice none 0 0] 50)) (by simp)
        rw [show (wl.alloc (.cells #[.slice none 0 0, .slice none 0 0] 50)).heap.size = wl.heap.size + 1 by simp] at h
        exact h
      clear HCH HBL HS
      go_upto_region 15 with fail
      generalize (wl.alloc (.cells #[.slice none 0 0, .slice none 0 0] 50)).alloc (.cells #[.slice none 0 0, .slice none 0 0] 53) = wz at *
      go_wp2_with fail
      go_loopw [15] (fun s15 wx => ∃ (t : Nat) (X X' : List Value), t ≤ 3 ∧ s15 = .int .i64 t ∧ Hid (X.length ≤ t * 65537) ∧ Hid (X'.length ≤ t * 65539) ∧ Hid (Tx.TB wl.heap.size wl.heap.size 65536 wx X) ∧ Hid (Ix.IB wl.heap.size (wl.heap.size + 1) 8 wx X') ∧ Hid (Below wl.heap.size wl wx)) (fun s _ => 3 - (intOf s).toNat)
      case atStart => exact ⟨0, [], [], Nat.zero_le _, rfl, hid (Nat.zero_le _), hid (Nat.zero_le _), HTB, HIB, HB0⟩
      case round =>
        obtain ⟨t, X, X', ht, rfl, HXl, HXl', HT, HI, HBt⟩ := hrel
        clear HTB HIB HB0
        obtain ⟨wx, hwx⟩ : ∃ x, x = wr := ⟨_, rfl⟩
        rw [← hwx] at HT HI HBt ⊢
        clear hwx
        by_cases ht3 : t < 3
        · have hti : (t : Int) < 3 := by omega
          go_wp2_with (go_at_call 19; refine (HCL.out _ HBt.out).mono ?_; rintro e w4 ⟨u68, X4, rfl, ho4, hz4, hb4⟩; obtain ⟨a68, c68, rfl⟩ := Tx.row_slice ho4; have HO4 := hid ho4; have HZ4 := hid hz4; have HT4 := hid (HT.out.below hb4); have HI4 := hid (HI.out.below hb4); have HB4 := hid (HBt.out.trans (hb4.mono HBt.out.size)); have HAP4 : Hid (∀ n (hn : n < X'.length) g, X'[n].ownBlock = some g → g < wx.heap.size ∨ ∃ k u, k < 0 ∧ X4[k * 5 + 3]? = some u ∧ u.ownBlock = some g) := (fun n hn g e => .inl (HI.out.lt hn e)); clear ho4 hz4 hb4)
          have hs4 : wl.heap.size ≤ wx.heap.size := HBt.out.size
          clear HT HI HBt
          go_loopw [70] (fun s70 wy => ∃ (j : Nat) (X1 X1' : List Value), j ≤ NL ∧ s70 = .int .i64 j ∧ Hid (X1.length ≤ t * 65537 + j) ∧ Hid (X1'.length ≤ t * 65539 + j) ∧ Hid (Tx.TB wl.heap.size wl.heap.size 65536 wy X1) ∧ Hid (Ix.IB wl.heap.size (wl.heap.size + 1) 8 wy X1') ∧ Hid (Below wl.heap.size wl wy) ∧ Hid (wy.ownsRow wx.heap.size 32 5 (.slice a68 NL c68) NL X4) ∧ Hid (ChZ wy wx.heap.size F.L X4) ∧ Hid (∀ n (hn : n < X1'.length) g, X1'[n].ownBlock = some g → g < wx.heap.size ∨ ∃ k u, k < j ∧ X4[k * 5 + 3]? = some u ∧ u.ownBlock = some g)) (fun s _ => NL - (intOf s).toNat)
          case atStart => exact ⟨0, X, X', Nat.zero_le _, rfl, hid (Nat.le_trans HXl.out (Nat.le_add_right _ 0)), hid (Nat.le_trans HXl'.out (Nat.le_add_right _ 0)), HT4, HI4, HB4, HO4, HZ4, HAP4⟩
          case round =>
            obtain ⟨j, X1, X1', hj, rfl, HL1, HL1', HT1, HI1, HB1, HO1, HZ1, HA1⟩ := hrel
            clear HT4 HI4 HB4 HO4 HZ4 HAP4
            obtain ⟨wy, hwy⟩ : ∃ x, x = wr := ⟨_, rfl⟩
            rw [← hwy] at HT1 HI1 HB1 HO1 HZ1 ⊢
            clear hwy
            by_cases hjl : j < NL
            · have hji : (j : Int) < NL := by omega
              have hjL : j < F.L.length := by have := HNL.out; omega
              obtain ⟨x0, x1, x2, x4, s3, x3, hs3⟩ := HZ1.out.at_ j hjL
              obtain ⟨sa, sc, rfl⟩ := ownI_shape hs3
              have hl8 := onUp_len F.L[j].on 8
              obtain ⟨li, hli⟩ : ∃ l, onUp F.L[j].on 8 = l := ⟨_, rfl⟩
              rw [hli] at hs3 x3 hl8
              clear hli
              obtain ⟨a', c', e', hrd⟩ := own_rd HO1.out
              cases e'
              obtain ⟨g68, rfl, m0⟩ := hrd _ _ x0
              obtain ⟨_, e1, m1⟩ := hrd _ _ x1
              cases e1
              obtain ⟨_, e2, m2⟩ := hrd _ _ x2
              cases e2
              obtain ⟨_, e3, m3⟩ := hrd _ _ x3
              cases e3
              obtain ⟨_, e4, m4⟩ := hrd _ _ x4
              cases e4
              have hba := (Below.refl wy.heap.size wy).alloc (Nat.le_refl _) (.cells #[.int .u64 F.L[j].off, .int .i64 F.L[j].bs.length, .bool F.L[j].fin, .slice sa li.length sc, .bool F.L[j].held] 32)
              have HRB := hid (Row.new wy [.int .u64 F.L[j].off, .int .i64 F.L[j].bs.length, .bool F.L[j].fin, .slice sa li.length sc, .bool F.L[j].held] 32)
              have HTb := hid (HT1.out.below hba)
              have HIb := hid (HI1.out.below hba)
              have HOb := hid (Tx.own_stay HO1.out (Tx.stay_below hba))
              have HZb := hid (HZ1.out.kept hba)
              have HBb := hid (HB1.out.trans (hba.mono HB1.out.size))
              have HOV := hid (Tx.own_mono (Tx.own_stay hs3 (Tx.stay_below hba)) hs4)
              have HAPV : Hid (∀ n (hn : n < X1'.length) g, X1'[n].ownBlock = some g → (Value.slice sa li.length sc).ownBlock ≠ some g) := fun n hn g e e' => by
                rcases HA1.out n hn g e with h1 | ⟨k, u, hk, hu, hg⟩
                · have := ownI_ge hs3 e'
                  omega
                · exact HZ1.out.ap k j u _ g hk hu x3 hg e'
              have HX3 := hid x3
              obtain ⟨off, hoff⟩ : ∃ o, F.L[j].off = o := ⟨_, rfl⟩
              have HOFF := hid hoff
              have HPOS := hid (HSL.out.pos hjL)
              rw [hoff] at m0 HRB HTb HIb HOb HZb HBb HOV
              clear x0 x1 x2 x3 x4 hs3 hrd hba hoff HT1 HI1 HO1 HZ1 HB1
              go_upto_region 21 with fail
              generalize F.L[j].held = hd1 at *
              generalize F.L[j].fin = fi1 at *
              generalize wy.alloc (.cells #[.int .u64 off, .int .i64 F.L[j].bs.length, .bool fi1, .slice sa li.length sc, .bool hd1] 32) = wb at *
              generalize wy.heap.size = cb at *
              clear m0 m1 m2 m3 m4
              have q3 := HRB.out.cell 3 _ rfl
              have hlb : X1'.length ≤ 1000000000 := by have := HL1'.out; omega
              have hlb1 : X1.length ≤ 1000000000 := by have := HL1.out; omega
              have HKI := hid (HIb.out.keep HOV.out HAPV.out hl8 (by decide) (by omega))
              go_upto_region 22 with (go_at_call 25; refine HKI.out.mono ?_; rintro e w6 ⟨rfl, hI6, hst6, hb6⟩; have HI6 := hid hI6; have HST6 := hid hst6; have HBS6 := hid hb6; clear hI6 hst6 hb6)
              have HT6 := hid (HTb.out.stay (HST6.out 5 (by decide) (by decide)) (HST6.out 25 (by decide) (by decide)) (HST6.out 50 (by decide) (by decide)) HBS6.out.size)
              have HO6 := hid (Tx.own_stay HOb.out (HST6.out 32 (by decide) (by decide)))
              have HZ6 := hid (HZb.out.stay (HST6.out 3 (by decide) (by decide)))
              have HR6 := hid (HRB.out.stay (HST6.out 32 (by decide) (by decide)))
              have HB6 := hid (HBb.out.trans HBS6.out)
              have HA6 : Hid (∀ n (hn : n < (X1' ++ [Value.slice sa li.length sc]).length) g, (X1' ++ [Value.slice sa li.length sc])[n].ownBlock = some g → g < wx.heap.size ∨ ∃ k u, k < j + 1 ∧ X4[k * 5 + 3]? = some u ∧ u.ownBlock = some g) := fun n hn g e => by
                by_cases hn' : n < X1'.length
                · rw [List.getElem_append_left hn'] at e
                  rcases HA1.out n hn' g e with h1 | ⟨k, u, hk, hu, hg⟩
                  · exact .inl h1
                  · exact .inr ⟨k, u, by omega, hu, hg⟩
                · have hn2 : n = X1'.length := by simp at hn; omega
                  subst hn2
                  rw [List.getElem_concat_length rfl] at e
                  exact .inr ⟨j, _, by omega, HX3.out, e⟩
              have HL6 : Hid ((X1' ++ [Value.slice sa li.length sc]).length ≤ t * 65539 + (j + 1)) := by show _ ≤ _; rw [List.length_append, List.length_singleton, ← Nat.add_assoc]; exact Nat.succ_le_succ HL1'.out
              have q0 := HR6.out.cell 0 _ rfl
              clear q3 HKI HTb HIb HOb HZb HBb HOV HAPV HST6 HBS6 HA1 HX3 HRB
              go_cut [83] from 78 to 83 (fun s83 wq => s83 = .bool (decide (t ≠ 1 ∨ j = 0)) ∧ wq = w6)
              case first =>
                by_cases h1 : t = 1
                · subst h1
                  by_cases h2 : j = 0
                  · subst h2
                    go_wp2_with fail
                    go_meet
                    exact ⟨rfl, rfl⟩
                  · have h2i : ((j : Int) == 0) = false := by simpa using h2
                    go_wp2_with fail
                    go_meet
                    exact ⟨congrArg Value.bool (by simp [h2]), rfl⟩
                · have h1i : ((t : Int) == 1) = false := by simp; omega
                  go_wp2_with fail
                  go_meet
                  exact ⟨congrArg Value.bool (by simp [h1]), rfl⟩
              case rest =>
                obtain ⟨rfl, hwq⟩ := hcut
                rw [hwq]
                clear hwq
                by_cases hc : t ≠ 1 ∨ j = 0
                · rw [decide_eq_true hc]
                  have HBY : Hid (Calls Try.prog 27 #[.pointer (some ⟨p, 0, none⟩), .int .u64 off] w6 fun e w' => ∃ v, e = .returned v ∧ w'.ownsRow w6.heap.size 5 1 v F.L[j].bs.length (bcells F.L[j].bs) ∧ Below w6.heap.size w6 w') := by
                    have := (HSL.out.kept HB6.out).bytes hjL
                    rw [HOFF.out] at this
                    exact this
                  go_wp2_with fail
                  refine HBY.out.mono ?_
                  rintro e w7 ⟨v7, rfl, ho7, hb7⟩
                  obtain ⟨a7, c7, rfl⟩ := Tx.row_slice ho7
                  have HKT := hid ((HT6.out.below hb7).keep (Tx.own_mono ho7 HT6.out.le) (fun n hn g e e' => by have h1 := HT6.out.lt hn e; have h2 := own_ge ho7 e'; omega) HPOS.out.2 (by decide) (by omega))
                  have HI7 := hid (HI6.out.below hb7)
                  have HO7 := hid (Tx.own_stay HO6.out (Tx.stay_below hb7))
                  have HZ7 := hid (HZ6.out.kept hb7)
                  have HB7 := hid (HB6.out.trans (hb7.mono HB6.out.size))
                  clear ho7 hb7 HBY HT6 HI6 HO6 HZ6 HB6 HR6 q0
                  go_wp2_with (go_at_call 26; refine HKT.out.mono ?_; rintro e w8 ⟨rfl, hT8, hst8, hb8⟩; have HT8 := hid hT8; have HST8 := hid hst8; have HBS8 := hid hb8; clear hT8 hst8 hb8)
                  go_roundw
                  case rel => exact ⟨j + 1, _, _, hjl, by go_num, hid (by rw [List.length_append, List.length_singleton, ← Nat.add_assoc]; exact Nat.succ_le_succ HL1.out), HL6, HT8, hid (HI7.out.stay (HST8.out 3 (by decide) (by decide)) (HST8.out 30 (by decide) (by decide)) (HST8.out 53 (by decide) (by decide)) HBS8.out.size), hid (HB7.out.trans HBS8.out), hid (Tx.own_stay HO7.out (HST8.out 32 (by decide) (by decide))), hid (HZ7.out.stay (HST8.out 3 (by decide) (by decide))), HA6⟩
                  case measure => simp [intOf]; omega
                · rw [decide_eq_false hc]
                  go_wp2_with fail
                  go_roundw
                  case rel => exact ⟨j + 1, X1, _, hjl, by go_num, hid (Nat.le_trans HL1.out (by omega)), HL6, HT6, HI6, HB6, HO6, HZ6, HA6⟩
                  case measure => simp [intOf]; omega
            · have hji : ¬ (j : Int) < NL := by omega
              have HSx := hid (HSL.out.kept HB1.out)
              go_wp2_with fail
              refine HSx.out.want.mono ?_
              rintro e w9 ⟨off, len, fin, a9, l9, c9, held, ok9, rfl, ho9, hl9, hb9⟩
              have hba := (Below.refl w9.heap.size w9).alloc (Nat.le_refl _) (.cells #[.int .u64 off, .int .i64 len, .bool fin, .slice a9 l9.length c9, .bool held] 32)
              have HRA := hid (Row.new w9 [.int .u64 off, .int .i64 len, .bool fin, .slice a9 l9.length c9, .bool held] 32)
              have hbA := hb9.trans (hba.mono hb9.size)
              have HO9 := hid (Tx.own_stay ho9 (Tx.stay_below hba))
              have HTA := hid (HT1.out.below hbA)
              have HIA := hid (HI1.out.below hbA)
              have HBA := hid (HB1.out.trans (hbA.mono HB1.out.size))
              have HSA := hid (HSx.out.kept hbA)
              have HLTA : Hid (∀ n (hn : n < X1'.length) g, X1'[n].ownBlock = some g → g < wy.heap.size) := fun n hn g e => HI1.out.lt hn e
              have hsA : wl.heap.size ≤ wy.heap.size := HB1.out.size
              clear hb9 ho9 hba hbA HSx HT1 HI1 HB1 HO1 HZ1 HA1
              go_upto_region 26 with fail
              generalize w9.alloc (.cells #[.int .u64 off, .int .i64 len, .bool fin, .slice a9 l9.length c9, .bool held] 32) = wA at *
              generalize w9.heap.size = b18 at *
              go_wp2_with fail
              refine (HSA.out.next 0).mono ?_
              rintro e w10 ⟨off2, len2, fin2, a10, l10, c10, held2, ok10, rfl, ho10, hl10, hb10⟩
              have hba := (Below.refl w10.heap.size w10).alloc (Nat.le_refl _) (.cells #[.int .u64 off2, .int .i64 len2, .bool fin2, .slice a10 l10.length c10, .bool held2] 32)
              have HRB2 := hid (Row.new w10 [.int .u64 off2, .int .i64 len2, .bool fin2, .slice a10 l10.length c10, .bool held2] 32)
              have hbB := hb10.trans (hba.mono hb10.size)
              have HRA2 := hid (HRA.out.kept hbB HRA.out.lt)
              have HO92 := hid (Tx.own_stay HO9.out (Tx.stay_below hbB))
              have HO10 := hid (Tx.own_stay ho10 (Tx.stay_below hba))
              have HTB2 := hid (HTA.out.below hbB)
              have HIB2 := hid (HIA.out.below hbB)
              have HBB2 := hid (HBA.out.trans (hbB.mono HBA.out.size))
              have HLT9 : Hid (∀ g, (Value.slice a9 l9.length c9).ownBlock = some g → g < wA.heap.size) := fun g e => own_lt HO9.out e
              have HLTX : Hid (∀ n (hn : n < X1'.length) g, X1'[n].ownBlock = some g → g < wA.heap.size) := fun n hn g e => HIA.out.lt hn e
              have hsA2 : wl.heap.size ≤ wA.heap.size := HBA.out.size
              clear hb10 ho10 hba hbB HRA HO9 HTA HIA HBA HSA
              go_upto_region 27 with fail
              generalize w10.alloc (.cells #[.int .u64 off2, .int .i64 len2, .bool fin2, .slice a10 l10.length c10, .bool held2] 32) = wB at *
              generalize w10.heap.size = b20 at *
              have q3 := HRA2.out.cell 3 _ rfl
              have hlb : X1'.length ≤ 1000000000 := by have := HL1'.out; omega
              have HK1 := hid (HIB2.out.keep (Tx.own_mono HO92.out hsA) (fun n hn g e e' => by have h1 := HLTA.out n hn g e; have h2 := own_ge HO92.out e'; omega) hl9 (by decide) (by omega))
              go_upto_region 28 with (go_at_call 25; refine HK1.out.mono ?_; rintro e w11 ⟨rfl, hI11, hst11, hb11⟩; have HI11 := hid hI11; have HST11 := hid hst11; have HBS11 := hid hb11; clear hI11 hst11 hb11)
              have HR11 := hid (HRB2.out.stay (HST11.out 32 (by decide) (by decide)))
              have HT11 := hid (HTB2.out.stay (HST11.out 5 (by decide) (by decide)) (HST11.out 25 (by decide) (by decide)) (HST11.out 50 (by decide) (by decide)) HBS11.out.size)
              have HB11 := hid (HBB2.out.trans HBS11.out)
              have HO11 := hid (Tx.own_stay HO10.out (HST11.out 3 (by decide) (by decide)))
              clear q3 HK1 HST11 HBS11 HRA2 HRB2 HO92 HO10 HTB2 HIB2 HBB2
              have q3 := HR11.out.cell 3 _ rfl
              have HK2 := hid (HI11.out.keep (Tx.own_mono HO11.out hsA2) (fun n hn g e e' => by
                have h2 := own_ge HO11.out e'
                by_cases hn' : n < X1'.length
                · rw [List.getElem_append_left hn'] at e
                  have h1 := HLTX.out n hn' g e
                  omega
                · have hn2 : n = X1'.length := by simp at hn; omega
                  subst hn2
                  rw [List.getElem_concat_length rfl] at e
                  have h1 := HLT9.out g e
                  omega) hl10 (by decide) (by simp; omega))
              go_wp2_with (go_at_call 25; refine HK2.out.mono ?_; rintro e w12 ⟨rfl, hI12, hst12, hb12⟩; have HI12 := hid hI12; have HST12 := hid hst12; have HBS12 := hid hb12; clear hI12 hst12 hb12)
              go_roundw
              case rel => exact ⟨t + 1, X1, _, ht3, by go_num, hid (by have := HL1.out; omega), hid (by have := HL1'.out; simp only [List.length_append, List.length_singleton]; omega), hid (HT11.out.stay (HST12.out 5 (by decide) (by decide)) (HST12.out 25 (by decide) (by decide)) (HST12.out 50 (by decide) (by decide)) HBS12.out.size), HI12, hid (HB11.out.trans HBS12.out)⟩
              case measure => simp [intOf]; omega
        · have hti : ¬ (t : Int) < 3 := by omega
          go_wp2_with (go_at_call 19; refine (HCL.out _ HBt.out).mono ?_; rintro e w20 ⟨u22, X20, rfl, ho20, _, hb20⟩; obtain ⟨a22, c22, rfl⟩ := Tx.row_slice ho20; have HO20 := hid ho20; have HB20 := hid hb20; clear ho20 hb20)
          go_loopw [110] (fun s110 wy => ∃ (j : Nat) (X22 : List Value), j ≤ NL ∧ s110 = .int .i64 j ∧ Hid (wy.ownsRow wx.heap.size 32 5 (.slice a22 NL c22) NL X22) ∧ Hid (Below wx.heap.size wx wy)) (fun s _ => NL - (intOf s).toNat)
          case atStart => exact ⟨0, X20, Nat.zero_le _, rfl, HO20, HB20⟩
          case round =>
            obtain ⟨j, X22, hj, rfl, HO22, HB22⟩ := hrel
            clear HO20 HB20
            by_cases hjl : j < NL
            · have hji : (j : Int) < NL := by omega
              obtain ⟨g22, cc, hsh⟩ : ∃ g c, (Value.slice a22 NL c22) = .slice (some ⟨g, 0, none⟩) NL c := by
                rcases HO22.out.2 with ⟨_, h0⟩ | ⟨g, c, _, e, _⟩
                · omega
                · exact ⟨g, c, e⟩
              simp only [Value.slice.injEq] at hsh
              obtain ⟨rfl, _, rfl⟩ := hsh
              obtain ⟨⟨y0, p0⟩, f0, ⟨y1, p1⟩, f1, ⟨y2, p2⟩, f2, ⟨y3, p3⟩, f3, ⟨y4, p4⟩, f4, X23, ho23, hg23⟩ := put5 HO22.out j hjl (.int .u64 (j : Int)) (.int .i64 (-7)) (.bool false) (.slice none 0 0) (.bool false)
              have HO23 := hid ho23
              have HB23 := hid (HB22.out.grown hg23 HB22.out.size (fun g e => by have := own_ge HO22.out (g := g) (by rw [← e]; rfl); exact this))
              have hwj : IntKind.u64.wrap (j : Int) = j := by rw [IntKind.wrap_u64]; omega
              have hbd : ∀ w, (Instr.build 32 #[(0, .int .u64 (j : Int)), (1, .int .i64 (-7))]).run Try.prog w = .ok (.agg #[.int .u64 (j : Int), .int .i64 (-7), .bool false, .slice none 0 0, .bool false]) w := fun _ => by kernel_rfl
              clear ho23 hg23
              go_wp2_with fail
              go_roundw
              case rel => exact ⟨j + 1, X23, hjl, by go_num, HO23, HB23⟩
              case measure => simp [intOf]; omega
            · have hji : ¬ (j : Int) < NL := by omega
              obtain ⟨iC, hi1, hi2, hi3, hi4⟩ := info32
              have HX22 := hid (rfl : X22 = X22)
              have hbd : ∀ w, (Instr.build 32 #[(1, .int .i64 (-9))]).run Try.prog w = .ok (.agg #[.int .u64 0, .int .i64 (-9), .bool false, .slice none 0 0, .bool false]) w := fun _ => by kernel_rfl
              obtain ⟨w24, hw24⟩ : ∃ x, x = wr := ⟨_, rfl⟩
              rw [← hw24] at HO22 HB22 ⊢
              clear hw24 HX22
              have hsx : wx.heap.size ≤ w24.heap.size := HB22.out.size
              go_upto_region 36 with (at_builtin; refine wpList_append_own_at _ rfl _ _ 38 rfl wx.heap.size 32 iC (.agg #[.int .u64 0, .int .i64 0, .bool false, .slice none 0 0, .bool false]) 5 56 Try.underlying38 hi1 hi2 hi3 hi4 rfl (by decide) (.slice a22 NL c22) NL X22 rfl (World.ownsRow.alloc HO22.out _) ⟨w24.heap.size, 0, none⟩ 1 1 [.int .u64 0, .int .i64 (-9), .bool false, .slice none 0 0, .bool false] rfl rfl (box_range w24 32 _) (by simp [Value.oneCell']) (by unfold maxLen; omega) (by omega) (by simp; omega) ?_; intro v25 w25 h25 g25 _ _; have HO25 := hid h25; have HG25 := hid g25; clear h25 g25)
              have hbal := (Below.refl w24.heap.size w24).alloc (Nat.le_refl _) (.cells #[.int .u64 0, .int .i64 (-9), .bool false, .slice none 0 0, .bool false] 32)
              have hb24 := HB22.out.trans (hbal.mono hsx)
              have HB25 : Hid (Below wx.heap.size wx w25) := hb24.grown HG25.out hb24.size (fun g e => own_ge HO22.out e)
              have HT25 := hid (HT.out.below HB25.out)
              have HI25 := hid (HI.out.below HB25.out)
              have HBS := hid (HBt.out.trans (HB25.out.mono HBt.out.size))
              obtain ⟨a25, c25, e25, _⟩ := own_rd HO25.out
              subst e25
              have HOL := hid HO22.out.1
              have hlb : X.length ≤ 1000000000 := by have := HXl.out; omega
              have hlb2 : X'.length ≤ 1000000000 := by have := HXl'.out; omega
              have HG1 := hid (HT25.out.good (by decide) (by omega))
              clear hbal hb24 HO22 HB22 HG25 HT HI HBt HT25 hi1 hi2 hi3 hi4
              have hwn : IntKind.i64.wrap ((((NL + 1 : Nat) : Int)) - 1) = (NL : Int) := by rw [IntKind.wrap_i64]; omega
              have hwn2 : IntKind.i64.wrap ((NL : Int) + 1 - 1) = (NL : Int) := by rw [IntKind.wrap_i64]; omega
              have hwn3 : IntKind.i64.wrap (NL : Int) = (NL : Int) := by rw [IntKind.wrap_i64]; omega
              have hnl1 : (NL : Int) < ((NL + 1 : Nat) : Int) := by omega
              have hnl2 : (NL : Int) < (NL : Int) + 1 := by omega
              have HG2 : Hid (∀ w30, (∀ t, t ≠ 5 → Tx.Stay t w25 w30) → Below wl.heap.size w25 w30 → Calls Try.prog 29 #[.pointer (some ⟨wl.heap.size + 1, 0, none⟩)] w30 fun e w' => e = .returned (.bool true) ∧ (∀ t, t ≠ 3 → Tx.Stay t w30 w') ∧ Below wl.heap.size w30 w') := fun w30 h1 h2 => (HI25.out.stay (h1 3 (by decide)) (h1 30 (by decide)) (h1 53 (by decide)) h2.size).good (by decide) (by omega)
              go_upto_region 38 with (first | (go_at_call 28; refine HG1.out.mono ?_; rintro e w30 ⟨rfl, hst30, hb30⟩; have HST30 := hid hst30; have HB30 := hid hb30; clear hst30 hb30) | (go_at_call 29; refine (HG2.out w30 HST30.out HB30.out).mono ?_; rintro e w31 ⟨rfl, hst31, hb31⟩; have HO31 := hid (Tx.own_stay (Tx.own_stay HO25.out (HST30.out 32 (by decide))) (hst31 32 (by decide))); obtain ⟨a31, c31, e31, hrd31⟩ := own_rd HO31.out; cases e31; obtain ⟨g31, rfl, q31⟩ := hrd31 (NL * 5 + 1) (.int .i64 (-9)) (by rw [List.getElem?_append_right (by rw [HOL.out]; omega), HOL.out, show NL * 5 + 1 - NL * 5 = 1 by omega]; rfl); have HB31 := hid (HBS.out.trans (HB30.out.trans hb31)); clear hst31 hb31 hrd31 HO31))
              clear q31 HG1 HG2 HO25 HI25 HST30 HB30 hwn hwn2 hwn3 hnl1 hnl2
              go_wp2_with (go_at_call 19; refine (HCL.out _ HB31.out).mono ?_; rintro e w40 ⟨u40, X40, rfl, ho40, hz40, hb40⟩; obtain ⟨a40, c40, rfl, hrd40⟩ := own_rd ho40; have HRD40 := hid hrd40; have HZ40 := hid hz40; have HB40 := hid (HB31.out.trans (hb40.mono HB31.out.size)); clear ho40 hrd40 hz40 hb40)
              go_loopw [149] (fun s149 wy => ∃ q : Nat, q ≤ NL ∧ s149 = .int .i64 q ∧ Hid (Below w40.heap.size w40 wy)) (fun s _ => NL - (intOf s).toNat)
              case atStart => exact ⟨0, Nat.zero_le _, rfl, hid (Below.refl _ _)⟩
              case round =>
                obtain ⟨q, hq, rfl, HBq⟩ := hrel
                by_cases hqn : q < NL
                · have hqi : (q : Int) < NL := by omega
                  have hqL : q < F.L.length := by have := HNL.out; omega
                  obtain ⟨x0, x1, _⟩ := HZ.out.at_ q hqL
                  obtain ⟨y0, y1, _⟩ := HZ40.out.at_ q hqL
                  have hb1 := HB40.out.trans (HBq.out.mono HB40.out.size)
                  obtain ⟨g12, rfl, m0⟩ := HRD.out _ _ x0
                  obtain ⟨_, e1, m1⟩ := HRD.out _ _ x1
                  cases e1
                  obtain ⟨g40, rfl, l0⟩ := HRD40.out _ _ y0
                  obtain ⟨_, e2, l1⟩ := HRD40.out _ _ y1
                  cases e2
                  replace m0 := cell_regrown (cell_kept hb1 m0)
                  replace m1 := cell_regrown (cell_kept hb1 m1)
                  replace l0 := cell_regrown (cell_kept HBq.out l0)
                  replace l1 := cell_regrown (cell_kept HBq.out l1)
                  have hpos := (HSL.out.pos hqL).1
                  obtain ⟨len, hlen⟩ : ∃ n : Int, ((F.L[q].bs.length : Nat) : Int) = n := ⟨_, rfl⟩
                  have hp1 : ¬ len ≤ 0 := by omega
                  have hp2 : decide (len ≤ 0) = false := decide_eq_false hp1
                  rw [hlen] at m1 l1
                  generalize F.L[q].off = off at *
                  clear x0 x1 y0 y1 hb1 hpos hlen
                  go_upto_region 44 with fail
                  go_cut [183] from 152 to 183 (fun s183 wq => s183 = .bool false ∧ Below wr.heap.size wr wq)
                  case first =>
                    refine wp_region_quiet_below (by kernel_rfl) (by decide +kernel) ?_
                    iterate 32 (quiet_step (fail))
                    refine wpQuiet_nil ?_
                    intro _ hw'
                    obtain ⟨⟨dq, osq⟩, hw''⟩ := hw'
                    subst hw''
                    go_wp2_with fail
                    go_meet
                    exact ⟨rfl, below_regrown wr dq osq⟩
                  case rest =>
                    obtain ⟨rfl, hb50⟩ := hcut
                    have HB50 := hid (HBq.out.trans (hb50.mono HBq.out.size))
                    clear hb50
                    go_wp2_with fail
                    go_roundw
                    case rel => exact ⟨q + 1, hqn, by go_num, HB50⟩
                    case measure => simp [intOf]; omega
                · have hqi : ¬ (q : Int) < NL := by omega
                  go_wp2_with fail
                  go_ret
                  have h1 := HB40.out.trans (HBq.out.mono HB40.out.size)
                  exact ⟨rfl, HSL.out.bel.trans (h1.mono HSL.out.bel.size)⟩
end Go.Proofs.Ytnohammflhadpaa
