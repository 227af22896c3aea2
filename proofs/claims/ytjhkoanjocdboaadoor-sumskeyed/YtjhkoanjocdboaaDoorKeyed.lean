import Derived.Test.YtjhkoanjocdboaaDoorKeyed2
namespace Go.Proofs.YtjhkoanjocdboaaDoor
open Go.RowKit
set_option maxRecDepth 100000

set_option maxHeartbeats 4000000 in
theorem keyed_any {w : World} {a1 a2 : Option Addr} {c1 c2 : Nat} {bs t : List (BitVec 8)} (zv : Int) (hB1 : BytesAt w a1 bs) (hB2 : BytesAt w a2 t) (l1 : bs.length ≤ c1) (l2 : t.length ≤ c2) (m1 : c1 ≤ 140737488355328) (m2 : c2 ≤ 140737488355328)
    (hK : KTab w) (hC : CrcTab w) (h2 : 2 ≤ w.heap.size) :
    Calls Tryd.prog 7 #[.slice a1 bs.length c1, .slice a2 t.length c2, .int .i64 zv] w fun e w' => e = .returned (.bool true) ∧ Below w.heap.size w w' := by
  have HL1 := hid l1
  have HL2 := hid l2
  have HM1 : Hid (c1 ≤ 281474976710656) := by show _ ≤ _; omega
  have HM2 : Hid (c2 ≤ 281474976710656) := by show _ ≤ _; omega
  have HN1 : Hid (bs.length ≤ 140737488355328) := by show _ ≤ _; omega
  have HB1 := hid hB1
  have HB2 := hid hB2
  have HK := hid hK
  have HC := hid hC
  have H2 := hid h2
  have I44 := hid i44
  have hx1 : (bs.length : Int) ≤ 140737488355328 := by omega
  have HMAC : Hid (∀ w0, Below w.heap.size w w0 → Calls Tryd.prog 22 #[.slice a1 bs.length c1, .slice (some ⟨w0.heap.size, 0, none⟩) 1 1] (w0.alloc (.cells #[.slice a2 t.length c2] 24)) fun e w' => e = .returned (.agg (bcells (macL bs t)).toArray) ∧ Below w0.heap.size w0 w') := fun w0 hb =>
    mac_one (HB1.out.kept hb) rfl HL1.out (fun _ => HM1.out) (HB2.out.kept hb) HL2.out HM2.out (HK.out.kept hb) (Nat.le_trans H2.out hb.size)
  have HMC : Hid (∀ w0 q, Below w.heap.size w w0 → PartsC w0 (some ⟨q, 0, none⟩) [t] → Calls Tryd.prog 22 #[.slice a1 bs.length c1, .slice (some ⟨q, 0, none⟩) 1 1] w0 fun e w' => e = .returned (.agg (bcells (macL bs t)).toArray) ∧ Below w0.heap.size w0 w') := fun w0 q hb hp => by
    have := mac_any (pcap := 1) (HB1.out.kept hb) HL1.out (fun _ => HM1.out) hp (by simp) (HK.out.kept hb) (Nat.le_trans H2.out hb.size)
    rw [show [t].flatten = t by simp] at this
    exact this
  have heq := fun w0 => same44 (mac_len bs t) w0
  have HZ : Hid (macL bs t = sha (maskL (keyL bs) 92#8 ++ sha (maskL (keyL bs) 54#8 ++ t))) := rfl
  have HLZ := hid (mac_len bs t)
  have HLK := hid (keyL_len bs)
  clear hB1 hB2 l1 l2 m1 m2 hK hC h2
  go_enter Tryd.func7, Tryd.ntmps7
  go_upto_region 2 with (at_make; refine wpMakeB (.const (.int .i64 64)) (.const (.int .i64 64)) .i64 64 rfl rfl rfl rfl (by decide) ?_; intro w1 HW)
  have HRk : Hid (Row w1 w.heap.size (bcells z64) 5) := by show Row _ _ _ _; rw [HW.out]; exact Row.new _ _ _
  have HBk : Hid (Below w.heap.size w w1) := by show Below _ _ _; rw [HW.out]; exact (Below.refl _ _).alloc (Nat.le_refl _) _
  clear HW
  obtain ⟨kb, hkb⟩ : ∃ kb, kb = w.heap.size := ⟨_, rfl⟩
  have HKB := hid hkb
  rw [← hkb] at HRk
  rw [← hkb]
  clear hkb
  by_cases hgt : 64 < bs.length
  · have g1 : (64 : Int) < (bs.length : Int) := by omega
    have g2 : (bs.length : Int) > 64 := by omega
    have HKL := hid (keyL_long hgt)
    have HMS := hid (macL_sha (c := t) hgt)
    have HLS : Hid ((sha bs).length = 32) := sha_len _
    have HOF := hid (of_one (HB1.out.kept HBk.out) HL1.out HM1.out (HK.out.kept HBk.out) (Nat.le_trans H2.out HBk.out.size))
    clear hgt
    generalize macL bs t = Z at *
    generalize hS : sha bs = S at *
    clear hS
    go_upto_region 4 with (first
      | (go_at_call 21; refine HOF.out.mono ?_; clear HOF; rintro e w2 ⟨rfl, hb2⟩; have HB2' := hid hb2; clear hb2)
      | (show wpList _ _ _ (Oper.mk none (.store 44 (.tmp 8) (.tmp 20)) _ _ _ _ :: _) _ _; refine (Row.new' w2 _ (bcells z32) 44 _ rfl rfl).wpStore' 44 (.tmp 8) (.tmp 20) (bcells S) rfl rfl rfl rfl (by rw [bcells_len, bcells_len, HLS.out]; rfl) (bcells_one _) (by rw [bcells_len, HLS.out]; exact I44.out) ?_; intro w3 HW))
    simp only [Act.put]
    have HRs : Hid (Row w3 w2.heap.size (bcells S) 44) := by show Row _ _ _ _; rw [HW.out]; exact (Row.new' w2 _ (bcells z32) 44 _ rfl rfl).row _
    have HB3 : Hid (Below w1.heap.size w1 w3) := by show Below _ _ _; rw [HW.out]; exact Go.below_setRow (HB2'.out.alloc HB2'.out.size _) HB2'.out.size _
    have HR3 : Hid (Row w3 kb (bcells z64) 5) := HRk.out.kept HB3.out HRk.out.lt
    have HNE : Hid (w2.heap.size ≠ kb) := by show _ ≠ _; have := HRk.out.lt; have := HB2'.out.size; omega
    have HBW : Hid (Below w.heap.size w w3) := HBk.out.trans (HB3.out.mono HBk.out.size)
    clear HW HB2' HRk HBk HB3
    generalize w2.heap.size = sb at *
    have HSRC : Hid (∀ j v, (bcells S)[j]? = some v → w3.cell? ((⟨sb, 0, none⟩ : Addr).add j) = some v) := fun j v hv => by rw [Addr.add_lit, Nat.zero_add]; exact HRs.out.cell j v hv
    go_upto_region 5 with (first
      | (show wpList _ _ _ (Oper.mk (some 23) (.call { callee := .builtin .copy, args := #[.tmp 21, .tmp 22], argTypes := #[24, 24] }) _ _ _ _ :: _) _ _; refine wpList_copyB (.tmp 21) (.tmp 22) rfl rfl HR3.out 0 64 64 rfl ⟨sb, 0, none⟩ 32 32 rfl (bcells S) (by rw [bcells_len, HLS.out]; rfl) HSRC.out (by rw [bcells_len, bcells_len, HLS.out]; decide) (bcells_one _) 32 (by rw [bcells_len, HLS.out]) ?_; intro w4 HW))
    have e4 : w4 = w3.setRow kb (bcells (keyL bs)).toArray := by
      have := HW.out
      rwa [laid_front S, HLS.out, show 64 - 32 = 32 from rfl, ← HKL.out] at this
    have HR4 : Hid (Row w4 kb (bcells (keyL bs)) 5) := by show Row _ _ _ _; rw [e4]; exact HR3.out.row _
    have HRs4 : Hid (Row w4 sb (bcells S) 44) := by show Row _ _ _ _; rw [e4]; exact HRs.out.rowOther HNE.out _
    have HB4 : Hid (Below w.heap.size w w4) := by show Below _ _ _; rw [e4]; exact Go.below_setRow HBW.out (Nat.le_of_eq HKB.out.symm) _
    clear HW e4 HSRC HR3 HRs HBW
    have HMA := hid (mac_one (c := 32) (Row.bytesAt HRs4.out) HLS.out (by decide) (by decide) (HB2.out.kept HB4.out) HL2.out HM2.out (HK.out.kept HB4.out) (Nat.le_trans H2.out HB4.out.size))
    rw [HMS.out] at HMA
    go_upto_region 13 with (first
      | (go_at_call_of 22 (Value.slice (some ⟨sb, 0, none⟩) 32 32); refine HMA.out.mono ?_; clear HMA; rintro e w5 ⟨rfl, hb5⟩; have HB5 := hid hb5; clear hb5)
      | (go_at_call 22; refine (HMAC.out w5 (HB4.out.trans (HB5.out.mono HB4.out.size))).mono ?_; rintro e w6 ⟨rfl, hb6⟩; have HB6 := hid hb6; clear hb6))
    have HR6 : Hid (Row w6 kb (bcells (keyL bs)) 5) := (HR4.out.kept HB5.out HR4.out.lt).kept (HB6.out.mono (Nat.le_of_eq rfl)) (HR4.out.kept HB5.out HR4.out.lt).lt
    have HBB : Hid (Below w.heap.size w w6) := (HB4.out.trans (HB5.out.mono HB4.out.size)).trans (HB6.out.mono (HB4.out.trans (HB5.out.mono HB4.out.size)).size)
    clear HR4 HRs4 HB4 HB5 HB6 HMAC
    generalize keyL bs = KK at *
    go_wp2_with (first
      | (show wpList _ _ _ (Oper.mk (some 58) _ _ _ _ _ :: _) _ _; refine wpMakeB (.const (.int .i64 64)) (.const (.int .i64 64)) .i64 64 rfl rfl rfl rfl (by decide) ?_; intro w7 HW7)
      | (show wpList _ _ _ (Oper.mk (some 59) _ _ _ _ _ :: _) _ _; refine wpMakeB (.const (.int .i64 64)) (.const (.int .i64 64)) .i64 64 rfl rfl rfl rfl (by decide) ?_; intro w8 HW8))
    have HRi7 : Hid (Row w7 w6.heap.size (bcells (pm KK 54#8 0)) 5) := by show Row _ _ _ _; rw [HW7.out, pm_zero]; exact Row.new _ _ _
    have HB7 : Hid (Below w6.heap.size w6 w7) := by show Below _ _ _; rw [HW7.out]; exact (Below.refl _ _).alloc (Nat.le_refl _) _
    have HRo : Hid (Row w8 w7.heap.size (bcells (pm KK 92#8 0)) 5) := by show Row _ _ _ _; rw [HW8.out, pm_zero]; exact Row.new _ _ _
    have HB8 : Hid (Below w7.heap.size w7 w8) := by show Below _ _ _; rw [HW8.out]; exact (Below.refl _ _).alloc (Nat.le_refl _) _
    clear HW7 HW8
    have HRi : Hid (Row w8 w6.heap.size (bcells (pm KK 54#8 0)) 5) := HRi7.out.kept HB8.out HRi7.out.lt
    have HR7 : Hid (Row w7 kb (bcells KK) 5) := HR6.out.kept HB7.out HR6.out.lt
    have HR8 : Hid (Row w8 kb (bcells KK) 5) := HR7.out.kept HB8.out HR7.out.lt
    have HNI : Hid (kb < w6.heap.size) := HR6.out.lt
    have HNO : Hid (w6.heap.size < w7.heap.size) := HRi7.out.lt
    have HGI : Hid (w.heap.size ≤ w6.heap.size) := HBB.out.size
    have HBX : Hid (Below w.heap.size w w8) := (HBB.out.trans (HB7.out.mono HBB.out.size)).trans (HB8.out.mono (HBB.out.trans (HB7.out.mono HBB.out.size)).size)
    clear HRi7 HB7 HB8 HR7 HR6 HBB
    generalize w6.heap.size = gi at *
    generalize w7.heap.size = go at *
    go_loopw [12] (fun i wr => ∃ k : Nat, k ≤ 64 ∧ i = .int .i64 k ∧ Row wr kb (bcells KK) 5 ∧ Row wr gi (bcells (pm KK 54#8 k)) 5 ∧ Row wr go (bcells (pm KK 92#8 k)) 5 ∧ Below w.heap.size w wr) (fun i _ => 64 - (intOf i).toNat)
    case atStart => exact ⟨0, by omega, rfl, HR8.out, HRi.out, HRo.out, HBX.out⟩
    case round =>
      clear HR8 HRi HRo HBX
      obtain ⟨k, hk, rfl, hR, hRi, hRo, hb⟩ := hrel
      by_cases hlt : k < 64
      · have hki : (k : Int) < 64 := by omega
        have q1 : KK[k]'(by rw [HLK.out]; exact hlt) = KK.getD k 0 := by simp [List.getD, List.getElem?_eq_getElem (show k < KK.length by rw [HLK.out]; exact hlt)]
        have d0 := hR.cell k _ (bcells_get (show k < KK.length by rw [HLK.out]; exact hlt))
        rw [q1] at d0
        clear q1
        obtain ⟨v1, d1⟩ : ∃ v1, wr.cell? ⟨gi, k, none⟩ = some v1 := ⟨_, hRi.cell k _ (bcells_get (by rw [pm_len]; exact hlt))⟩
        have f1 := hRi.frozen k
        have HS1 := hid (pm_set KK 54#8 k hlt)
        have HS2 := hid (pm_set KK 92#8 k hlt)
        have HR := hid hR
        have HRi := hid hRi
        have HRo := hid hRo
        have HB := hid hb
        have HLT := hid hlt
        clear hR hRi hRo hb hk hlt
        generalize KK.getD k 0 = kk at *
        have x1 : bits .xor .u8 (ub kk) 54 = ub (kk ^^^ 54#8) := ubx kk 54#8
        have x2 : bits .xor .u8 (ub kk) 92 = ub (kk ^^^ 92#8) := ubx kk 92#8
        go_upto_region 19 with fail
        refine wp_world fun wx HX => ?_
        have HRx : Hid (Row wx kb (bcells KK) 5) := by show Row _ _ _ _; rw [HX.out]; exact HR.out.setOther _ (Nat.ne_of_lt HNI.out) _
        have HRix : Hid (Row wx gi (bcells (pm KK 54#8 (k + 1))) 5) := by
          have := HRi.out.set k (.int .u8 (ub (kk ^^^ 54#8)))
          rw [bcells_set, HS1.out] at this
          show Row _ _ _ _
          rw [HX.out]
          exact this
        have HRox : Hid (Row wx go (bcells (pm KK 92#8 k)) 5) := by show Row _ _ _ _; rw [HX.out]; exact HRo.out.setOther _ (Nat.ne_of_gt HNO.out) _
        have HBx : Hid (Below w.heap.size w wx) := by show Below _ _ _; rw [HX.out]; exact HB.out.setCell (p := ⟨gi, k, none⟩) HGI.out _
        have d0x : wx.cell? ⟨kb, k, none⟩ = some (.int .u8 (ub kk)) := by rw [HX.out]; exact (cell_set_other _ _ (Nat.ne_of_lt HNI.out) d0)
        obtain ⟨v2, d2⟩ : ∃ v2, wx.cell? ⟨go, k, none⟩ = some v2 := ⟨_, HRox.out.cell k _ (bcells_get (by rw [pm_len]; exact HLT.out))⟩
        have f2 := HRox.out.frozen k
        clear HX d0 d1 f1 HR HRi HRo HB
        go_wp2
        go_roundw
        case rel =>
          refine ⟨k + 1, HLT.out, by go_num, HRx.out.setOther _ (Nat.ne_of_lt (Nat.lt_trans HNI.out HNO.out)) _, HRix.out.setOther _ (Nat.ne_of_lt HNO.out) _, ?_, HBx.out.setCell (p := ⟨go, k, none⟩) (Nat.le_trans HGI.out (Nat.le_of_lt HNO.out)) _⟩
          have := HRox.out.set k (.int .u8 (ub (kk ^^^ 92#8)))
          rw [bcells_set, HS2.out] at this
          exact this
        case measure =>
          have := HLT.out
          simp [intOf]
          omega
      · have ek : k = 64 := by omega
        subst ek
        rw [pm_full KK 54#8 HLK.out] at hRi
        rw [pm_full KK 92#8 HLK.out] at hRo
        have HLI : Hid ((maskL KK 54#8).length = 64) := by show _ = _; rw [maskL_len]; exact HLK.out
        have HLO : Hid ((maskL KK 92#8).length = 64) := by show _ = _; rw [maskL_len]; exact HLK.out
        generalize maskL KK 54#8 = I at *
        generalize maskL KK 92#8 = O at *
        have HOF := hid (of_two (cx := 64) (Row.bytesAt hRi) (HB2.out.kept hb) HLI.out rfl (by decide) (by decide) HL2.out HM2.out (HK.out.kept hb) (Nat.le_trans H2.out hb.size))
        have HLE1 : Hid ((sha (I ++ t)).length = 32) := sha_len _
        generalize sha (I ++ t) = E1 at *
        have HRo := hid hRo
        have HB := hid hb
        clear hR hRi hRo hb
        go_upto_region 21 with (first
          | (go_at_call 21; refine HOF.out.mono ?_; clear HOF; rintro e wa ⟨rfl, hba⟩; have HBa := hid hba; clear hba)
          | (show wpList _ _ _ (Oper.mk none (.store 44 (.tmp 13) (.tmp 83)) _ _ _ _ :: _) _ _; refine (Row.new' wa _ (bcells z32) 44 _ rfl rfl).wpStore' 44 (.tmp 13) (.tmp 83) (bcells E1) rfl rfl rfl rfl (by rw [bcells_len, bcells_len, HLE1.out]; rfl) (bcells_one _) (by rw [bcells_len, HLE1.out]; exact I44.out) ?_; intro we HW))
        simp only [Act.put]
        have HRe : Hid (Row we wa.heap.size (bcells E1) 44) := by show Row _ _ _ _; rw [HW.out]; exact (Row.new' wa _ (bcells z32) 44 _ rfl rfl).row _
        have HBe : Hid (Below wr.heap.size wr we) := by show Below _ _ _; rw [HW.out]; exact Go.below_setRow (HBa.out.alloc HBa.out.size _) HBa.out.size _
        have HRoe : Hid (Row we go (bcells O) 5) := HRo.out.kept HBe.out HRo.out.lt
        have HBW : Hid (Below w.heap.size w we) := HB.out.trans (HBe.out.mono HB.out.size)
        clear HW HBa HBe HRo HB
        generalize wa.heap.size = eb at *
        refine wp_act fun F HF => ?_
        have F0 : Hid (F.tmps[0]? = some (.slice a1 bs.length c1)) := by show _ = _; rw [HF.out]; rfl
        have F1 : Hid (F.tmps[1]? = some (.slice a2 t.length c2)) := by show _ = _; rw [HF.out]; rfl
        have F11 : Hid (F.tmps[11]? = some (.slice (some ⟨go, 0, none⟩) 64 64)) := by show _ = _; rw [HF.out]; rfl
        have F13 : Hid (F.tmps[13]? = some (.pointer (some ⟨eb, 0, none⟩))) := by show _ = _; rw [HF.out]; rfl
        have FS : Hid (F.tmps.size = 96) := by show _ = _; rw [HF.out]; rfl
        have FD : Hid (F.defers = []) := by show _ = _; rw [HF.out]
        clear HF
        refine wp_region_any (by kernel_rfl) ?_
        refine wpAny_spec we (KSpec (.slice a1 bs.length c1) (.slice a2 t.length c2) (.slice (some ⟨go, 0, none⟩) 64 64) (.slice (some ⟨eb, 0, none⟩) 32 32) (.agg (bcells Z).toArray) t O E1) (below_drawn (Below.refl _ _) _) ?step ?fin
        case fin =>
          intro l a' w' h hr
          have hall := ready_all h.len (by decide +kernel) hr
          obtain ⟨v, hv, hs⟩ := h.new 12 _ 6 (hall 12 (by decide +kernel)) rfl rfl
          obtain rfl : v = .bool true := hs
          have HBE : Hid (Below w.heap.size w w') := HBW.out.trans (h.bel.mono HBW.out.size)
          have hd : a'.defers = [] := h.defers.trans FD.out
          clear hall hr h
          obtain ⟨T, ds⟩ := a'
          simp only at hv hd
          subst hd
          go_wp2
          go_ret
          refine ⟨?_, HBE.out⟩
          simp [hv]
        case step =>
          intro l a' w' i h hi hm
          have hi : i < 13 := hi
          have hb : Below we.heap.size we w' := h.bel
          have hbw : Below w.heap.size w w' := HBW.out.trans (hb.mono HBW.out.size)
          rcases (show i = 0 ∨ i = 1 ∨ i = 2 ∨ i = 3 ∨ i = 4 ∨ i = 5 ∨ i = 6 ∨ i = 7 ∨ i = 8 ∨ i = 9 ∨ i = 10 ∨ i = 11 ∨ i = 12 by omega) with rfl | rfl | rfl | rfl | rfl | rfl | rfl | rfl | rfl | rfl | rfl | rfl | rfl
          · -- 0
            refine wpOp_of rfl rfl ?_
            refine step_call20 rfl (known_any (HK.out.kept hbw) (HC.out.kept hbw) (Nat.le_trans H2.out hbw.size)) ?_
            intro w2 hb2
            exact h.step rfl rfl (by rw [FS.out]; decide) (by decide +kernel) rfl hb2 (KSpec_mono hb2)
          · -- 1
            refine wpOp_of rfl rfl ?_
            obtain ⟨v0, e0, s0⟩ := h.val hm rfl (j := 0) rfl rfl (by decide +kernel)
            obtain rfl : v0 = .bool true := s0
            refine step_move rfl e0 ?_
            exact h.step rfl rfl (by rw [FS.out]; decide) (by decide +kernel) rfl (Below.refl _ _) (fun _ _ q => q)
          · -- 2
            obtain ⟨vg, hvg, hsg⟩ := h.new 1 _ 85 (ready_dep hm rfl (by decide +kernel)) rfl rfl
            obtain rfl : vg = .bool true := hsg
            refine wpOp_guard (j := 1) rfl rfl (yielded_of rfl rfl hvg) ?_
            refine step_move rfl (h.oldv (t := 0) (by decide +kernel) F0.out) ?_
            exact h.step rfl rfl (by rw [FS.out]; decide) (by decide +kernel) rfl (Below.refl _ _) (fun _ _ q => q)
          · -- 3
            obtain ⟨vg, hvg, hsg⟩ := h.new 1 _ 85 (ready_dep hm rfl (by decide +kernel)) rfl rfl
            obtain rfl : vg = .bool true := hsg
            refine wpOp_guard (j := 1) rfl rfl (yielded_of rfl rfl hvg) ?_
            refine step_move rfl (h.oldv (t := 1) (by decide +kernel) F1.out) ?_
            exact h.step rfl rfl (by rw [FS.out]; decide) (by decide +kernel) rfl (Below.refl _ _) (fun _ _ q => q)
          · -- 4
            obtain ⟨vg, hvg, hsg⟩ := h.new 1 _ 85 (ready_dep hm rfl (by decide +kernel)) rfl rfl
            obtain rfl : vg = .bool true := hsg
            refine wpOp_guard (j := 1) rfl rfl (yielded_of rfl rfl hvg) ?_
            obtain ⟨v0, e0, s0⟩ := h.val hm rfl (j := 3) rfl rfl (by decide +kernel)
            obtain rfl : v0 = .slice a2 t.length c2 := s0
            have hb2 : Below w'.heap.size w' (w'.alloc (.cells #[.slice a2 t.length c2] 24)) := (Below.refl _ _).alloc (Nat.le_refl _) _
            refine step_build22 rfl e0 ?_
            exact h.step rfl rfl (by rw [FS.out]; decide) (by decide +kernel) ⟨_, rfl, parts_new (HB2.out.kept hbw) HL2.out HM2.out⟩ hb2 (KSpec_mono hb2)
          · -- 5
            obtain ⟨vg, hvg, hsg⟩ := h.new 1 _ 85 (ready_dep hm rfl (by decide +kernel)) rfl rfl
            obtain rfl : vg = .bool true := hsg
            refine wpOp_guard (j := 1) rfl rfl (yielded_of rfl rfl hvg) ?_
            obtain ⟨v0, e0, s0⟩ := h.val hm rfl (j := 2) rfl rfl (by decide +kernel)
            obtain rfl : v0 = .slice a1 bs.length c1 := s0
            obtain ⟨v1, e1, s1⟩ := h.val hm rfl (j := 4) rfl rfl (by decide +kernel)
            obtain ⟨q, rfl, hp⟩ := s1
            refine step_call22 rfl e0 e1 (HMC.out w' q hbw hp) ?_
            intro w2 hb2
            exact h.step rfl rfl (by rw [FS.out]; decide) (by decide +kernel) rfl hb2 (KSpec_mono hb2)
          · -- 6
            obtain ⟨vg, hvg, hsg⟩ := h.new 1 _ 85 (ready_dep hm rfl (by decide +kernel)) rfl rfl
            obtain rfl : vg = .bool true := hsg
            refine wpOp_guard (j := 1) rfl rfl (yielded_of rfl rfl hvg) ?_
            refine step_move rfl (h.oldv (t := 11) (by decide +kernel) F11.out) ?_
            exact h.step rfl rfl (by rw [FS.out]; decide) (by decide +kernel) rfl (Below.refl _ _) (fun _ _ q => q)
          · -- 7
            obtain ⟨vg, hvg, hsg⟩ := h.new 1 _ 85 (ready_dep hm rfl (by decide +kernel)) rfl rfl
            obtain rfl : vg = .bool true := hsg
            refine wpOp_guard (j := 1) rfl rfl (yielded_of rfl rfl hvg) ?_
            refine step_slice44 rfl (h.oldv (t := 13) (by decide +kernel) F13.out) ?_
            exact h.step rfl rfl (by rw [FS.out]; decide) (by decide +kernel) rfl (Below.refl _ _) (fun _ _ q => q)
          · -- 8
            obtain ⟨vg, hvg, hsg⟩ := h.new 1 _ 85 (ready_dep hm rfl (by decide +kernel)) rfl rfl
            obtain rfl : vg = .bool true := hsg
            refine wpOp_guard (j := 1) rfl rfl (yielded_of rfl rfl hvg) ?_
            obtain ⟨v0, e0, s0⟩ := h.val hm rfl (j := 6) rfl rfl (by decide +kernel)
            obtain rfl : v0 = .slice (some ⟨go, 0, none⟩) 64 64 := s0
            obtain ⟨v1, e1, s1⟩ := h.val hm rfl (j := 7) rfl rfl (by decide +kernel)
            obtain rfl : v1 = .slice (some ⟨eb, 0, none⟩) 32 32 := s1
            have hb2 : Below w'.heap.size w' (w'.alloc (.cells #[.slice (some ⟨go, 0, none⟩) 64 64, .slice (some ⟨eb, 0, none⟩) 32 32] 24)) := (Below.refl _ _).alloc (Nat.le_refl _) _
            have hP : PartsC (w'.alloc (.cells #[.slice (some ⟨go, 0, none⟩) 64 64, .slice (some ⟨eb, 0, none⟩) 32 32] 24)) (some ⟨w'.heap.size, 0, none⟩) [O, E1] := by
              refine parts_two ?_ ((HRoe.out.kept hb HRoe.out.lt).kept hb2 (HRoe.out.kept hb HRoe.out.lt).lt) ((HRe.out.kept hb HRe.out.lt).kept hb2 (HRe.out.kept hb HRe.out.lt).lt) (by rw [HLO.out]; decide) (by rw [HLE1.out]; decide)
              rw [HLO.out, HLE1.out]
              exact Row.new _ _ _
            refine step_build22two rfl e0 e1 ?_
            exact h.step rfl rfl (by rw [FS.out]; decide) (by decide +kernel) ⟨_, rfl, hP⟩ hb2 (KSpec_mono hb2)
          · -- 9
            obtain ⟨vg, hvg, hsg⟩ := h.new 1 _ 85 (ready_dep hm rfl (by decide +kernel)) rfl rfl
            obtain rfl : vg = .bool true := hsg
            refine wpOp_guard (j := 1) rfl rfl (yielded_of rfl rfl hvg) ?_
            obtain ⟨v0, e0, s0⟩ := h.val hm rfl (j := 8) rfl rfl (by decide +kernel)
            obtain ⟨q, rfl, hp⟩ := s0
            have hof := of_any (cap := 2) hp (by simp) (HK.out.kept hbw) (Nat.le_trans H2.out hbw.size)
            rw [show [O, E1].flatten = O ++ E1 by simp, ← HZ.out] at hof
            refine step_call21 rfl e0 hof ?_
            intro w2 hb2
            exact h.step rfl rfl (by rw [FS.out]; decide) (by decide +kernel) rfl hb2 (KSpec_mono hb2)
          · -- 10
            obtain ⟨vg, hvg, hsg⟩ := h.new 1 _ 85 (ready_dep hm rfl (by decide +kernel)) rfl rfl
            obtain rfl : vg = .bool true := hsg
            refine wpOp_guard (j := 1) rfl rfl (yielded_of rfl rfl hvg) ?_
            obtain ⟨v0, e0, s0⟩ := h.val hm rfl (j := 5) rfl rfl (by decide +kernel)
            obtain rfl : v0 = .agg (bcells Z).toArray := s0
            obtain ⟨v1, e1, s1⟩ := h.val hm rfl (j := 9) rfl rfl (by decide +kernel)
            obtain rfl : v1 = .agg (bcells Z).toArray := s1
            refine step_eql44 HLZ.out rfl e0 e1 ?_
            exact h.step rfl rfl (by rw [FS.out]; decide) (by decide +kernel) rfl (Below.refl _ _) (fun _ _ q => q)
          · -- 11
            refine wpOp_of rfl rfl ?_
            obtain ⟨v0, e0, s0⟩ := h.val hm rfl (j := 1) rfl rfl (by decide +kernel)
            obtain rfl : v0 = .bool true := s0
            obtain ⟨v1, e1, s1⟩ := h.val hm rfl (j := 10) rfl rfl (by decide +kernel)
            obtain rfl : v1 = .bool true := s1
            refine step_pick rfl e0 e1 ?_
            exact h.step rfl rfl (by rw [FS.out]; decide) (by decide +kernel) rfl (Below.refl _ _) (fun _ _ q => q)
          · -- 12
            refine wpOp_of rfl rfl ?_
            obtain ⟨v0, e0, s0⟩ := h.val hm rfl (j := 11) rfl rfl (by decide +kernel)
            obtain rfl : v0 = .bool true := s0
            refine step_assign rfl e0 ?_
            exact h.step rfl rfl (by rw [FS.out]; decide) (by decide +kernel) rfl (Below.refl _ _) (fun _ _ q => q)
  · have g1 : ¬ ((64 : Int) < (bs.length : Int)) := by omega
    have g2 : ¬ ((bs.length : Int) > 64) := by omega
    have g3 : decide ((64 : Int) < (bs.length : Int)) = false := decide_eq_false g1
    have g4 : (bs.length : Int) ≤ 64 := by omega
    have HLE : Hid (bs.length ≤ 64) := by show _ ≤ _; omega
    obtain ⟨z, hz, hzl⟩ : ∃ z : Nat, IntKind.u64.wrap zv % (65 - (bs.length : Int)) = (z : Int) ∧ bs.length + z ≤ 64 := by
      have h1 := Int.emod_nonneg (IntKind.u64.wrap zv) (show (65 - (bs.length : Int)) ≠ 0 by omega)
      have h2 := Int.emod_lt_of_pos (IntKind.u64.wrap zv) (show 0 < (65 - (bs.length : Int)) by omega)
      exact ⟨(IntKind.u64.wrap zv % (65 - (bs.length : Int))).toNat, by omega, by omega⟩
    have hz1 : zv % 18446744073709551616 % (65 - (bs.length : Int)) = (z : Int) := by rw [← IntKind.wrap_u64]; exact hz
    have hz2 : (IntKind.u64.wrap zv).tmod (65 - (bs.length : Int)) = (z : Int) := by
      rw [Int.tmod_eq_emod_of_nonneg (by rw [IntKind.wrap_u64]; omega)]; exact hz
    have hz3 : (z : Int) ≤ 64 := by omega
    have HZL := hid hzl
    have HMS := hid (macL_zeros (c := t) hzl)
    clear hgt hzl
    generalize macL bs t = Z at *
    go_upto_region 8 with (show wpList _ _ _ (Oper.mk (some 35) (.call { callee := .builtin .copy, args := #[.tmp 33, .tmp 34], argTypes := #[24, 24] }) _ _ _ _ :: _) _ _; refine wpCopyKey (.tmp 33) (.tmp 34) rfl rfl HRk.out rfl rfl (HB1.out.kept HBk.out) HLE.out ?_; intro w2 HR2 HB2')
    have HBc : Hid (Below w.heap.size w w2) := HBk.out.trans (HB2'.out.mono (Nat.le_of_eq HKB.out.symm))
    clear HRk HBk HB2'
    go_upto_region 10 with (show wpList _ _ _ (Oper.mk (some 38) (.call { callee := .builtin .append, args := #[.tmp 36, .tmp 37], argTypes := #[24, 24] }) _ _ _ _ :: _) _ _; refine wpAppendK (.tmp 36) (.tmp 37) rfl rfl rfl rfl (HB1.out.kept HBc.out) HN1.out ?_; intro w3 vl HOW HB3)
    have HBc3 : Hid (Below w.heap.size w w3) := HBc.out.trans (HB3.out.mono HBc.out.size)
    have HR3 : Hid (Row w3 kb (bcells (keyL bs)) 5) := HR2.out.kept HB3.out HR2.out.lt
    have HSZ : Hid (w2.heap.size ≤ w3.heap.size) := HB3.out.size
    have HKL2 : Hid (kb < w2.heap.size) := HR2.out.lt
    have HWL : Hid (w.heap.size ≤ w2.heap.size) := HBc.out.size
    clear HB3 HR2 HBc
    go_upto_region 11 with (show wpList _ _ _ (Oper.mk (some 48) (.call { callee := .builtin .append, args := #[.tmp 39, .tmp 47], argTypes := #[24, 3] }) _ _ _ _ :: _) _ _; refine wpAppendZ (.tmp 39) (.tmp 47) rfl rfl rfl rfl HOW.out HZL.out HSZ.out ?_; intro w4 al cl HBY HCL HSP HB4)
    have HBc4 : Hid (Below w.heap.size w w4) := HBc3.out.trans (HB4.out.mono HWL.out)
    have HR4 : Hid (Row w4 kb (bcells (keyL bs)) 5) := HR3.out.kept HB4.out HKL2.out
    clear HOW HB4 HR3 HBc3 HSP
    have HMA := hid (mac_one (c := cl) HBY.out (by rw [List.length_append, List.length_replicate]) HCL.out (fun h => absurd h (by have := HZL.out; omega)) (HB2.out.kept HBc4.out) HL2.out HM2.out (HK.out.kept HBc4.out) (Nat.le_trans H2.out HBc4.out.size))
    rw [HMS.out] at HMA
    go_upto_region 13 with (first
      | (go_at_call_of 22 (Value.slice al (bs.length + z) cl); refine HMA.out.mono ?_; clear HMA; rintro e w5 ⟨rfl, hb5⟩; have HB5 := hid hb5; clear hb5)
      | (go_at_call 22; refine (HMAC.out w5 (HBc4.out.trans (HB5.out.mono HBc4.out.size))).mono ?_; rintro e w6 ⟨rfl, hb6⟩; have HB6 := hid hb6; clear hb6))
    have HR5 : Hid (Row w5 kb (bcells (keyL bs)) 5) := HR4.out.kept HB5.out HR4.out.lt
    have HR6 : Hid (Row w6 kb (bcells (keyL bs)) 5) := HR5.out.kept HB6.out HR5.out.lt
    have HBB : Hid (Below w.heap.size w w6) := (HBc4.out.trans (HB5.out.mono HBc4.out.size)).trans (HB6.out.mono (HBc4.out.trans (HB5.out.mono HBc4.out.size)).size)
    clear HR4 HR5 HBc4 HB5 HB6 HBY HMAC
    generalize keyL bs = KK at *
    go_wp2_with (first
      | (show wpList _ _ _ (Oper.mk (some 58) _ _ _ _ _ :: _) _ _; refine wpMakeB (.const (.int .i64 64)) (.const (.int .i64 64)) .i64 64 rfl rfl rfl rfl (by decide) ?_; intro w7 HW7)
      | (show wpList _ _ _ (Oper.mk (some 59) _ _ _ _ _ :: _) _ _; refine wpMakeB (.const (.int .i64 64)) (.const (.int .i64 64)) .i64 64 rfl rfl rfl rfl (by decide) ?_; intro w8 HW8))
    have HRi7 : Hid (Row w7 w6.heap.size (bcells (pm KK 54#8 0)) 5) := by show Row _ _ _ _; rw [HW7.out, pm_zero]; exact Row.new _ _ _
    have HB7 : Hid (Below w6.heap.size w6 w7) := by show Below _ _ _; rw [HW7.out]; exact (Below.refl _ _).alloc (Nat.le_refl _) _
    have HRo : Hid (Row w8 w7.heap.size (bcells (pm KK 92#8 0)) 5) := by show Row _ _ _ _; rw [HW8.out, pm_zero]; exact Row.new _ _ _
    have HB8 : Hid (Below w7.heap.size w7 w8) := by show Below _ _ _; rw [HW8.out]; exact (Below.refl _ _).alloc (Nat.le_refl _) _
    clear HW7 HW8
    have HRi : Hid (Row w8 w6.heap.size (bcells (pm KK 54#8 0)) 5) := HRi7.out.kept HB8.out HRi7.out.lt
    have HR7 : Hid (Row w7 kb (bcells KK) 5) := HR6.out.kept HB7.out HR6.out.lt
    have HR8 : Hid (Row w8 kb (bcells KK) 5) := HR7.out.kept HB8.out HR7.out.lt
    have HNI : Hid (kb < w6.heap.size) := HR6.out.lt
    have HNO : Hid (w6.heap.size < w7.heap.size) := HRi7.out.lt
    have HGI : Hid (w.heap.size ≤ w6.heap.size) := HBB.out.size
    have HBX : Hid (Below w.heap.size w w8) := (HBB.out.trans (HB7.out.mono HBB.out.size)).trans (HB8.out.mono (HBB.out.trans (HB7.out.mono HBB.out.size)).size)
    clear HRi7 HB7 HB8 HR7 HR6 HBB
    generalize w6.heap.size = gi at *
    generalize w7.heap.size = go at *
    go_loopw [12] (fun i wr => ∃ k : Nat, k ≤ 64 ∧ i = .int .i64 k ∧ Row wr kb (bcells KK) 5 ∧ Row wr gi (bcells (pm KK 54#8 k)) 5 ∧ Row wr go (bcells (pm KK 92#8 k)) 5 ∧ Below w.heap.size w wr) (fun i _ => 64 - (intOf i).toNat)
    case atStart => exact ⟨0, by omega, rfl, HR8.out, HRi.out, HRo.out, HBX.out⟩
    case round =>
      clear HR8 HRi HRo HBX
      obtain ⟨k, hk, rfl, hR, hRi, hRo, hb⟩ := hrel
      by_cases hlt : k < 64
      · have hki : (k : Int) < 64 := by omega
        have q1 : KK[k]'(by rw [HLK.out]; exact hlt) = KK.getD k 0 := by simp [List.getD, List.getElem?_eq_getElem (show k < KK.length by rw [HLK.out]; exact hlt)]
        have d0 := hR.cell k _ (bcells_get (show k < KK.length by rw [HLK.out]; exact hlt))
        rw [q1] at d0
        clear q1
        obtain ⟨v1, d1⟩ : ∃ v1, wr.cell? ⟨gi, k, none⟩ = some v1 := ⟨_, hRi.cell k _ (bcells_get (by rw [pm_len]; exact hlt))⟩
        have f1 := hRi.frozen k
        have HS1 := hid (pm_set KK 54#8 k hlt)
        have HS2 := hid (pm_set KK 92#8 k hlt)
        have HR := hid hR
        have HRi := hid hRi
        have HRo := hid hRo
        have HB := hid hb
        have HLT := hid hlt
        clear hR hRi hRo hb hk hlt
        generalize KK.getD k 0 = kk at *
        have x1 : bits .xor .u8 (ub kk) 54 = ub (kk ^^^ 54#8) := ubx kk 54#8
        have x2 : bits .xor .u8 (ub kk) 92 = ub (kk ^^^ 92#8) := ubx kk 92#8
        go_upto_region 19 with fail
        refine wp_world fun wx HX => ?_
        have HRx : Hid (Row wx kb (bcells KK) 5) := by show Row _ _ _ _; rw [HX.out]; exact HR.out.setOther _ (Nat.ne_of_lt HNI.out) _
        have HRix : Hid (Row wx gi (bcells (pm KK 54#8 (k + 1))) 5) := by
          have := HRi.out.set k (.int .u8 (ub (kk ^^^ 54#8)))
          rw [bcells_set, HS1.out] at this
          show Row _ _ _ _
          rw [HX.out]
          exact this
        have HRox : Hid (Row wx go (bcells (pm KK 92#8 k)) 5) := by show Row _ _ _ _; rw [HX.out]; exact HRo.out.setOther _ (Nat.ne_of_gt HNO.out) _
        have HBx : Hid (Below w.heap.size w wx) := by show Below _ _ _; rw [HX.out]; exact HB.out.setCell (p := ⟨gi, k, none⟩) HGI.out _
        have d0x : wx.cell? ⟨kb, k, none⟩ = some (.int .u8 (ub kk)) := by rw [HX.out]; exact (cell_set_other _ _ (Nat.ne_of_lt HNI.out) d0)
        obtain ⟨v2, d2⟩ : ∃ v2, wx.cell? ⟨go, k, none⟩ = some v2 := ⟨_, HRox.out.cell k _ (bcells_get (by rw [pm_len]; exact HLT.out))⟩
        have f2 := HRox.out.frozen k
        clear HX d0 d1 f1 HR HRi HRo HB
        go_wp2
        go_roundw
        case rel =>
          refine ⟨k + 1, HLT.out, by go_num, HRx.out.setOther _ (Nat.ne_of_lt (Nat.lt_trans HNI.out HNO.out)) _, HRix.out.setOther _ (Nat.ne_of_lt HNO.out) _, ?_, HBx.out.setCell (p := ⟨go, k, none⟩) (Nat.le_trans HGI.out (Nat.le_of_lt HNO.out)) _⟩
          have := HRox.out.set k (.int .u8 (ub (kk ^^^ 92#8)))
          rw [bcells_set, HS2.out] at this
          exact this
        case measure =>
          have := HLT.out
          simp [intOf]
          omega
      · have ek : k = 64 := by omega
        subst ek
        rw [pm_full KK 54#8 HLK.out] at hRi
        rw [pm_full KK 92#8 HLK.out] at hRo
        have HLI : Hid ((maskL KK 54#8).length = 64) := by show _ = _; rw [maskL_len]; exact HLK.out
        have HLO : Hid ((maskL KK 92#8).length = 64) := by show _ = _; rw [maskL_len]; exact HLK.out
        generalize maskL KK 54#8 = I at *
        generalize maskL KK 92#8 = O at *
        have HOF := hid (of_two (cx := 64) (Row.bytesAt hRi) (HB2.out.kept hb) HLI.out rfl (by decide) (by decide) HL2.out HM2.out (HK.out.kept hb) (Nat.le_trans H2.out hb.size))
        have HLE1 : Hid ((sha (I ++ t)).length = 32) := sha_len _
        generalize sha (I ++ t) = E1 at *
        have HRo := hid hRo
        have HB := hid hb
        clear hR hRi hRo hb
        go_upto_region 21 with (first
          | (go_at_call 21; refine HOF.out.mono ?_; clear HOF; rintro e wa ⟨rfl, hba⟩; have HBa := hid hba; clear hba)
          | (show wpList _ _ _ (Oper.mk none (.store 44 (.tmp 13) (.tmp 83)) _ _ _ _ :: _) _ _; refine (Row.new' wa _ (bcells z32) 44 _ rfl rfl).wpStore' 44 (.tmp 13) (.tmp 83) (bcells E1) rfl rfl rfl rfl (by rw [bcells_len, bcells_len, HLE1.out]; rfl) (bcells_one _) (by rw [bcells_len, HLE1.out]; exact I44.out) ?_; intro we HW))
        simp only [Act.put]
        have HRe : Hid (Row we wa.heap.size (bcells E1) 44) := by show Row _ _ _ _; rw [HW.out]; exact (Row.new' wa _ (bcells z32) 44 _ rfl rfl).row _
        have HBe : Hid (Below wr.heap.size wr we) := by show Below _ _ _; rw [HW.out]; exact Go.below_setRow (HBa.out.alloc HBa.out.size _) HBa.out.size _
        have HRoe : Hid (Row we go (bcells O) 5) := HRo.out.kept HBe.out HRo.out.lt
        have HBW : Hid (Below w.heap.size w we) := HB.out.trans (HBe.out.mono HB.out.size)
        clear HW HBa HBe HRo HB
        generalize wa.heap.size = eb at *
        refine wp_act fun F HF => ?_
        have F0 : Hid (F.tmps[0]? = some (.slice a1 bs.length c1)) := by show _ = _; rw [HF.out]; rfl
        have F1 : Hid (F.tmps[1]? = some (.slice a2 t.length c2)) := by show _ = _; rw [HF.out]; rfl
        have F11 : Hid (F.tmps[11]? = some (.slice (some ⟨go, 0, none⟩) 64 64)) := by show _ = _; rw [HF.out]; rfl
        have F13 : Hid (F.tmps[13]? = some (.pointer (some ⟨eb, 0, none⟩))) := by show _ = _; rw [HF.out]; rfl
        have FS : Hid (F.tmps.size = 96) := by show _ = _; rw [HF.out]; rfl
        have FD : Hid (F.defers = []) := by show _ = _; rw [HF.out]
        clear HF
        refine wp_region_any (by kernel_rfl) ?_
        refine wpAny_spec we (KSpec (.slice a1 bs.length c1) (.slice a2 t.length c2) (.slice (some ⟨go, 0, none⟩) 64 64) (.slice (some ⟨eb, 0, none⟩) 32 32) (.agg (bcells Z).toArray) t O E1) (below_drawn (Below.refl _ _) _) ?step ?fin
        case fin =>
          intro l a' w' h hr
          have hall := ready_all h.len (by decide +kernel) hr
          obtain ⟨v, hv, hs⟩ := h.new 12 _ 6 (hall 12 (by decide +kernel)) rfl rfl
          obtain rfl : v = .bool true := hs
          have HBE : Hid (Below w.heap.size w w') := HBW.out.trans (h.bel.mono HBW.out.size)
          have hd : a'.defers = [] := h.defers.trans FD.out
          clear hall hr h
          obtain ⟨T, ds⟩ := a'
          simp only at hv hd
          subst hd
          go_wp2
          go_ret
          refine ⟨?_, HBE.out⟩
          simp [hv]
        case step =>
          intro l a' w' i h hi hm
          have hi : i < 13 := hi
          have hb : Below we.heap.size we w' := h.bel
          have hbw : Below w.heap.size w w' := HBW.out.trans (hb.mono HBW.out.size)
          rcases (show i = 0 ∨ i = 1 ∨ i = 2 ∨ i = 3 ∨ i = 4 ∨ i = 5 ∨ i = 6 ∨ i = 7 ∨ i = 8 ∨ i = 9 ∨ i = 10 ∨ i = 11 ∨ i = 12 by omega) with rfl | rfl | rfl | rfl | rfl | rfl | rfl | rfl | rfl | rfl | rfl | rfl | rfl
          · -- 0
            refine wpOp_of rfl rfl ?_
            refine step_call20 rfl (known_any (HK.out.kept hbw) (HC.out.kept hbw) (Nat.le_trans H2.out hbw.size)) ?_
            intro w2 hb2
            exact h.step rfl rfl (by rw [FS.out]; decide) (by decide +kernel) rfl hb2 (KSpec_mono hb2)
          · -- 1
            refine wpOp_of rfl rfl ?_
            obtain ⟨v0, e0, s0⟩ := h.val hm rfl (j := 0) rfl rfl (by decide +kernel)
            obtain rfl : v0 = .bool true := s0
            refine step_move rfl e0 ?_
            exact h.step rfl rfl (by rw [FS.out]; decide) (by decide +kernel) rfl (Below.refl _ _) (fun _ _ q => q)
          · -- 2
            obtain ⟨vg, hvg, hsg⟩ := h.new 1 _ 85 (ready_dep hm rfl (by decide +kernel)) rfl rfl
            obtain rfl : vg = .bool true := hsg
            refine wpOp_guard (j := 1) rfl rfl (yielded_of rfl rfl hvg) ?_
            refine step_move rfl (h.oldv (t := 0) (by decide +kernel) F0.out) ?_
            exact h.step rfl rfl (by rw [FS.out]; decide) (by decide +kernel) rfl (Below.refl _ _) (fun _ _ q => q)
          · -- 3
            obtain ⟨vg, hvg, hsg⟩ := h.new 1 _ 85 (ready_dep hm rfl (by decide +kernel)) rfl rfl
            obtain rfl : vg = .bool true := hsg
            refine wpOp_guard (j := 1) rfl rfl (yielded_of rfl rfl hvg) ?_
            refine step_move rfl (h.oldv (t := 1) (by decide +kernel) F1.out) ?_
            exact h.step rfl rfl (by rw [FS.out]; decide) (by decide +kernel) rfl (Below.refl _ _) (fun _ _ q => q)
          · -- 4
            obtain ⟨vg, hvg, hsg⟩ := h.new 1 _ 85 (ready_dep hm rfl (by decide +kernel)) rfl rfl
            obtain rfl : vg = .bool true := hsg
            refine wpOp_guard (j := 1) rfl rfl (yielded_of rfl rfl hvg) ?_
            obtain ⟨v0, e0, s0⟩ := h.val hm rfl (j := 3) rfl rfl (by decide +kernel)
            obtain rfl : v0 = .slice a2 t.length c2 := s0
            have hb2 : Below w'.heap.size w' (w'.alloc (.cells #[.slice a2 t.length c2] 24)) := (Below.refl _ _).alloc (Nat.le_refl _) _
            refine step_build22 rfl e0 ?_
            exact h.step rfl rfl (by rw [FS.out]; decide) (by decide +kernel) ⟨_, rfl, parts_new (HB2.out.kept hbw) HL2.out HM2.out⟩ hb2 (KSpec_mono hb2)
          · -- 5
            obtain ⟨vg, hvg, hsg⟩ := h.new 1 _ 85 (ready_dep hm rfl (by decide +kernel)) rfl rfl
            obtain rfl : vg = .bool true := hsg
            refine wpOp_guard (j := 1) rfl rfl (yielded_of rfl rfl hvg) ?_
            obtain ⟨v0, e0, s0⟩ := h.val hm rfl (j := 2) rfl rfl (by decide +kernel)
            obtain rfl : v0 = .slice a1 bs.length c1 := s0
            obtain ⟨v1, e1, s1⟩ := h.val hm rfl (j := 4) rfl rfl (by decide +kernel)
            obtain ⟨q, rfl, hp⟩ := s1
            refine step_call22 rfl e0 e1 (HMC.out w' q hbw hp) ?_
            intro w2 hb2
            exact h.step rfl rfl (by rw [FS.out]; decide) (by decide +kernel) rfl hb2 (KSpec_mono hb2)
          · -- 6
            obtain ⟨vg, hvg, hsg⟩ := h.new 1 _ 85 (ready_dep hm rfl (by decide +kernel)) rfl rfl
            obtain rfl : vg = .bool true := hsg
            refine wpOp_guard (j := 1) rfl rfl (yielded_of rfl rfl hvg) ?_
            refine step_move rfl (h.oldv (t := 11) (by decide +kernel) F11.out) ?_
            exact h.step rfl rfl (by rw [FS.out]; decide) (by decide +kernel) rfl (Below.refl _ _) (fun _ _ q => q)
          · -- 7
            obtain ⟨vg, hvg, hsg⟩ := h.new 1 _ 85 (ready_dep hm rfl (by decide +kernel)) rfl rfl
            obtain rfl : vg = .bool true := hsg
            refine wpOp_guard (j := 1) rfl rfl (yielded_of rfl rfl hvg) ?_
            refine step_slice44 rfl (h.oldv (t := 13) (by decide +kernel) F13.out) ?_
            exact h.step rfl rfl (by rw [FS.out]; decide) (by decide +kernel) rfl (Below.refl _ _) (fun _ _ q => q)
          · -- 8
            obtain ⟨vg, hvg, hsg⟩ := h.new 1 _ 85 (ready_dep hm rfl (by decide +kernel)) rfl rfl
            obtain rfl : vg = .bool true := hsg
            refine wpOp_guard (j := 1) rfl rfl (yielded_of rfl rfl hvg) ?_
            obtain ⟨v0, e0, s0⟩ := h.val hm rfl (j := 6) rfl rfl (by decide +kernel)
            obtain rfl : v0 = .slice (some ⟨go, 0, none⟩) 64 64 := s0
            obtain ⟨v1, e1, s1⟩ := h.val hm rfl (j := 7) rfl rfl (by decide +kernel)
            obtain rfl : v1 = .slice (some ⟨eb, 0, none⟩) 32 32 := s1
            have hb2 : Below w'.heap.size w' (w'.alloc (.cells #[.slice (some ⟨go, 0, none⟩) 64 64, .slice (some ⟨eb, 0, none⟩) 32 32] 24)) := (Below.refl _ _).alloc (Nat.le_refl _) _
            have hP : PartsC (w'.alloc (.cells #[.slice (some ⟨go, 0, none⟩) 64 64, .slice (some ⟨eb, 0, none⟩) 32 32] 24)) (some ⟨w'.heap.size, 0, none⟩) [O, E1] := by
              refine parts_two ?_ ((HRoe.out.kept hb HRoe.out.lt).kept hb2 (HRoe.out.kept hb HRoe.out.lt).lt) ((HRe.out.kept hb HRe.out.lt).kept hb2 (HRe.out.kept hb HRe.out.lt).lt) (by rw [HLO.out]; decide) (by rw [HLE1.out]; decide)
              rw [HLO.out, HLE1.out]
              exact Row.new _ _ _
            refine step_build22two rfl e0 e1 ?_
            exact h.step rfl rfl (by rw [FS.out]; decide) (by decide +kernel) ⟨_, rfl, hP⟩ hb2 (KSpec_mono hb2)
          · -- 9
            obtain ⟨vg, hvg, hsg⟩ := h.new 1 _ 85 (ready_dep hm rfl (by decide +kernel)) rfl rfl
            obtain rfl : vg = .bool true := hsg
            refine wpOp_guard (j := 1) rfl rfl (yielded_of rfl rfl hvg) ?_
            obtain ⟨v0, e0, s0⟩ := h.val hm rfl (j := 8) rfl rfl (by decide +kernel)
            obtain ⟨q, rfl, hp⟩ := s0
            have hof := of_any (cap := 2) hp (by simp) (HK.out.kept hbw) (Nat.le_trans H2.out hbw.size)
            rw [show [O, E1].flatten = O ++ E1 by simp, ← HZ.out] at hof
            refine step_call21 rfl e0 hof ?_
            intro w2 hb2
            exact h.step rfl rfl (by rw [FS.out]; decide) (by decide +kernel) rfl hb2 (KSpec_mono hb2)
          · -- 10
            obtain ⟨vg, hvg, hsg⟩ := h.new 1 _ 85 (ready_dep hm rfl (by decide +kernel)) rfl rfl
            obtain rfl : vg = .bool true := hsg
            refine wpOp_guard (j := 1) rfl rfl (yielded_of rfl rfl hvg) ?_
            obtain ⟨v0, e0, s0⟩ := h.val hm rfl (j := 5) rfl rfl (by decide +kernel)
            obtain rfl : v0 = .agg (bcells Z).toArray := s0
            obtain ⟨v1, e1, s1⟩ := h.val hm rfl (j := 9) rfl rfl (by decide +kernel)
            obtain rfl : v1 = .agg (bcells Z).toArray := s1
            refine step_eql44 HLZ.out rfl e0 e1 ?_
            exact h.step rfl rfl (by rw [FS.out]; decide) (by decide +kernel) rfl (Below.refl _ _) (fun _ _ q => q)
          · -- 11
            refine wpOp_of rfl rfl ?_
            obtain ⟨v0, e0, s0⟩ := h.val hm rfl (j := 1) rfl rfl (by decide +kernel)
            obtain rfl : v0 = .bool true := s0
            obtain ⟨v1, e1, s1⟩ := h.val hm rfl (j := 10) rfl rfl (by decide +kernel)
            obtain rfl : v1 = .bool true := s1
            refine step_pick rfl e0 e1 ?_
            exact h.step rfl rfl (by rw [FS.out]; decide) (by decide +kernel) rfl (Below.refl _ _) (fun _ _ q => q)
          · -- 12
            refine wpOp_of rfl rfl ?_
            obtain ⟨v0, e0, s0⟩ := h.val hm rfl (j := 11) rfl rfl (by decide +kernel)
            obtain rfl : v0 = .bool true := s0
            refine step_assign rfl e0 ?_
            exact h.step rfl rfl (by rw [FS.out]; decide) (by decide +kernel) rfl (Below.refl _ _) (fun _ _ q => q)
end Go.Proofs.YtjhkoanjocdboaaDoor
