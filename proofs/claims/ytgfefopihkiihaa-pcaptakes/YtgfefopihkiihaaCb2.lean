import Derived.Test.YtgfefopihkiihaaCb1
import Derived.Test.YtgfefopihkiihaaCa7
import Derived.Test.YtgfefopihkiihaaCa9
namespace Go.Proofs.Ytgfefopihkiihaa
open Go.RowKit Go.Maps
set_option maxRecDepth 100000

set_option maxHeartbeats 8000000 in
/-- Of any events: as the document asks, and nothing of them is kept. -/
theorem takes_law {w : World} {a : Option Addr} {c : Nat} {l : List Evt} (h : EvsAt w a l) (hl : l.length ≤ 2513169434916) :
    Calls Try.prog 3 #[.slice a l.length c] w fun e w' => e = .returned (.bool true) ∧ Below w.heap.size w w' := by
  have HE := hid h
  have HEV := hid (events_any (c := c) h hl)
  clear h
  obtain ⟨b, hb⟩ : ∃ b, w.heap.size = b := ⟨_, rfl⟩
  have HBB := hid hb
  go_enter Try.func3, Try.ntmps3
  go_upto_region 2 with (go_at_call 9; refine HEV.out.mono ?_; rintro en w2 ⟨v, L, rfl, hI⟩; rw [hb] at hI; obtain ⟨a3, c3, rfl, hat⟩ := hI.own.at_ hI.ck)
  clear hb HEV
  have hLl : L.length = l.length := by have := congrArg List.length hI.view; simpa using this
  have HO2 := hid hI.own
  have HA2 := hid hat
  have HVW : Hid (L.map Evt.view = l.map Evt.view) := by have := hI.view; rwa [List.take_length] at this
  have HB2 := hid hI.below
  have HCK := hid hI.ck
  have HOF := hid (of_any (c := c3) hat (by omega))
  obtain ⟨n, hn⟩ : ∃ n, L.length = n := ⟨_, rfl⟩
  rw [hn] at HOF ⊢
  have hni : (n : Int) ≤ 2513169434916 := by omega
  have hn0 : (0 : Int) ≤ (n : Int) := by omega
  have HLN := hid hn
  have hln : l.length = n := by omega
  rw [hln]
  have HLL := hid hln
  clear hI hat hn hln hLl hl
  go_upto_region 3 with (first
    | (go_at_call 10; refine HOF.out.mono ?_; rintro en w3 ⟨v4, P, rfl, hP, hPv, hB3⟩; have HP := hid hP; have HPV := hid hPv; have HB3 := hid hB3; clear hP hPv hB3 HOF)
    | (show wpList _ _ _ (Oper.mk none (.store 27 (.tmp 4) (.tmp 10)) _ _ _ _ :: _) _ _; refine Row.wpStore' (Row.new w3 cz 27) 27 (.tmp 4) (.tmp 10) (capC false false 262144 147 v4) rfl rfl rfl rfl rfl (capC_one (own_cell HP.out.row)) info_27 ?_; intro w4 HW4))
  obtain ⟨q, hq⟩ : ∃ q, w3.heap.size = q := ⟨_, rfl⟩
  have HRQ : Hid (Row w4 q (capC false false 262144 147 v4) 27) := by rw [HW4.out, ← hq]; exact (Row.new w3 cz 27).row _
  have hb4 : Below w3.heap.size w3 w4 := by rw [HW4.out]; exact below_setRow (below_new w3 _) (Nat.le_refl _) _
  obtain ⟨B1, hB1⟩ : ∃ B1, w2.heap.size = B1 := ⟨_, rfl⟩
  have hb24 : Below w2.heap.size w2 w4 := HB3.out.trans (hb4.mono HB3.out.size)
  have hbB : b ≤ B1 := by have := HB2.out.size; have := HBB.out; omega
  have hBq : B1 ≤ q := by have := HB3.out.size; omega
  have HP4 : Hid (PksOwn w4 B1 v4 P) := by rw [← hB1]; exact HP.out.kept hb4
  have HA4 := hid (HA2.out.kept hb24)
  have HE4 := hid (HE.out.kept (show Below w.heap.size w w4 by rw [HBB.out]; exact HB2.out.trans (hb24.mono (by omega))))
  have HSE := hid (sameEvs_any (c := c3) (c' := c) HA4.out HE4.out HVW.out (by have := HLN.out; omega))
  rw [HLN.out, HLL.out] at HSE
  rw [hq]
  have HB24 : Hid (Below B1 w2 w4) := by rw [← hB1]; exact hb24
  clear hb4 hb24 HW4 HB3 HP hq
  have HBS := hid hB1
  clear hB1
  go_upto_region 5 with (go_at_call 11; refine HSE.out.mono ?_; rintro en w5 ⟨rfl, hb5⟩; have HB5 := hid hb5; clear hb5 HSE)
  have HRQ5 := hid (HRQ.out.kept HB5.out HRQ.out.lt)
  have HP5 := hid (HP4.out.kept HB5.out)
  have HB25 : Hid (Below B1 w2 w5) := HB24.out.trans (HB5.out.mono (by have := HRQ.out.lt; omega))
  have HBW5 : Hid (Below b w w5) := HB2.out.trans (HB25.out.mono hbB)
  have HWI : Hid (WpI b B1 w5 w5 a3 L 0) := by
    have h1 := WpI.start (w3 := w5) HO2.out (HBS.out.symm ▸ HB25.out)
    rw [HBS.out] at h1
    exact h1
  clear HRQ HP4 HB24 HB5 HA4 HE4 HA2 HO2
  go_upto_region 6 with fail
  go_loopw [17] (fun t wx => ∃ i : Nat, t = .int .i64 i ∧ i ≤ n ∧ WpI b B1 w5 wx a3 L i) (fun t _ => n - (intOf t).toNat)
  case atStart => exact ⟨0, by go_num, Nat.zero_le _, HWI.out⟩
  case round =>
    obtain ⟨i, rfl, hi, hW⟩ := hrel
    have HW := hid hW
    have hi0 : (0 : Int) ≤ (i : Int) := by omega
    clear HWI
    by_cases hin : i < n
    · have hii : (i : Int) < (n : Int) := by omega
      obtain ⟨e, he⟩ : ∃ e, L[i]? = some e := ⟨_, List.getElem?_eq_getElem (by have := HLN.out; omega)⟩
      obtain ⟨g, Y, hg3, hg1, hg2, hR, hY, hy4⟩ := hW.ev i e (Nat.le_refl _) he
      have HG3 := hid hg3
      have hem : e ∈ L := List.mem_of_getElem? he
      have HN := hid (hW.nil e hem)
      have HLE := hid he
      have hlen : (e.bs.length : Int) ≤ 140737488355328 := by have := (HCK.out e hem).2.2; omega
      rw [hg3] at HW ⊢
      clear hW he hg3
      have d4 := hR.cell (i * 5 + 4) _ hy4
      go_upto_region 9 with fail
      clear d4 hR hY hy4
      go_loopw [26] (fun t wx => ∃ k : Nat, t = .int .i64 k ∧ k ≤ e.bs.length ∧ WpI b B1 w5 wx (some ⟨g, 0, none⟩) L i) (fun t _ => e.bs.length - (intOf t).toNat)
      case atStart => exact ⟨0, by go_num, Nat.zero_le _, HW.out⟩
      case round =>
        obtain ⟨k, rfl, hk, hW2⟩ := hrel
        have HW2 := hid hW2
        have hk0 : (0 : Int) ≤ (k : Int) := by omega
        clear HW
        obtain ⟨g', Y, hg4, -, -, hR, hY, hy4⟩ := hW2.ev i e (Nat.le_refl _) HLE.out
        injection hg4 with hg4
        injection hg4 with hg4
        subst hg4
        have d4 := hR.cell (i * 5 + 4) _ hy4
        by_cases hkl : k < e.bs.length
        · have hki : (k : Int) < (e.bs.length : Int) := by omega
          obtain ⟨gb, hgb⟩ := HN.out k hkl
          obtain ⟨-, hb1, hb2, Z, hZ, hZl⟩ := hW2.by_ e hem gb 0 hgb
          obtain ⟨z0, hz0⟩ : ∃ z0, Z[k]? = some z0 := ⟨_, List.getElem?_eq_getElem (by omega)⟩
          have q0 := hZ.cell k _ hz0
          have f0 := hZ.frozen k
          have HWN := hid (hW2.setB (k := k) hZ hb1 hb2 (.int .u8 119))
          simp only [Evt.val] at d4
          rw [hgb] at d4
          clear hW2 hR hY hy4 hZ hZl hz0 hgb HW2
          go_wp2_with fail
          go_roundw
          case rel => exact ⟨k + 1, by go_num, by omega, HWN.out⟩
          case measure => simp [intOf]; omega
        · obtain rfl : k = e.bs.length := by omega
          have hki : ¬ (e.bs.length : Int) < (e.bs.length : Int) := by omega
          clear d4
          obtain ⟨y0, hy0⟩ : ∃ y0, Y[i * 5]? = some y0 := ⟨_, List.getElem?_eq_getElem (by omega)⟩
          obtain ⟨y1, hy1⟩ : ∃ y1, Y[i * 5 + 1]? = some y1 := ⟨_, List.getElem?_eq_getElem (by omega)⟩
          obtain ⟨y2, hy2⟩ : ∃ y2, Y[i * 5 + 2]? = some y2 := ⟨_, List.getElem?_eq_getElem (by omega)⟩
          obtain ⟨y3, hy3⟩ : ∃ y3, Y[i * 5 + 3]? = some y3 := ⟨_, List.getElem?_eq_getElem (by omega)⟩
          have r0 := hR.cell _ _ hy0
          have r1 := hR.cell _ _ hy1
          have r2 := hR.cell _ _ hy2
          have r3 := hR.cell _ _ hy3
          have r4 := hR.cell _ _ hy4
          have s0 := hR.frozen (i * 5)
          have s1 := hR.frozen (i * 5 + 1)
          have s2 := hR.frozen (i * 5 + 2)
          have s3 := hR.frozen (i * 5 + 3)
          have s4 := hR.frozen (i * 5 + 4)
          have HR := hid hR
          clear hR hY hW2
          go_wp2_with fail
          go_roundw
          case rel =>
            have h1 := HW2.out.more.setC rfl HR.out hg1 hg2 (m := i * 5) (by omega) (.int .i64 2)
            have R1 := HR.out.set (i * 5) (.int .i64 2)
            have h2 := h1.setC rfl R1 hg1 hg2 (m := i * 5 + 1) (by omega) (.int .i64 0)
            have R2 := R1.set (i * 5 + 1) (.int .i64 0)
            have h3 := h2.setC rfl R2 hg1 hg2 (m := i * 5 + 2) (by omega) (.int .i64 0)
            have R3 := R2.set (i * 5 + 2) (.int .i64 0)
            have h4 := h3.setC rfl R3 hg1 hg2 (m := i * 5 + 3) (by omega) (.int .u64 0)
            have R4 := R3.set (i * 5 + 3) (.int .u64 0)
            have h5 := h4.setC rfl R4 hg1 hg2 (m := i * 5 + 4) (by omega) (.slice none 0 0)
            exact ⟨i + 1, by go_num, by omega, h5⟩
          case measure => simp [intOf]; omega
    · obtain rfl : i = n := by omega
      have hii : ¬ (i : Int) < (i : Int) := by omega
      have hF := hW.fr
      have hqB := HRQ5.out.lt
      have hBZ : Below b w wr := HBW5.out.trans (hF.below (fun x e => e.1) (by omega))
      have HBZ := hid hBZ
      have HEZ := hid (HE.out.kept (show Below w.heap.size w wr by rw [HBB.out]; exact hBZ))
      have HPZ : Hid (PksOwn wr B1 v4 P) := ⟨hF.own HP5.out.row (fun g e' e => by have := own_ge HP5.out.row e'; omega), fun p hp => hF.own (HP5.out.by_ p hp) (fun g e' e => by have := own_ge (HP5.out.by_ p hp) e'; omega)⟩
      have HRZ := hid (hF.row HRQ5.out (fun e => by omega))
      have HRF := hid (rof_any (w := wr.drew) (c := c) (HEZ.out.kept (below_drewN (Below.refl _ _) 1)) (by have := HLL.out; omega))
      rw [HLL.out] at HRF
      have hpl : P.length ≤ 140737488355328 := by
        have h1 := congrArg List.length HPV.out
        rw [List.length_map, List.length_map] at h1
        have h2 := List.length_filter_le Evt.fits L
        have := HLN.out
        omega
      have hvv : (l.filter Evt.fits).map (fun e => e.pk 1000) = (L.filter Evt.fits).map (fun e => e.pk 1000) := fits_view HVW.out.symm
      clear HW hW hF hqB hBZ HP5 HRQ5 HBW5 HB25
      go_upto_region 15 with fail
      refine wp_region_some (fun w' => Row w' q (capC false false 262144 147 v4) 27) [3] (by kernel_rfl) ?_
      have hHeld := (show (fun w' => Row w' q (capC false false 262144 147 v4) 27) wr.drew from HRZ.out.drew 1)
      refine wpAnyG_take (i := 0) (oi := { dst := some 42, op := Go.Op.load 27 (Go.Operand.tmp 4), type := 27, pos := "law.go:79", after := #[], guard := none }) (v := .agg (capC false false 262144 147 v4).toArray) (by kernel_rfl) rfl (by kernel_rfl) (by kernel_rfl) (by kernel_rfl) (by kernel_rfl) (fun _ _ _ h => h) (Or.inl ⟨by kernel_rfl, ?h1_0⟩) (by assumption) ?r1_0
      case h1_0 => (intro wt hSw; (try dsimp only at hSw); have d0 := hSw.cell 0 _ rfl; have d1 := hSw.cell 1 _ rfl; have d2 := hSw.cell 2 _ rfl; have d3 := hSw.cell 3 _ rfl; have d4 := hSw.cell 4 _ rfl; clear hSw; go_simp; try rfl)
      simp only [Act.put, List.setIfInBounds_toArray, List.set_cons_zero, List.set_cons_succ]
      refine wpAnyG_take' (i := 1) (oi := { dst := some 43, op := Go.Op.move (Go.Operand.tmp 0), type := 22, pos := "law.go:79", after := #[], guard := none }) (v := ?v1_1) rfl (by kernel_rfl) (by kernel_rfl) (by kernel_rfl) (fun _ _ _ h => h) (Or.inl ⟨by kernel_rfl, ?h1_1⟩) ?r1_1
      case h1_1 => (intro wt hSw; clear hSw; go_simp; try with_reducible rfl)
      simp only [Act.put, List.setIfInBounds_toArray, List.set_cons_zero, List.set_cons_succ]
      refine wpAnyG_one (i := 2) (o := { dst := some 44, op := Go.Op.call { callee := Go.Callee.value (Go.Operand.func 13), args := #[Go.Operand.tmp 43], argTypes := #[22] }, type := 27, pos := "law.go:79", after := #[{ on := 1, ground := Go.Ground.data }], guard := none }) rfl (by kernel_rfl) (by kernel_rfl) ?_
      refine step_callxi (f := 13) (args := #[.slice a i c]) (G := fun v2 w2 => ∃ (v6 : Value) (P6 : List Pkt), v2 = .agg (capC false false 262144 147 v6).toArray ∧ PksOwn w2 wr.heap.size v6 P6 ∧ P6.map Pkt.view = (l.filter Evt.fits).map (fun e => e.pk 1000) ∧ Below wr.heap.size wr.drew w2) (by first | kernel_rfl | go_simp) (HRF.out.mono (fun en w2 h => by obtain ⟨v6, P6, h1, h2, h3, h4⟩ := h; exact ⟨_, h1, v6, P6, rfl, h2, h3, h4⟩)) ?_
      rintro v7 w6 ⟨v6, P6, rfl, hP6, hPv6, hB6⟩
      have hHeld6 := (show (fun w' => Row w' q (capC false false 262144 147 v4) 27) w6 from Row.kept (w := wr.drew) (HRZ.out.drew 1) hB6 (HRZ.out.drew 1).lt)
      obtain ⟨a6, c6, rfl, hr6⟩ := hP6.row_
      obtain ⟨a4, c4, rfl, hr4⟩ := (PksOwn.kept (w := wr) HPZ.out ⟨hB6.os, hB6.tape, hB6.output, hB6.size, hB6.block⟩).row_
      have HSC := hid (sameCap_any (li := false) (na := false) (sn := 262144) (lk := 147) (c := c4) (c' := c6) hr4 hr6 (by rw [HPV.out, hPv6, hvv]) hpl)
      refine ⟨fun _ _ => hHeld6, ?_⟩
      simp only [Act.put, List.setIfInBounds_toArray, List.set_cons_zero, List.set_cons_succ]
      refine wpAnyG_one (i := 3) (o := { dst := some 45, op := Go.Op.call { callee := Go.Callee.value (Go.Operand.func 12), args := #[Go.Operand.tmp 42, Go.Operand.tmp 44], argTypes := #[27, 27] }, type := 4, pos := "law.go:79", after := #[{ on := 0, ground := Go.Ground.data }, { on := 2, ground := Go.Ground.data }, { on := 2, ground := Go.Ground.chain }], guard := none }) rfl (by kernel_rfl) (by kernel_rfl) ?_
      refine step_callxi (f := 12) (args := #[.agg (capC false false 262144 147 (.slice a4 P.length c4)).toArray, .agg (capC false false 262144 147 (.slice a6 P6.length c6)).toArray]) (G := fun v2 w2 => v2 = .bool true ∧ Below w6.heap.size w6 w2) (by first | kernel_rfl | go_simp) (HSC.out.mono (fun en w2 h => ⟨_, h.1, rfl, h.2⟩)) ?_
      rintro v8 w7 ⟨rfl, hB7⟩
      refine ⟨fun h => absurd (by simp) h, ?_⟩
      simp only [Act.put, List.setIfInBounds_toArray, List.set_cons_zero, List.set_cons_succ]
      refine wpAnyG_take' (i := 4) (oi := { dst := some 2, op := Go.Op.assign (Go.Operand.tmp 45), type := 4, pos := "law.go:79", after := #[{ on := 3, ground := Go.Ground.data }, { on := 3, ground := Go.Ground.chain }, { on := 0, ground := Go.Ground.phase }, { on := 1, ground := Go.Ground.phase }, { on := 2, ground := Go.Ground.phase }, { on := 3, ground := Go.Ground.phase }], guard := none }) (v := ?v1_4) rfl (by kernel_rfl) (by kernel_rfl) (by kernel_rfl) (fun _ _ _ h => h) (Or.inl ⟨by kernel_rfl, ?h1_4⟩) ?r1_4
      case h1_4 => (intro wt hSw; clear hSw; go_simp; try with_reducible rfl)
      simp only [Act.put, List.setIfInBounds_toArray, List.set_cons_zero, List.set_cons_succ]
      refine wpAnyG_done (by kernel_rfl) ?_ _
      clear hHeld hHeld6
      go_wp2_with fail
      go_ret
      refine ⟨rfl, ?_⟩
      rw [HBB.out]
      exact HBZ.out.trans ((below_drewN (Below.refl _ _) 1).trans ((hB6.trans (hB7.mono hB6.size)).mono (by have := HBZ.out.size; have := HBB.out; show b ≤ wr.heap.size; omega)))
end Go.Proofs.Ytgfefopihkiihaa
