import Derived.Test.YtoeldomhkeancaaOn0
namespace Go.Proofs.Ytoeldomhkeancaa
open Go.RowKit Go.Maps
set_option maxRecDepth 100000

theorem new_lv {w' : World} {B : Nat} {r d q : Int} {loss : List Bool} {jit : List Int} {lv jv : Value} {p : Nat} (h : LkAt w' p (Lk.fresh r d q loss jit lv jv)) (hb : w'.heap.size ≤ B) : ∀ g, (Lk.fresh r d q loss jit lv jv).lv.ownBlock = some g → g < B := fun g e => by
  have := own_lt h.lo e
  omega
theorem tm_top {t : Int} (h : t ≤ 4611686018427387904) : tm t 18446744073709551615 = 4611686018427387904 := by unfold tm; omega
set_option maxHeartbeats 32000000 in
/-- Each frame that is taken comes once, as it was put, and the counts add up. -/
theorem once_law {w : World} {r d q : Int} {la ja sa : Option Addr} {lc jc sc : Nat} {loss : List Bool} {jit : List Int} {l : List Opv} (hlo : ElAt w la (loss.map Value.bool)) (hj : ElAt w ja (jit.map (Value.int .i64))) (hll : loss.length ≤ 140737488355328) (hjl : jit.length ≤ 140737488355328) (hS : OpsAt w w.heap.size sa l) (hl : l.length ≤ 2932031007402) :
    Calls Try.prog 5 #[.agg (confC r d q (.slice la loss.length lc) (.slice ja jit.length jc)).toArray, .slice sa l.length sc] w fun e w' => e = .returned (.bool true) ∧ Below w.heap.size w w' := by
  have HA : Hid (∀ w, Calls Try.prog 13 #[] w fun e w' => e = .returned (.bool true) ∧ Below w.heap.size w w') := alive_any
  have hb1 := below_new w (.cells #[.int .i64 r, .int .i64 d, .int .i64 q, .slice la loss.length lc, .slice ja jit.length jc] 28)
  have R := Row.new w (confC r d q (.slice la loss.length lc) (.slice ja jit.length jc)) 28
  have HB1 := hid hb1
  have HR := hid R
  have HS := hid hS
  have HLO := hid hlo
  have HJI := hid hj
  simp only [confC] at *
  clear R hb1 hS hlo hj
  go_enter Try.func5, Try.ntmps5
  go_upto_region 1 with fail
  revert HB1 HR
  generalize w.alloc (.cells #[.int .i64 r, .int .i64 d, .int .i64 q, .slice la loss.length lc, .slice ja jit.length jc] 28) = w1
  intro HB1 HR
  obtain ⟨b, hb⟩ : ∃ b, w.heap.size = b := ⟨_, rfl⟩
  rw [hb] at HR ⊢
  have HBB := hid hb
  clear hb
  go_upto_region 3 with (go_at_call 13; refine (HA.out _).mono ?_; rintro e w1b ⟨rfl, hb1⟩; have HB1b := hid (below_two HB1.out hb1 (Nat.le_refl _)); have HRb := hid (HR.out.kept hb1 HR.out.lt); clear hb1 HB1 HR)
  have HF := hid (fitc_any (r := r) (d := d) (q := q) (lc := lc) (jc := jc) (HLO.out.kept HB1b.out) (HJI.out.kept HB1b.out) hll hjl)
  have x0 := HRb.out.cell 0 _ rfl
  have x1 := HRb.out.cell 1 _ rfl
  have x2 := HRb.out.cell 2 _ rfl
  have x3 := HRb.out.cell 3 _ rfl
  have x4 := HRb.out.cell 4 _ rfl
  clear HLO HJI hll hjl
  go_upto_region 4 with (first
    | (go_at_call 14; refine HF.out.mono ?_; rintro e w2 ⟨r', d', q', loss', jit', v3, v4, rfl, hf', hO3, hO4, hB2⟩; obtain ⟨a3, c3, rfl, -⟩ := own1 hO3; obtain ⟨a4, c4, rfl, -⟩ := own1 hO4; have HR2 := hid (HRb.out.kept hB2 HRb.out.lt); have HF2 := hid hf'; have HO3 := hid hO3; have HO4 := hid hO4; have HB2 := hid hB2; clear hf' hO3 hO4 hB2 HF)
    | (show wpList _ _ _ (Oper.mk none (.store 28 (.tmp 2) (.tmp 24)) _ _ _ _ :: _) _ _; refine HR2.out.wpStore' 28 (.tmp 2) (.tmp 24) (confC r' d' q' (.slice a3 loss'.length c3) (.slice a4 jit'.length c4)) rfl rfl rfl rfl rfl conf_one info_28 ?_; intro w3 HW3; simp only [Act.put]))
  have hR3 : Row w3 b (confC r' d' q' (.slice a3 loss'.length c3) (.slice a4 jit'.length c4)) 28 := by rw [HW3.out]; exact HR2.out.row _
  have hF3 : Fr (fun j => j = b) w2 w3 := by rw [HW3.out]; exact fr_row _ _ _
  have hO3 := hF3.own HO3.out (fun g e e' => own_row HO3.out HR2.out (by decide) (e' ▸ e))
  have hO4 := hF3.own HO4.out (fun g e e' => own_row HO4.out HR2.out (by decide) (e' ▸ e))
  have HB3 : Hid (Below w.heap.size w w3) := by
    have h1 : Below w.heap.size w w2 := below_two HB1b.out HB2.out (Nat.le_refl _)
    exact h1.trans (hF3.below (fun x e => by have := HBB.out; omega) h1.size)
  have HE3 := hid (el_own hO3)
  have HE4 := hid (el_own hO4)
  have HR3 := hid hR3
  clear x0 x1 x2 x3 x4 HW3 HR2 HO3 HO4 hR3 hF3 hO3 hO4 HB2 HRb HB1b
  have y0 := HR3.out.cell 0 _ rfl
  have y1 := HR3.out.cell 1 _ rfl
  have y2 := HR3.out.cell 2 _ rfl
  have y3 := HR3.out.cell 3 _ rfl
  have y4 := HR3.out.cell 4 _ rfl
  have HN := hid (new_ok (r := r') (d := d') (q := q') (lc := c3) (jc := c4) HE3.out HE4.out HF2.out)
  go_upto_region 5 with (go_at_call 15; refine HN.out.mono ?_; rintro e w5 ⟨p, lv, jv, rfl, hA, hp, hB4⟩; have HA5 := hid hA; have HP := hid hp; have HB5 := hid hB4; clear hA hp hB4 HN)
  clear y0 y1 y2 y3 y4
  have HR5 := hid (HR3.out.kept HB5.out HR3.out.lt)
  obtain ⟨B2, hB2⟩ : ∃ B2, w5.heap.size = B2 := ⟨_, rfl⟩
  have HM0 : Hid (OnM w.heap.size B2 0 p b (confC r' d' q' (.slice a3 loss'.length c3) (.slice a4 jit'.length c4)) (Lk.fresh r' d' q' loss' jit' lv jv) [] [] (.slice none 0 0) (.slice none 0 0) q' w w5) := by
    have s4 := HB3.out.size
    have s5 := HB5.out.size
    have hpp := HP.out
    exact ⟨Lw.fresh HA5.out HF2.out (by omega) (by omega), ⟨rfl, rfl, fun x hx => absurd hx List.not_mem_nil⟩, ⟨rfl, .inl ⟨rfl, rfl⟩⟩, ⟨rfl, .inl ⟨rfl, rfl⟩⟩, HR5.out, below_two HB3.out HB5.out (Nat.le_refl _), new_lv HA5.out (by omega), by omega, by omega, rfl⟩
  have HK0 : Hid ((Lk.fresh r' d' q' loss' jit' lv jv).come = 0 ∧ (Lk.fresh r' d' q' loss' jit' lv jv).lost + (Lk.fresh r' d' q' loss' jit' lv jv).full = 0) := ⟨rfl, rfl⟩
  clear HE3 HE4 HB3 HB5 HA5 HP HF2 HR3 HR5 hB2
  go_upto_region 11 with fail
  generalize hbase : w.heap.size = base at *
  have HBE := hid hbase
  clear hbase
  generalize Lk.fresh r' d' q' loss' jit' lv jv = K0 at *
  generalize hCC : confC r' d' q' (.slice a3 loss'.length c3) (.slice a4 jit'.length c4) = C at *
  have HCC := hid hCC
  clear hCC
  go_wp2_with fail
  go_loopw [7, 8, 9, 10, 11] (fun v cv tk ls t wr => ∃ (i ci : Nat) (K : Lk) (ns : List Nt) (cm : List Bool), tk = .int .i64 K.come ∧ ls = .int .i64 (K.lost + K.full) ∧ t = .int .i64 i ∧ i ≤ l.length + 1 ∧ ci ≤ i ∧ ci ≤ l.length ∧ OnM base B2 ci p b C K ns cm v cv q' w wr ∧ (i = l.length + 1 → ∀ y ∈ K.Fl, 4611686018427387904 < y.at_)) (fun _ _ _ _ t _ => l.length + 1 - (intOf t).toNat)
  case atStart => exact ⟨0, 0, K0, [], [], by rw [HK0.out.1], by rw [HK0.out.2], by go_num, by omega, Nat.le_refl _, Nat.zero_le _, HM0.out, fun h => by omega⟩
  case round =>
    obtain ⟨i, ci, K, ns, cm, rfl, rfl, rfl, hi, hci1, hci2, hM, hlast⟩ := hrel
    obtain ⟨na, nc, rfl, -⟩ := own_row_at ncells_len hM.rn
    obtain ⟨ca, cc, rfl, -⟩ := own1 hM.rc
    have HM := hid hM
    have HLA := hid hlast
    have hli : (l.length : Int) ≤ 2932031007402 := by omega
    have hi0 : (0 : Int) ≤ (i : Int) := by omega
    have hc0 := hM.l.c0
    have hl0 := hM.l.l0
    have hf0 := hM.l.f0
    have hcons := hM.l.cons
    have hput := hM.l.put
    have hnl := hM.on.len
    have hnsb : (ns.length : Int) ≤ 2932031007402 := by omega
    have HCL := hid hM.on.cml
    clear hM HM0 HK0 hlast
    by_cases hle : i ≤ l.length
    · have hlei : (i : Int) ≤ (l.length : Int) := by omega
      go_upto_region 15 with fail
      refine wp_world fun wq HWq => ?_
      obtain ⟨qb, hqb⟩ : ∃ qb, wr.heap.size = qb := ⟨_, rfl⟩
      have hRq : Row wq qb [.int .i64 2, .bool false, .int .u64 18446744073709551615, .slice none 0 0] 53 := by rw [HWq.out, ← hqb]; exact Row.new wr _ 53
      have hbq : Below wr.heap.size wr wq := by rw [HWq.out]; exact below_new wr _
      rw [hqb]
      have HRq := hid hRq
      clear HWq hRq
      by_cases hlt : i < l.length
      · have hlti : (i : Int) < (l.length : Int) := by omega
        obtain ⟨o, ho⟩ : ∃ o, l[i]? = some o := ⟨_, List.getElem?_eq_getElem hlt⟩
        obtain ⟨⟨g, f, rfl, hg, c0, c1, c2, c3'⟩, hB, hbl, hfa⟩ := (HS.out.kept (HM.out.kept hbq).below) i o ho
        obtain ⟨kind, sec, now, fa, fc, bs⟩ := o
        dsimp only at c0 c1 c2 c3' hB hbl hfa
        go_upto_region 17 with (first
          | (show wpList _ _ _ (Oper.mk none (.store 53 (.tmp 12) (.tmp 50)) _ _ _ _ :: _) _ _; refine HRq.out.wpStore' 53 (.tmp 12) (.tmp 50) [.int .i64 kind, .bool sec, .int .u64 now, .slice fa bs.length fc] rfl rfl rfl rfl rfl (by intro u hu; simp only [List.mem_cons, List.not_mem_nil, or_false] at hu; rcases hu with rfl | rfl | rfl | rfl <;> rfl) info_53 ?_; intro ws HWs; simp only [Act.put]))
        have hRs : Row ws qb [.int .i64 kind, .bool sec, .int .u64 now, .slice fa bs.length fc] 53 := by rw [HWs.out]; exact HRq.out.row _
        have hbs : Below wr.heap.size wr ws := by rw [HWs.out]; exact below_setRow hbq (by omega) _
        have HMs := hid (HM.out.kept hbs)
        have HBY : Hid (BytesAt ws fa bs) := by
          have hF : Fr (fun j => j = qb) wq ws := by rw [HWs.out]; exact fr_row _ _ _
          refine hB.fr hF (fun ad e hne e2 => ?_)
          have h1 := hfa ad e hne
          have h2 := HM.out.l.bw
          omega
        have d0 := hRs.cell 0 _ rfl
        have d2 := hRs.cell 2 _ rfl
        have d3 := hRs.cell 3 _ rfl
        have HRs := hid hRs
        clear c0 c1 c2 c3' hB HWs hbs hRs hbq HRq HM hqb
        by_cases hk : kind = 1
        · subst hk
          as_aux_lemma =>
            have HPU := hid (HMs.out.l.put_any (by omega) now (cap := fc) HBY.out rfl hbl hfa)
            go_upto_region 20 with (go_at_call 9; refine HPU.out.mono ?_; rintro e w8 hP; obtain ⟨v8, rfl, K1, K', ok, rfl, hL8, hB8, hLm, hG8, hC8⟩ := putR_all hP; clear hP HPU)
            have hcnt := put_counts hG8 hC8
            have HM0F : Hid (0 ≤ K.lost + K.full) := by show _ ≤ _; omega
            have HON8 := hid ((HMs.out.on.put (fun x hx => (HMs.out.l.nums x hx).2) hG8 hC8 fc HBY.out hfa).kept hB8)
            have HRN8 := hid (own_lm HMs.out.l.at_ hLm HMs.out.rn (by decide) (by decide) (by decide))
            have HRC8 := hid (own_lm HMs.out.l.at_ hLm HMs.out.rc (by decide) (by decide) (by decide))
            have HCF8 := hid (hLm.fr.row HMs.out.conf (row_apart HMs.out.l.at_ HMs.out.conf (by decide) (by decide) (by decide)))
            have hR8 := hLm.fr.row HRs.out (row_apart HMs.out.l.at_ HRs.out (by decide) (by decide) (by decide))
            have d3' := hR8.cell 3 _ rfl
            have HB8 := hid (HMs.out.below.trans hB8)
            have HL8 := hid hL8
            have HCO : Hid (K'.come = K.come) := hcnt.2.1
            have HLF := hid hcnt.1
            have HQU : Hid (K'.queue = q') := hcnt.2.2.1.trans HMs.out.que
            have HLV : Hid (∀ g, K'.lv.ownBlock = some g → g < B2) := by
              intro g e
              rw [hcnt.2.2.2] at e
              exact HMs.out.lvb g e
            have HBB2 := hid HMs.out.b2
            have HB2W : Hid (B2 ≤ w8.heap.size) := Nat.le_trans HMs.out.b2w hLm.fr.size
            have hnl1 : ns.length + 1 ≤ 3000000000000 := by omega
            have hcl1 : cm.length + 1 ≤ 17592186044416 := by have := HCL.out; omega
            clear hcnt hB8 hLm hG8 hC8 hL8 hR8 HMs d0 d2 d3
            have hbw8 := HL8.out.bw
            go_upto_region 21 with (at_builtin; refine wpAppendN (.tmp 61) (.tmp 66) rfl rfl (L := ns) rfl (own_below HRN8.out (below_new _ _)) (Nat.le_trans hbw8 (below_new _ _).size) rfl (e := ⟨0, fa, fc, bs.length, ok⟩) (Row.new w8 (ncells ⟨0, fa, fc, bs.length, ok⟩) 59) hnl1 ?_; intro w9 v9 hO9 hg9)
            have hba := below_new w8 (.cells (ncells ⟨0, fa, fc, bs.length, ok⟩).toArray 59)
            have hRNa := own_below HRN8.out hba
            have hLa := HL8.out.below hba
            have hF9 : Fr (fun k => (Value.slice na ns.length nc).ownBlock = some k) (w8.alloc (.cells (ncells ⟨0, fa, fc, bs.length, ok⟩).toArray 59)) w9 := Fr.of_grown hg9.out.1 (fun k e => .inl e)
            have HL9 := hid (hLa.fr hF9 (mem_apart hLa.at_ hRNa (by decide) (by decide) (by decide) (by decide) (by decide) (by decide)))
            have HRC9 := hid (hF9.own (own_below HRC8.out hba) (fun g e e2 => own_two (own_below HRC8.out hba) hRNa (by decide) e e2))
            have HCF9 := hid (hF9.row (HCF8.out.kept hba HCF8.out.lt) (fun e => own_row hRNa (HCF8.out.kept hba HCF8.out.lt) (by decide) e))
            have hB9 : Below base w8 w9 := (hba.mono hbw8).trans (hF9.below (fun k e => own_ge hRNa e) (Nat.le_trans hbw8 hba.size))
            have HB9 := hid (HB8.out.trans hB9)
            have HON9 := hid (HON8.out.kept hB9)
            have HB2W9 : Hid (B2 ≤ w9.heap.size) := Nat.le_trans HB2W.out (Nat.le_trans hba.size hF9.size)
            have HRN9 := hO9
            clear hba hRNa hLa hF9 hB9 hO9 hg9 d3' HRN8 HRC8 HCF8 HB8 HL8 HON8 HB2W hbw8
            obtain ⟨ii, i1, i2, i3, i4⟩ := inf4
            have hbw9 := HB2W9.out
            go_upto_region 22 with (at_builtin; refine wpAppend1 Try.underlying25 i1 i2 i3 i4 rfl (by decide) (.tmp 68) (.tmp 69) rfl rfl (base := B2) (old := cm.map Value.bool) rfl (own_below HRC9.out (below_new _ _)) (Nat.le_trans hbw9 (below_new _ _).size) rfl (fun e => by cases e) rfl (el_one w9 (.bool false) 4) (by intro u hu; simp at hu; rw [hu]; rfl) hcl1 ?_; intro w10 v10 hO10 hg10)
            have hba := below_new w9 (.cells #[.bool false] 4)
            have hRCa := own_below HRC9.out hba
            have hLa := HL9.out.below hba
            have hF10 : Fr (fun k => (Value.slice ca cm.length cc).ownBlock = some k) (w9.alloc (.cells #[.bool false] 4)) w10 := Fr.of_grown hg10.out.1 (fun k e => .inl e)
            have hrc10 : w10.ownsRow B2 4 1 v10 (cm ++ [false]).length ((cm ++ [false]).map Value.bool) := by
              have h1 := hO10.out
              rw [show (cm ++ [false]).length = cm.length + 1 by simp, List.map_append]
              exact h1
            have hB10 : Below base w9 w10 := (hba.mono HL9.out.bw).trans (hF10.below (fun k e => by have := own_ge hRCa e; have := HBB2.out; omega) (Nat.le_trans HL9.out.bw hba.size))
            have HMX : Hid (OnM base B2 (ci + 1) p b C K' (ns ++ [⟨0, fa, fc, bs.length, ok⟩]) (cm ++ [false]) v9 v10 q' w w10) :=
              ⟨hLa.fr hF10 (marks_apart hLa.at_ hRCa HLV.out), HON9.out.kept hB10, hF10.own (own_below HRN9.out hba) (fun g e e2 => own_two (own_below HRN9.out hba) hRCa (by decide) e e2), hrc10, hF10.row (HCF9.out.kept hba HCF9.out.lt) (fun e => own_row hRCa (HCF9.out.kept hba HCF9.out.lt) (by decide) e), HB9.out.trans hB10, HLV.out, HBB2.out, Nat.le_trans hbw9 (Nat.le_trans hba.size hF10.size), HQU.out⟩
            clear hba hRCa hLa hF10 hrc10 hB10 hO10 hg10 HL9 HRC9 HCF9 HB9 HON9 HRN9 HB2W9 HBB2 HLV HQU i1 i2 i3 i4 hbw9
            obtain ⟨na2, nc2, rfl, -⟩ := own_row_at ncells_len HMX.out.rn
            rw [← HCO.out]
            cases ok with
            | false =>
              obtain ⟨N, hN⟩ : ∃ N, (ns ++ [(⟨0, fa, fc, bs.length, false⟩ : Nt)]).length = N := ⟨_, rfl⟩
              rw [hN] at HMX ⊢
              have HN := hid hN
              clear hN hcons hput hnl hc0 hl0 hf0 hnsb hnl1 hcl1
              have HLX : Hid (K.lost + K.full + 1 = K'.lost + K'.full) := HLF.out.symm
              have hlb : K.lost + K.full + 1 ≤ 2932031007403 := by have h1 := HMX.out.l.cons; have h2 := HMX.out.l.put; have h3 := HMX.out.l.c0; have h4 := HLX.out; omega
              have hlc : 0 ≤ K.lost + K.full := by have h1 := HMX.out.l.l0; have h2 := HMX.out.l.f0; have h3 := HLX.out; have h5 := HM0F.out; omega
              clear hfa hbl
              go_upto_region 34 with fail
              rw [HLX.out]
              clear hlb hlc
              have HST := hid (stat_any HMX.out.l.at_ HMX.out.l.ok.q0)
              go_upto_region 35 with (first
                | (go_at_call 12; refine HST.out.mono ?_; rintro e wt ⟨rfl, hBt⟩; have HBt := hid hBt; clear hBt HST)
                | (show wpList _ _ _ (Oper.mk none (.store 30 (.tmp 17) (.tmp 150)) _ _ _ _ :: _) _ _; refine Row.wpStore' (Row.new wt stat0 30) 30 (.tmp 17) (.tmp 150) (statC K') rfl rfl rfl rfl rfl (statC_one K') info_30 ?_; intro wu HWu; simp only [Act.put]))
              obtain ⟨qs, hqs⟩ : ∃ qs, wt.heap.size = qs := ⟨_, rfl⟩
              have hRu : Row wu qs (statC K') 30 := by rw [HWu.out, ← hqs]; exact (Row.new wt stat0 30).row _
              have hbu : Below w10.heap.size w10 wu := by
                rw [HWu.out]
                exact below_setRow (HBt.out.trans ((below_new wt _).mono HBt.out.size)) HBt.out.size _
              rw [hqs]
              have HMu := hid (HMX.out.kept hbu)
              have u2 := hRu.cell 2 _ rfl
              have u3 := hRu.cell 3 _ rfl
              have u4 := hRu.cell 4 _ rfl
              have u5 := hRu.cell 5 _ rfl
              have u6 := hRu.cell 6 _ rfl
              have u7c := hRu.cell 7 _ rfl
              have cq : wu.cell? ⟨b, 2, none⟩ = some (.int .i64 q') := HMu.out.conf.cell 2 _ (by rw [← HCC.out]; rfl)
              have k1 := HMu.out.l.l0
              have k2 := HMu.out.l.f0
              have k3 := HMu.out.l.c0
              have k4 := HMu.out.l.cons
              have k5 := HMu.out.on.len
              rw [HN.out] at k5
              have k11 : (N : Int) ≤ 2932031007402 := by have := HMu.out.l.put; omega
              have k6 := HMu.out.l.put
              have k7 : 0 ≤ K'.wait := by rw [HMu.out.l.ok.wait]; exact sumW_nonneg HMu.out.l.ok.wt
              have k8 : K'.wait ≤ q' := by have := HMu.out.l.ok.waitq; have := HMu.out.que; omega
              have k9 : ¬ K'.wait < 0 := by omega
              have k10 : ¬ q' < K'.wait := by omega
              rw [k5] at u2
              rw [k5] at k4
              have hF0 : (0 : Int) ≤ (K'.Fl.length : Int) := by omega
              clear hRu hbu HWu HBt hqs HMX k5
              go_wp2_with fail
              go_roundw
              case rel => exact ⟨i + 1, ci + 1, K', ns ++ [⟨0, fa, fc, bs.length, false⟩], cm ++ [false], by go_num, by go_num, by go_num, by omega, by omega, by omega, HMu.out, fun h => by omega⟩
              case measure => first | (simp [intOf]; done) | (simp [intOf]; omega)
            | true =>
              obtain ⟨N, hN⟩ : ∃ N, (ns ++ [(⟨0, fa, fc, bs.length, true⟩ : Nt)]).length = N := ⟨_, rfl⟩
              rw [hN] at HMX ⊢
              have HN := hid hN
              clear hN hcons hput hnl hc0 hl0 hf0 hnsb hnl1 hcl1
              have hlf : K.lost + K.full = K'.lost + K'.full := by have := HLF.out; simp at this; omega
              rw [hlf]
              clear hlf hfa hbl
              have HST := hid (stat_any HMX.out.l.at_ HMX.out.l.ok.q0)
              go_upto_region 35 with (first
                | (go_at_call 12; refine HST.out.mono ?_; rintro e wt ⟨rfl, hBt⟩; have HBt := hid hBt; clear hBt HST)
                | (show wpList _ _ _ (Oper.mk none (.store 30 (.tmp 17) (.tmp 150)) _ _ _ _ :: _) _ _; refine Row.wpStore' (Row.new wt stat0 30) 30 (.tmp 17) (.tmp 150) (statC K') rfl rfl rfl rfl rfl (statC_one K') info_30 ?_; intro wu HWu; simp only [Act.put]))
              obtain ⟨qs, hqs⟩ : ∃ qs, wt.heap.size = qs := ⟨_, rfl⟩
              have hRu : Row wu qs (statC K') 30 := by rw [HWu.out, ← hqs]; exact (Row.new wt stat0 30).row _
              have hbu : Below w10.heap.size w10 wu := by
                rw [HWu.out]
                exact below_setRow (HBt.out.trans ((below_new wt _).mono HBt.out.size)) HBt.out.size _
              rw [hqs]
              have HMu := hid (HMX.out.kept hbu)
              have u2 := hRu.cell 2 _ rfl
              have u3 := hRu.cell 3 _ rfl
              have u4 := hRu.cell 4 _ rfl
              have u5 := hRu.cell 5 _ rfl
              have u6 := hRu.cell 6 _ rfl
              have u7c := hRu.cell 7 _ rfl
              have cq : wu.cell? ⟨b, 2, none⟩ = some (.int .i64 q') := HMu.out.conf.cell 2 _ (by rw [← HCC.out]; rfl)
              have k1 := HMu.out.l.l0
              have k2 := HMu.out.l.f0
              have k3 := HMu.out.l.c0
              have k4 := HMu.out.l.cons
              have k5 := HMu.out.on.len
              rw [HN.out] at k5
              have k11 : (N : Int) ≤ 2932031007402 := by have := HMu.out.l.put; omega
              have k6 := HMu.out.l.put
              have k7 : 0 ≤ K'.wait := by rw [HMu.out.l.ok.wait]; exact sumW_nonneg HMu.out.l.ok.wt
              have k8 : K'.wait ≤ q' := by have := HMu.out.l.ok.waitq; have := HMu.out.que; omega
              have k9 : ¬ K'.wait < 0 := by omega
              have k10 : ¬ q' < K'.wait := by omega
              rw [k5] at u2
              rw [k5] at k4
              have hF0 : (0 : Int) ≤ (K'.Fl.length : Int) := by omega
              clear hRu hbu HWu HBt hqs HMX k5
              go_wp2_with fail
              go_roundw
              case rel => exact ⟨i + 1, ci + 1, K', ns ++ [⟨0, fa, fc, bs.length, true⟩], cm ++ [false], by go_num, by go_num, by go_num, by omega, by omega, by omega, HMu.out, fun h => by omega⟩
              case measure => first | (simp [intOf]; done) | (simp [intOf]; omega)
        · have hk1 : (kind == 1) = false := by simpa using hk
          by_cases hk2 : kind = 2
          · subst hk2
            clear d3 HBY hbl hfa
            as_aux_lemma =>
              have HTA := hid (HMs.out.l.take_any2 (by omega) now)
              go_upto_region 26 with (go_at_call 11; refine HTA.out.mono ?_; rintro e w6 hT; obtain ⟨K1, K', u, xs, rfl, hl6, hb6, hLm, hG, hk1, hTk, hy, hO, hBy⟩ := hT; clear HTA)
              have hcnt := take_counts hG hTk
              have hon6 := HMs.out.on.kept hb6
              have HONE := hid (fun (m : Nat) (x : It Value) (hx : xs[m]? = some x) => hon6.one HMs.out.l.nd hG hTk hx)
              have HON := hid (hon6.take HMs.out.l.nd hG hTk)
              have hsub : ∀ x ∈ K'.Fl, x ∈ K.Fl := fun x hx => hcnt.2.2.2.2.2.2.mem_iff.1 (List.mem_append_right _ hx)
              have HM6 : Hid (OnM base B2 ci p b C K' ns cm (.slice na ns.length nc) (.slice ca cm.length cc) q' w w6) :=
                ⟨hl6, hon6.sub hcnt.2.2.2.2.1 hcnt.2.2.2.2.2.1 hsub, own_lm HMs.out.l.at_ hLm HMs.out.rn (by decide) (by decide) (by decide), own_lm HMs.out.l.at_ hLm HMs.out.rc (by decide) (by decide) (by decide), hLm.fr.row HMs.out.conf (row_apart HMs.out.l.at_ HMs.out.conf (by decide) (by decide) (by decide)), HMs.out.below.trans hb6, by rw [hcnt.2.2.2.1]; exact HMs.out.lvb, HMs.out.b2, Nat.le_trans HMs.out.b2w hLm.fr.size, hcnt.2.2.1.trans HMs.out.que⟩
              have HCO : Hid (K'.come = K.come + xs.length) := hcnt.2.1
              have HLF : Hid (K'.lost + K'.full = K.lost + K.full) := hcnt.1
              have HTOP : Hid (i + 1 = l.length + 1 → ∀ y ∈ K'.Fl, 4611686018427387904 < y.at_) := fun h => by omega
              have HXL : Hid ((xs.length : Int) ≤ 2932031007402) := by
                have h1 := hcnt.2.2.2.2.2.2.length_eq
                have h2 := HMs.out.l.fl (by omega)
                simp at h1
                show (xs.length : Int) ≤ _
                omega
              have HBX := hid hBy
              obtain ⟨xa, xc, rfl, hxx⟩ := own3 hO
              have HXX := hid hxx
              have HOX := hid hO
              have hkc0 : 0 ≤ K.come := hc0
              have hkc1 : K.come ≤ 2932031007402 := by omega
              clear hcnt hon6 hsub hl6 hb6 hLm hG hk1 hTk hy hO hBy hxx HMs d0 d2 hcons hput hnl hc0 hl0 hf0
              have hxl := HXL.out
              go_upto_region 27 with fail
              go_loopw [9, 15] (fun tk t wx => ∃ m : Nat, tk = .int .i64 (K.come + m) ∧ t = .int .i64 m ∧ m ≤ xs.length ∧ Fr (fun k => (Value.slice ca cm.length cc).ownBlock = some k) w6 wx ∧ wx.ownsRow B2 4 1 (.slice ca cm.length cc) cm.length ((setAll cm (xs.take m)).map Value.bool)) (fun _ t _ => xs.length - (intOf t).toNat)
              case atStart => exact ⟨0, by simp, by go_num, Nat.zero_le _, Fr.refl _ _, HM6.out.rc⟩
              case round =>
                obtain ⟨m, rfl, rfl, hm, hFm, hcm⟩ := hrel
                have hm0 : (0 : Int) ≤ (m : Int) := by omega
                have HFM := hid hFm
                have HCM := hid hcm
                by_cases hml : m < xs.length
                · have hmi : (m : Int) < (xs.length : Int) := by omega
                  obtain ⟨x, hx⟩ : ∃ x, xs[m]? = some x := ⟨_, List.getElem?_eq_getElem hml⟩
                  obtain ⟨e0, em, ⟨y, ey, eyo, eyn, eyb, eyd⟩, ez⟩ := HONE.out m x hx
                  obtain ⟨gx, hgx, z0, z1, z2⟩ := HXX.out m x hx
                  obtain ⟨n, hn⟩ : ∃ n : Nat, x.num = (n : Int) := ⟨x.num.toNat, by omega⟩
                  have hnn : x.num.toNat = n := by omega
                  rw [hnn] at em ey
                  have hnl2 : n < ns.length := (List.getElem?_eq_some_iff.1 ey).1
                  have hni : (n : Int) < (ns.length : Int) := by omega
                  have hnc2 : (n : Int) < (cm.length : Int) := by have := HCL.out; omega
                  have hn0 : (0 : Int) ≤ (n : Int) := by omega
                  have hd1 : decide ((ns.length : Int) ≤ (n : Int)) = false := decide_eq_false (by omega)
                  have hd2 : decide (ns.length ≤ n) = false := decide_eq_false (by omega)
                  have hem : ((setAll cm (xs.take m)).map Value.bool)[n]? = some (.bool false) := by rw [List.getElem?_map, em]; rfl
                  obtain ⟨gc, cc', hcv, hgb, r0, r1⟩ := own_get hcm hem
                  simp only [Value.slice.injEq] at hcv
                  obtain ⟨hca, -, -⟩ := hcv
                  obtain ⟨na', nc', hna, hnr⟩ := own_row_at ncells_len HM6.out.rn
                  simp only [Value.slice.injEq] at hna
                  obtain ⟨gn, hgn, hyc⟩ := hnr n y ey
                  have hnag : na = some ⟨gn, 0, none⟩ := hna.1.trans hgn
                  have hxo := hFm.own (HBX.out x (List.mem_of_getElem? hx)) (fun g e e2 => own_two (HBX.out x (List.mem_of_getElem? hx)) HM6.out.rc (by decide) e e2)
                  obtain ⟨wa, wc, hxw, hxB, -⟩ := ownBy_shape hxo
                  obtain ⟨ya, yf, yc, yn, yo⟩ := y
                  dsimp only at eyo eyn eyb eyd hyc
                  subst eyo
                  have hyB : BytesAt wr yf (K.D x.num) := eyb.fr hFm (fun ad e hne e2 => by have h1 := eyd ad e hne; have h2 := own_ge HM6.out.rc e2; have h3 := HM6.out.b2; omega)
                  have hnx : ∀ g, (Value.slice xa xs.length xc).ownBlock = some g → ¬ (Value.slice ca cm.length cc).ownBlock = some g := fun g e e2 => own_two HOX.out HM6.out.rc (by decide) e e2
                  have hnn2 : ∀ g, (Value.slice na ns.length nc).ownBlock = some g → ¬ (Value.slice ca cm.length cc).ownBlock = some g := fun g e e2 => own_two HM6.out.rn HM6.out.rc (by decide) e e2
                  subst hca hgx hnag
                  have q1 : wr.cell? ⟨gn, n * 3 + 1, none⟩ = some (.slice yf yn yc) := hFm.cell (hyc 1 _ rfl) (hnn2 gn rfl)
                  have q2 : wr.cell? ⟨gn, n * 3 + 2, none⟩ = some (.bool true) := hFm.cell (hyc 2 _ rfl) (hnn2 gn rfl)
                  rw [hn] at z1
                  rw [hxw] at z2
                  have p0 := hFm.cell z0 (hnx gx rfl)
                  have p1 := hFm.cell z1 (hnx gx rfl)
                  have p2 := hFm.cell z2 (hnx gx rfl)
                  have hcx : ∀ q, (convert 23 9 (.slice wa (K.D x.num).length wc)).run Try.prog (wr.drewN q) = .ok (.string (strOf (K.D x.num))) (wr.drewN q) := fun q => convert_any (w := wr.drewN q) hxB rfl
                  have hcy : ∀ q, (convert 23 9 (.slice yf yn yc)).run Try.prog (wr.drewN q) = .ok (.string (strOf (K.D x.num))) (wr.drewN q) := fun q => convert_any (w := wr.drewN q) hyB eyn.symm
                  have HSET : Hid (((setAll cm (xs.take m)).map Value.bool).set n (.bool true) = (setAll cm (xs.take (m + 1))).map Value.bool) := by
                    show _ = _
                    rw [List.take_succ_eq_append_getElem hml, setAll_snoc, (List.getElem?_eq_some_iff.1 hx).2, hnn, List.map_set]
                  have HPV : Hid (∀ j z, m = j + 1 → xs[j]? = some z → wr.cell? ⟨gx, j * 3, none⟩ = some (.int .u64 z.at_) ∧ ¬ x.at_ < z.at_) := fun j z hmj hz => by
                    obtain ⟨gx2, hg2, v0, -, -⟩ := HXX.out j z hz
                    simp only [Option.some.injEq, Addr.mk.injEq] at hg2
                    obtain ⟨rfl, -, -⟩ := hg2
                    have h1 := ez z (by omega) (by rw [hmj]; simpa using hz)
                    exact ⟨hFm.cell v0 (hnx gx rfl), by omega⟩
                  clear z0 z1 z2 hyc hnr hna hxo hxw hxB eyb eyd hyB hnx hnn2 hFm hcm hem em ey ez hx hgb hgn eyn hn hnn
                  generalize strOf (K.D x.num) = sx at *
                  generalize (K.D x.num).length = lx at *
                  cases m with
                  | zero =>
                    clear HPV
                    generalize x.at_ = xt at *
                    go_wp2_with (go_quiet (fail))
                    go_roundw
                    case rel => exact ⟨0 + 1, by first | rfl | (congr 1; omega) | (simp; done) | (simp; omega), by go_num, by omega, (HFM.out.drewN _).setCell gc n _ (.inl rfl), by have h := own_set (w := wr) HCM.out n (.bool true); rw [HSET.out] at h; exact h⟩
                    case measure => simp [intOf]; omega
                  | succ j =>
                    obtain ⟨z, hz⟩ : ∃ z, xs[j]? = some z := ⟨_, List.getElem?_eq_getElem (by omega)⟩
                    obtain ⟨v0, hvz⟩ := HPV.out j z rfl hz
                    have hj1 : ((j + 1 : Nat) : Int) - 1 = (j : Int) := by omega
                    have hjp : (0 : Int) < ((j + 1 : Nat) : Int) := by omega
                    have hjp2 : decide ((0 : Int) < (j : Int) + 1) = true := decide_eq_true (by omega)
                    have hvd : decide (x.at_ < z.at_) = false := decide_eq_false hvz
                    have hji : (j : Int) < (xs.length : Int) := by omega
                    clear HPV hz
                    generalize x.at_ = xt at *
                    generalize z.at_ = zt at *
                    go_wp2_with (go_quiet (fail))
                    go_roundw
                    case rel => exact ⟨j + 1 + 1, by first | rfl | (congr 1; omega) | (simp; done) | (simp; omega), by go_num, by omega, (HFM.out.drewN _).setCell gc n _ (.inl rfl), by have h := own_set (w := wr) HCM.out n (.bool true); rw [HSET.out] at h; exact h⟩
                    case measure => simp [intOf]; omega
                · obtain rfl : m = xs.length := by omega
                  have hmi : ¬ (xs.length : Int) < (xs.length : Int) := by omega
                  rw [List.take_length] at hcm
                  have HMX : Hid (OnM base B2 ci p b C K' ns (setAll cm xs) (.slice na ns.length nc) (.slice ca cm.length cc) q' w wr) := HM6.out.marks hFm (setAll_len _ _) hcm HON.out
                  clear hFm hcm HFM HCM HONE HXX HBX HM6 HON HOX
                  rw [← HCO.out]
                  rw [← HLF.out]
                  have HST := hid (stat_any HMX.out.l.at_ HMX.out.l.ok.q0)
                  go_upto_region 35 with (first
                    | (go_at_call 12; refine HST.out.mono ?_; rintro e wt ⟨rfl, hBt⟩; have HBt := hid hBt; clear hBt HST)
                    | (show wpList _ _ _ (Oper.mk none (.store 30 (.tmp 17) (.tmp 150)) _ _ _ _ :: _) _ _; refine Row.wpStore' (Row.new wt stat0 30) 30 (.tmp 17) (.tmp 150) (statC K') rfl rfl rfl rfl rfl (statC_one K') info_30 ?_; intro wu HWu; simp only [Act.put]))
                  obtain ⟨qs, hqs⟩ : ∃ qs, wt.heap.size = qs := ⟨_, rfl⟩
                  have hRu : Row wu qs (statC K') 30 := by rw [HWu.out, ← hqs]; exact (Row.new wt stat0 30).row _
                  have hbu : Below wr.heap.size wr wu := by
                    rw [HWu.out]
                    exact below_setRow (HBt.out.trans ((below_new wt _).mono HBt.out.size)) HBt.out.size _
                  rw [hqs]
                  have HMu := hid (HMX.out.kept hbu)
                  have u2 := hRu.cell 2 _ rfl
                  have u3 := hRu.cell 3 _ rfl
                  have u4 := hRu.cell 4 _ rfl
                  have u5 := hRu.cell 5 _ rfl
                  have u6 := hRu.cell 6 _ rfl
                  have u7c := hRu.cell 7 _ rfl
                  have cq : wu.cell? ⟨b, 2, none⟩ = some (.int .i64 q') := HMu.out.conf.cell 2 _ (by rw [← HCC.out]; rfl)
                  have k1 := HMu.out.l.l0
                  have k2 := HMu.out.l.f0
                  have k3 := HMu.out.l.c0
                  have k4 := HMu.out.l.cons
                  have k5 := HMu.out.on.len

                  have k6 := HMu.out.l.put
                  have k7 : 0 ≤ K'.wait := by rw [HMu.out.l.ok.wait]; exact sumW_nonneg HMu.out.l.ok.wt
                  have k8 : K'.wait ≤ q' := by have := HMu.out.l.ok.waitq; have := HMu.out.que; omega
                  have k9 : ¬ K'.wait < 0 := by omega
                  have k10 : ¬ q' < K'.wait := by omega
                  rw [k5] at u2
                  rw [k5] at k4
                  have hF0 : (0 : Int) ≤ (K'.Fl.length : Int) := by omega
                  clear hRu hbu HWu HBt hqs HMX k5
                  go_wp2_with fail
                  go_roundw
                  case rel => exact ⟨i + 1, ci, K', ns, setAll cm xs, by go_num, by go_num, by go_num, by omega, by omega, hci2, HMu.out, HTOP.out⟩
                  case measure => first | (simp [intOf]; done) | (simp [intOf]; omega)
          · have hk2' : (kind == 2) = false := by simpa using hk2
            clear d2 d3 HBY hbl hfa
            as_aux_lemma =>
              have HST := hid (stat_any HMs.out.l.at_ HMs.out.l.ok.q0)
              go_upto_region 35 with (first
                | (go_at_call 12; refine HST.out.mono ?_; rintro e wt ⟨rfl, hBt⟩; have HBt := hid hBt; clear hBt HST)
                | (show wpList _ _ _ (Oper.mk none (.store 30 (.tmp 17) (.tmp 150)) _ _ _ _ :: _) _ _; refine Row.wpStore' (Row.new wt stat0 30) 30 (.tmp 17) (.tmp 150) (statC K) rfl rfl rfl rfl rfl (statC_one K) info_30 ?_; intro wu HWu; simp only [Act.put]))
              obtain ⟨qs, hqs⟩ : ∃ qs, wt.heap.size = qs := ⟨_, rfl⟩
              have hRu : Row wu qs (statC K) 30 := by rw [HWu.out, ← hqs]; exact (Row.new wt stat0 30).row _
              have hbu : Below ws.heap.size ws wu := by
                rw [HWu.out]
                exact below_setRow (HBt.out.trans ((below_new wt _).mono HBt.out.size)) HBt.out.size _
              rw [hqs]
              have HMu := hid (HMs.out.kept hbu)
              have u2 := hRu.cell 2 _ rfl
              have u3 := hRu.cell 3 _ rfl
              have u4 := hRu.cell 4 _ rfl
              have u5 := hRu.cell 5 _ rfl
              have u6 := hRu.cell 6 _ rfl
              have u7c := hRu.cell 7 _ rfl
              have cq : wu.cell? ⟨b, 2, none⟩ = some (.int .i64 q') := HMu.out.conf.cell 2 _ (by rw [← HCC.out]; rfl)
              have k1 := HMu.out.l.l0
              have k2 := HMu.out.l.f0
              have k3 := HMu.out.l.c0
              have k4 := HMu.out.l.cons
              have k5 := HMu.out.on.len

              have k6 := HMu.out.l.put
              have k7 : 0 ≤ K.wait := by rw [HMu.out.l.ok.wait]; exact sumW_nonneg HMu.out.l.ok.wt
              have k8 : K.wait ≤ q' := by have := HMu.out.l.ok.waitq; have := HMu.out.que; omega
              have k9 : ¬ K.wait < 0 := by omega
              have k10 : ¬ q' < K.wait := by omega
              rw [k5] at u2
              rw [k5] at k4
              have hF0 : (0 : Int) ≤ (K.Fl.length : Int) := by omega
              clear hRu hbu HWu HBt hqs HMs k5
              go_wp2_with fail
              go_roundw
              case rel => exact ⟨i + 1, ci, K, ns, cm, by go_num, by go_num, by go_num, by omega, by omega, hci2, HMu.out, fun h => by omega⟩
              case measure => first | (simp [intOf]; done) | (simp [intOf]; omega)
      · obtain rfl : i = l.length := by omega
        have hlti : ¬ (l.length : Int) < (l.length : Int) := by omega
        have HMs := hid (HM.out.kept hbq)
        have d0 := HRq.out.cell 0 _ rfl
        have d2 := HRq.out.cell 2 _ rfl
        clear HRq HM hbq hqb
        as_aux_lemma =>
          have HTA := hid (HMs.out.l.take_any2 (by omega) 18446744073709551615)
          go_upto_region 26 with (go_at_call 11; refine HTA.out.mono ?_; rintro e w6 hT; obtain ⟨K1, K', u, xs, rfl, hl6, hb6, hLm, hG, hk1, hTk, hy, hO, hBy⟩ := hT; clear HTA)
          have hcnt := take_counts hG hTk
          have hon6 := HMs.out.on.kept hb6
          have HONE := hid (fun (m : Nat) (x : It Value) (hx : xs[m]? = some x) => hon6.one HMs.out.l.nd hG hTk hx)
          have HON := hid (hon6.take HMs.out.l.nd hG hTk)
          have hsub : ∀ x ∈ K'.Fl, x ∈ K.Fl := fun x hx => hcnt.2.2.2.2.2.2.mem_iff.1 (List.mem_append_right _ hx)
          have HM6 : Hid (OnM base B2 ci p b C K' ns cm (.slice na ns.length nc) (.slice ca cm.length cc) q' w w6) :=
            ⟨hl6, hon6.sub hcnt.2.2.2.2.1 hcnt.2.2.2.2.2.1 hsub, own_lm HMs.out.l.at_ hLm HMs.out.rn (by decide) (by decide) (by decide), own_lm HMs.out.l.at_ hLm HMs.out.rc (by decide) (by decide) (by decide), hLm.fr.row HMs.out.conf (row_apart HMs.out.l.at_ HMs.out.conf (by decide) (by decide) (by decide)), HMs.out.below.trans hb6, by rw [hcnt.2.2.2.1]; exact HMs.out.lvb, HMs.out.b2, Nat.le_trans HMs.out.b2w hLm.fr.size, hcnt.2.2.1.trans HMs.out.que⟩
          have HCO : Hid (K'.come = K.come + xs.length) := hcnt.2.1
          have HLF : Hid (K'.lost + K'.full = K.lost + K.full) := hcnt.1
          have HTOP : Hid (∀ y ∈ K'.Fl, 4611686018427387904 < y.at_) := fun z hz => by have h1 := hy z hz; rw [tm_top HMs.out.l.ok.now1] at h1; exact h1
          have HXL : Hid ((xs.length : Int) ≤ 2932031007402) := by
            have h1 := hcnt.2.2.2.2.2.2.length_eq
            have h2 := HMs.out.l.fl (by omega)
            simp at h1
            show (xs.length : Int) ≤ _
            omega
          have HBX := hid hBy
          obtain ⟨xa, xc, rfl, hxx⟩ := own3 hO
          have HXX := hid hxx
          have HOX := hid hO
          have hkc0 : 0 ≤ K.come := hc0
          have hkc1 : K.come ≤ 2932031007402 := by omega
          clear hcnt hon6 hsub hl6 hb6 hLm hG hk1 hTk hy hO hBy hxx HMs d0 d2 hcons hput hnl hc0 hl0 hf0
          have hxl := HXL.out
          go_upto_region 27 with fail
          go_loopw [9, 15] (fun tk t wx => ∃ m : Nat, tk = .int .i64 (K.come + m) ∧ t = .int .i64 m ∧ m ≤ xs.length ∧ Fr (fun k => (Value.slice ca cm.length cc).ownBlock = some k) w6 wx ∧ wx.ownsRow B2 4 1 (.slice ca cm.length cc) cm.length ((setAll cm (xs.take m)).map Value.bool)) (fun _ t _ => xs.length - (intOf t).toNat)
          case atStart => exact ⟨0, by simp, by go_num, Nat.zero_le _, Fr.refl _ _, HM6.out.rc⟩
          case round =>
            obtain ⟨m, rfl, rfl, hm, hFm, hcm⟩ := hrel
            have hm0 : (0 : Int) ≤ (m : Int) := by omega
            have HFM := hid hFm
            have HCM := hid hcm
            by_cases hml : m < xs.length
            · have hmi : (m : Int) < (xs.length : Int) := by omega
              obtain ⟨x, hx⟩ : ∃ x, xs[m]? = some x := ⟨_, List.getElem?_eq_getElem hml⟩
              obtain ⟨e0, em, ⟨y, ey, eyo, eyn, eyb, eyd⟩, ez⟩ := HONE.out m x hx
              obtain ⟨gx, hgx, z0, z1, z2⟩ := HXX.out m x hx
              obtain ⟨n, hn⟩ : ∃ n : Nat, x.num = (n : Int) := ⟨x.num.toNat, by omega⟩
              have hnn : x.num.toNat = n := by omega
              rw [hnn] at em ey
              have hnl2 : n < ns.length := (List.getElem?_eq_some_iff.1 ey).1
              have hni : (n : Int) < (ns.length : Int) := by omega
              have hnc2 : (n : Int) < (cm.length : Int) := by have := HCL.out; omega
              have hn0 : (0 : Int) ≤ (n : Int) := by omega
              have hd1 : decide ((ns.length : Int) ≤ (n : Int)) = false := decide_eq_false (by omega)
              have hd2 : decide (ns.length ≤ n) = false := decide_eq_false (by omega)
              have hem : ((setAll cm (xs.take m)).map Value.bool)[n]? = some (.bool false) := by rw [List.getElem?_map, em]; rfl
              obtain ⟨gc, cc', hcv, hgb, r0, r1⟩ := own_get hcm hem
              simp only [Value.slice.injEq] at hcv
              obtain ⟨hca, -, -⟩ := hcv
              obtain ⟨na', nc', hna, hnr⟩ := own_row_at ncells_len HM6.out.rn
              simp only [Value.slice.injEq] at hna
              obtain ⟨gn, hgn, hyc⟩ := hnr n y ey
              have hnag : na = some ⟨gn, 0, none⟩ := hna.1.trans hgn
              have hxo := hFm.own (HBX.out x (List.mem_of_getElem? hx)) (fun g e e2 => own_two (HBX.out x (List.mem_of_getElem? hx)) HM6.out.rc (by decide) e e2)
              obtain ⟨wa, wc, hxw, hxB, -⟩ := ownBy_shape hxo
              obtain ⟨ya, yf, yc, yn, yo⟩ := y
              dsimp only at eyo eyn eyb eyd hyc
              subst eyo
              have hyB : BytesAt wr yf (K.D x.num) := eyb.fr hFm (fun ad e hne e2 => by have h1 := eyd ad e hne; have h2 := own_ge HM6.out.rc e2; have h3 := HM6.out.b2; omega)
              have hnx : ∀ g, (Value.slice xa xs.length xc).ownBlock = some g → ¬ (Value.slice ca cm.length cc).ownBlock = some g := fun g e e2 => own_two HOX.out HM6.out.rc (by decide) e e2
              have hnn2 : ∀ g, (Value.slice na ns.length nc).ownBlock = some g → ¬ (Value.slice ca cm.length cc).ownBlock = some g := fun g e e2 => own_two HM6.out.rn HM6.out.rc (by decide) e e2
              subst hca hgx hnag
              have q1 : wr.cell? ⟨gn, n * 3 + 1, none⟩ = some (.slice yf yn yc) := hFm.cell (hyc 1 _ rfl) (hnn2 gn rfl)
              have q2 : wr.cell? ⟨gn, n * 3 + 2, none⟩ = some (.bool true) := hFm.cell (hyc 2 _ rfl) (hnn2 gn rfl)
              rw [hn] at z1
              rw [hxw] at z2
              have p0 := hFm.cell z0 (hnx gx rfl)
              have p1 := hFm.cell z1 (hnx gx rfl)
              have p2 := hFm.cell z2 (hnx gx rfl)
              have hcx : ∀ q, (convert 23 9 (.slice wa (K.D x.num).length wc)).run Try.prog (wr.drewN q) = .ok (.string (strOf (K.D x.num))) (wr.drewN q) := fun q => convert_any (w := wr.drewN q) hxB rfl
              have hcy : ∀ q, (convert 23 9 (.slice yf yn yc)).run Try.prog (wr.drewN q) = .ok (.string (strOf (K.D x.num))) (wr.drewN q) := fun q => convert_any (w := wr.drewN q) hyB eyn.symm
              have HSET : Hid (((setAll cm (xs.take m)).map Value.bool).set n (.bool true) = (setAll cm (xs.take (m + 1))).map Value.bool) := by
                show _ = _
                rw [List.take_succ_eq_append_getElem hml, setAll_snoc, (List.getElem?_eq_some_iff.1 hx).2, hnn, List.map_set]
              have HPV : Hid (∀ j z, m = j + 1 → xs[j]? = some z → wr.cell? ⟨gx, j * 3, none⟩ = some (.int .u64 z.at_) ∧ ¬ x.at_ < z.at_) := fun j z hmj hz => by
                obtain ⟨gx2, hg2, v0, -, -⟩ := HXX.out j z hz
                simp only [Option.some.injEq, Addr.mk.injEq] at hg2
                obtain ⟨rfl, -, -⟩ := hg2
                have h1 := ez z (by omega) (by rw [hmj]; simpa using hz)
                exact ⟨hFm.cell v0 (hnx gx rfl), by omega⟩
              clear z0 z1 z2 hyc hnr hna hxo hxw hxB eyb eyd hyB hnx hnn2 hFm hcm hem em ey ez hx hgb hgn eyn hn hnn
              generalize strOf (K.D x.num) = sx at *
              generalize (K.D x.num).length = lx at *
              cases m with
              | zero =>
                clear HPV
                generalize x.at_ = xt at *
                go_wp2_with (go_quiet (fail))
                go_roundw
                case rel => exact ⟨0 + 1, by first | rfl | (congr 1; omega) | (simp; done) | (simp; omega), by go_num, by omega, (HFM.out.drewN _).setCell gc n _ (.inl rfl), by have h := own_set (w := wr) HCM.out n (.bool true); rw [HSET.out] at h; exact h⟩
                case measure => simp [intOf]; omega
              | succ j =>
                obtain ⟨z, hz⟩ : ∃ z, xs[j]? = some z := ⟨_, List.getElem?_eq_getElem (by omega)⟩
                obtain ⟨v0, hvz⟩ := HPV.out j z rfl hz
                have hj1 : ((j + 1 : Nat) : Int) - 1 = (j : Int) := by omega
                have hjp : (0 : Int) < ((j + 1 : Nat) : Int) := by omega
                have hjp2 : decide ((0 : Int) < (j : Int) + 1) = true := decide_eq_true (by omega)
                have hvd : decide (x.at_ < z.at_) = false := decide_eq_false hvz
                have hji : (j : Int) < (xs.length : Int) := by omega
                clear HPV hz
                generalize x.at_ = xt at *
                generalize z.at_ = zt at *
                go_wp2_with (go_quiet (fail))
                go_roundw
                case rel => exact ⟨j + 1 + 1, by first | rfl | (congr 1; omega) | (simp; done) | (simp; omega), by go_num, by omega, (HFM.out.drewN _).setCell gc n _ (.inl rfl), by have h := own_set (w := wr) HCM.out n (.bool true); rw [HSET.out] at h; exact h⟩
                case measure => simp [intOf]; omega
            · obtain rfl : m = xs.length := by omega
              have hmi : ¬ (xs.length : Int) < (xs.length : Int) := by omega
              rw [List.take_length] at hcm
              have HMX : Hid (OnM base B2 ci p b C K' ns (setAll cm xs) (.slice na ns.length nc) (.slice ca cm.length cc) q' w wr) := HM6.out.marks hFm (setAll_len _ _) hcm HON.out
              clear hFm hcm HFM HCM HONE HXX HBX HM6 HON HOX
              rw [← HCO.out]
              rw [← HLF.out]
              have HST := hid (stat_any HMX.out.l.at_ HMX.out.l.ok.q0)
              go_upto_region 35 with (first
                | (go_at_call 12; refine HST.out.mono ?_; rintro e wt ⟨rfl, hBt⟩; have HBt := hid hBt; clear hBt HST)
                | (show wpList _ _ _ (Oper.mk none (.store 30 (.tmp 17) (.tmp 150)) _ _ _ _ :: _) _ _; refine Row.wpStore' (Row.new wt stat0 30) 30 (.tmp 17) (.tmp 150) (statC K') rfl rfl rfl rfl rfl (statC_one K') info_30 ?_; intro wu HWu; simp only [Act.put]))
              obtain ⟨qs, hqs⟩ : ∃ qs, wt.heap.size = qs := ⟨_, rfl⟩
              have hRu : Row wu qs (statC K') 30 := by rw [HWu.out, ← hqs]; exact (Row.new wt stat0 30).row _
              have hbu : Below wr.heap.size wr wu := by
                rw [HWu.out]
                exact below_setRow (HBt.out.trans ((below_new wt _).mono HBt.out.size)) HBt.out.size _
              rw [hqs]
              have HMu := hid (HMX.out.kept hbu)
              have u2 := hRu.cell 2 _ rfl
              have u3 := hRu.cell 3 _ rfl
              have u4 := hRu.cell 4 _ rfl
              have u5 := hRu.cell 5 _ rfl
              have u6 := hRu.cell 6 _ rfl
              have u7c := hRu.cell 7 _ rfl
              have cq : wu.cell? ⟨b, 2, none⟩ = some (.int .i64 q') := HMu.out.conf.cell 2 _ (by rw [← HCC.out]; rfl)
              have k1 := HMu.out.l.l0
              have k2 := HMu.out.l.f0
              have k3 := HMu.out.l.c0
              have k4 := HMu.out.l.cons
              have k5 := HMu.out.on.len

              have k6 := HMu.out.l.put
              have k7 : 0 ≤ K'.wait := by rw [HMu.out.l.ok.wait]; exact sumW_nonneg HMu.out.l.ok.wt
              have k8 : K'.wait ≤ q' := by have := HMu.out.l.ok.waitq; have := HMu.out.que; omega
              have k9 : ¬ K'.wait < 0 := by omega
              have k10 : ¬ q' < K'.wait := by omega
              rw [k5] at u2
              rw [k5] at k4
              have hF0 : (0 : Int) ≤ (K'.Fl.length : Int) := by omega
              clear hRu hbu HWu HBt hqs HMX k5
              go_wp2_with fail
              go_roundw
              case rel => exact ⟨l.length + 1, ci, K', ns, setAll cm xs, by go_num, by go_num, by go_num, by omega, by omega, hci2, HMu.out, fun _ => HTOP.out⟩
              case measure => first | (simp [intOf]; done) | (simp [intOf]; omega)
    · skip
      as_aux_lemma =>
        obtain rfl : i = l.length + 1 := by omega
        have hlei : ¬ ((l.length + 1 : Nat) : Int) ≤ (l.length : Int) := by omega
        have hfl : (ns.length : Int) - (K.lost + K.full) - K.come = (K.Fl.length : Int) := by omega
        have hF1 : (0 : Int) ≤ (K.Fl.length : Int) := by omega
        have HFL := hid (HM.out.l.fl (by omega))
        have hF2 : (K.Fl.length : Int) ≤ 2932031007402 := by have := HM.out.l.fl (by omega); omega
        cases hx : K.Fl[0]? with
        | none =>
          have h0 : K.Fl = [] := List.eq_nil_of_length_eq_zero (by have := List.getElem?_eq_none_iff.1 hx; omega)
          have HNX := hid (next_nil HM.out.l.at_ HM.out.l.ok.q0 h0)
          have hz : (K.Fl.length : Int) = 0 := by rw [h0]; rfl
          have HBW := hid HM.out.below
          rw [hz] at hfl
          clear hx h0 HM HLA hz hF1 hF2 hcons
          go_wp2_with (go_at_call 10; refine HNX.out.mono ?_; rintro e w9 ⟨rfl, hw9⟩; obtain rfl := hw9.symm)
          go_ret
          refine ⟨by simp, ?_⟩
          rw [HBE.out]
          exact HBW.out
        | some x =>
          have HNX := hid (next_some HM.out.l.at_ HM.out.l.ok.q0 hx (by omega))
          have hgt := HLA.out rfl x (List.mem_of_getElem? hx)
          have hpos := (List.getElem?_eq_some_iff.1 hx).1
          have hpi : (0 : Int) < (K.Fl.length : Int) := by omega
          have HBW := hid HM.out.below
          clear hx HM HLA hcons hpos
          generalize x.at_ = xt at *
          go_wp2_with (go_at_call 10; refine HNX.out.mono ?_; rintro e w9 ⟨rfl, hw9⟩; obtain rfl := hw9.symm)
          go_ret
          refine ⟨by simp, ?_⟩
          rw [HBE.out]
          exact HBW.out
end Go.Proofs.Ytoeldomhkeancaa
