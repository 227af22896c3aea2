import Derived.Test.YtoeldomhkeancaaRa0
import Derived.Test.YtoeldomhkeancaaQu5
namespace Go.Proofs.Ytoeldomhkeancaa
open Go.RowKit Go.Maps
set_option maxRecDepth 100000

/-- A link and the notes of its Puts, in a law. -/
structure RaM (base i p b : Nat) (C : List Value) (K : Lk) (r d : Int) (ns : List Nt) (v : Value) (t : Int) (w0 w : World) : Prop where
  l : Lw base i p K w
  ra : RaI K r d ns t
  row : w.ownsRow base 59 3 v ns.length (flat ncells ns)
  conf : Row w b C 28
  below : Below base w0 w
theorem RaM.more {base i j p b : Nat} {C : List Value} {K : Lk} {r d : Int} {ns : List Nt} {v : Value} {t : Int} {w0 w : World} (h : RaM base i p b C K r d ns v t w0 w) (hij : i ≤ j) : RaM base j p b C K r d ns v t w0 w := ⟨h.l.more hij, h.ra, h.row, h.conf, h.below⟩
theorem RaM.kept {base i p b : Nat} {C : List Value} {K : Lk} {r d : Int} {ns : List Nt} {v : Value} {t : Int} {w0 w w' : World} (h : RaM base i p b C K r d ns v t w0 w) (hb : Below w.heap.size w w') : RaM base i p b C K r d ns v t w0 w' :=
  ⟨h.l.below hb, h.ra, own_below h.row hb, h.conf.kept hb h.conf.lt, h.below.trans (hb.mono h.l.bw)⟩
/-- A list is appended to: what a link has stays. -/
theorem Lw.fr {base i p : Nat} {K : Lk} {w w' : World} {S : Nat → Prop} (h : Lw base i p K w) (hF : Fr S w w') (hS : ∀ k, Mem p K k → ¬ S k) : Lw base i p K w' :=
  ⟨h.at_.kept hF hS, h.ok, h.foot, Nat.le_trans h.bw hF.size, h.put, h.l0, h.f0, h.c0, h.cons, h.nums, h.nd⟩
theorem mem_apart {p : Nat} {K : Lk} {w : World} {b : Nat} {t : TypeId} {sz : Nat} {v : Value} {n : Nat} {xs : List Value} (hA : LkAt w p K) (hr : w.ownsRow b t sz v n xs) (h1 : t ≠ 38) (h2 : t ≠ 87) (h3 : t ≠ 70) (h4 : t ≠ 4) (h5 : t ≠ 3) (h6 : t ≠ 5) : ∀ k, Mem p K k → ¬ v.ownBlock = some k := fun k hk e => by
  rcases hk with (rfl | e2 | e2) | e2 | e2 | ⟨x, hx, e2⟩
  · exact own_row hr hA.row h1 e
  · exact own_two hr hA.hs.own h2 e e2
  · exact own_two hr hA.hf.own h3 e e2
  · exact own_two hr hA.lo h4 e e2
  · exact own_two hr hA.ji h5 e e2
  · exact own_two hr (hA.by_ x hx) h6 e e2
theorem tmR {t n : Int} (h0 : 0 ≤ t) (h1 : t ≤ 1152921504606846976) : t ≤ tm t (n.tmod 1152921504606846976) ∧ tm t (n.tmod 1152921504606846976) ≤ 1152921504606846976 := by
  have h2 : n.tmod 1152921504606846976 < 1152921504606846976 := Int.tmod_lt_of_pos n (by decide)
  unfold tm
  omega
theorem tm_same {t s : Int} (h : t ≤ s) (h1 : s ≤ 1152921504606846976) : tm t s = s := by unfold tm; omega
theorem busy_bd {K : Lk} (h : K.Ok) (hn : K.now ≤ 1152921504606846976) : K.busy ≤ 1154000000000000000 := by
  have h1 := h.busy K.now (Int.le_refl _)
  have h2 := sumW_le (t := K.now) h.wt
  have h3 := h.wait
  have h4 := h.waitq
  have h5 := h.q1
  omega
theorem takes_def {r n : Int} (hr : 1 ≤ r) : takesE r n = (n * 1000000 + r - 1) / r := by
  unfold takesE
  rw [if_neg (by omega)]
theorem fitE_bd {r d q : Int} {ln : Nat} {jit : List Int} (h : fitE r d q ln jit = 0) : 0 ≤ r ∧ r ≤ 1099511627776 ∧ 0 ≤ d ∧ d ≤ 1099511627776 := by
  unfold fitE at h
  split at h
  · omega
  · split at h
    · omega
    · omega
theorem fitE_rate {r d q : Int} {ln : Nat} {jit : List Int} (h : fitE r d q ln jit = 0) {x : Int} (h0 : 0 ≤ x) (h1 : x ≤ 1099511627776) : fitE x d q ln [] = 0 := by
  unfold fitE at *
  split at h
  · omega
  · split at h
    · omega
    · split at h
      · omega
      · split at h
        · omega
        · rename_i g1 g2 g3 g4
          rw [if_neg (by omega), if_neg g2, if_neg g3, if_neg]
          rintro (e | e | e)
          · exact g4 (.inl e)
          · simp at e
          · simp at e
/-- When the one ahead came. -/
def endsOf (xs : List (It Value)) : Nat → Int
  | 0 => 0
  | k + 1 => ((xs[k]?).map It.at_).getD 0
set_option maxHeartbeats 16000000 in
/-- No more comes than the rate lets come. -/
theorem rate_law {w : World} {r d q : Int} {la ja sa : Option Addr} {lc jc sc : Nat} {loss : List Bool} {jit : List Int} {l : List Opv} (hlo : ElAt w la (loss.map Value.bool)) (hj : ElAt w ja (jit.map (Value.int .i64))) (hll : loss.length ≤ 140737488355328) (hjl : jit.length ≤ 140737488355328) (hS : OpsAt w w.heap.size sa l) (hl : l.length ≤ 2932031007402) :
    Calls Try.prog 6 #[.agg (confC r d q (.slice la loss.length lc) (.slice ja jit.length jc)).toArray, .slice sa l.length sc] w fun e w' => e = .returned (.bool true) ∧ Below w.heap.size w w' := by
  have HA : Hid (∀ w, Calls Try.prog 13 #[] w fun e w' => e = .returned (.bool true) ∧ Below w.heap.size w w') := alive_any
  have hb1 := below_new w (.cells #[.int .i64 r, .int .i64 d, .int .i64 q, .slice la loss.length lc, .slice ja jit.length jc] 28)
  have R := Row.new w (confC r d q (.slice la loss.length lc) (.slice ja jit.length jc)) 28
  have HF := hid (fitc_any (r := r) (d := d) (q := q) (lc := lc) (jc := jc) (hlo.kept hb1) (hj.kept hb1) hll hjl)
  have x0 := R.cell 0 _ rfl
  have x1 := R.cell 1 _ rfl
  have x2 := R.cell 2 _ rfl
  have x3 := R.cell 3 _ rfl
  have x4 := R.cell 4 _ rfl
  have HB1 := hid hb1
  have HR := hid R
  have HS := hid hS
  simp only [confC] at *
  clear hj hlo R hb1 hS hll hjl
  go_enter Try.func6, Try.ntmps6
  go_upto_region 1 with fail
  revert HF x0 x1 x2 x3 x4 HB1 HR
  generalize w.alloc (.cells #[.int .i64 r, .int .i64 d, .int .i64 q, .slice la loss.length lc, .slice ja jit.length jc] 28) = w1
  intro HF x0 x1 x2 x3 x4 HB1 HR
  obtain ⟨b, hb⟩ : ∃ b, w.heap.size = b := ⟨_, rfl⟩
  rw [hb] at x0 x1 x2 x3 x4 HR ⊢
  have HBB := hid hb
  clear hb
  go_upto_region 2 with (first
    | (go_at_call 14; refine HF.out.mono ?_; rintro e w2 ⟨r', d', q', loss', jit', v3, v4, rfl, hf', hO3, hO4, hB2⟩; obtain ⟨a3, c3, rfl, -⟩ := own1 hO3; obtain ⟨a4, c4, rfl, -⟩ := own1 hO4; have HR2 := hid (HR.out.kept hB2 HR.out.lt); have HF2 := hid hf'; have HO3 := hid hO3; have HB2 := hid hB2; clear hf' hO3 hO4 hB2 HF)
    | (show wpList _ _ _ (Oper.mk none (.store 28 (.tmp 2) (.tmp 21)) _ _ _ _ :: _) _ _; refine HR2.out.wpStore' 28 (.tmp 2) (.tmp 21) (confC r' d' q' (.slice a3 loss'.length c3) (.slice a4 jit'.length c4)) rfl rfl rfl rfl rfl conf_one info_28 ?_; intro w3 HW3; simp only [Act.put]))
  have hR3 : Row w3 b (confC r' d' q' (.slice a3 loss'.length c3) (.slice a4 jit'.length c4)) 28 := by rw [HW3.out]; exact HR2.out.row _
  have hF3 : Fr (fun j => j = b) w2 w3 := by rw [HW3.out]; exact fr_row _ _ _
  have hO3 := hF3.own HO3.out (fun g e e' => own_row HO3.out HR2.out (by decide) (e' ▸ e))
  have HB3 : Hid (Below w.heap.size w w3) := by
    have h1 : Below w.heap.size w w2 := below_two HB1.out HB2.out (Nat.le_refl _)
    exact h1.trans (hF3.below (fun x e => by have := HBB.out; omega) h1.size)
  have HE3 := hid (el_own hO3)
  have HO3' := hid hO3
  have HR3 := hid hR3
  have hfb := fitE_bd HF2.out
  have hr0 : 0 ≤ r' := hfb.1
  have hd0 : 0 ≤ d' := hfb.2.2.1
  have hd1 : d' ≤ 1099511627776 := hfb.2.2.2
  clear x0 x1 x2 x3 x4 HW3 HR2 HO3 hR3 hF3 hO3 HB2 HR hfb
  have y0 := HR3.out.cell 0 _ rfl
  have y4 := HR3.out.cell 4 _ rfl
  have f0 := HR3.out.frozen 0
  have f4 := HR3.out.frozen 4
  obtain ⟨r2, hr2⟩ : ∃ r2, 1 + r' % 1073741824 = r2 := ⟨_, rfl⟩
  have hr21 : 1 ≤ r2 := by omega
  have hr22 : r2 ≤ 1073741824 := by omega
  have HR3b : Hid (Row ((w3.setCell ⟨b, 0, none⟩ (.int .i64 r2)).setCell ⟨b, 4, none⟩ (.slice none 0 0)) b (confC r2 d' q' (.slice a3 loss'.length c3) (.slice none 0 0)) 28) := (HR3.out.set 0 _).set 4 _
  have hF4 : Fr (fun j => j = b) w3 ((w3.setCell ⟨b, 0, none⟩ (.int .i64 r2)).setCell ⟨b, 4, none⟩ (.slice none 0 0)) := ((Fr.refl (fun j => j = b) w3).setCell b 0 _ (.inl rfl)).setCell b 4 _ (.inl rfl)
  have HO3b := hid (el_own (hF4.own HO3'.out (fun g e e' => own_row HO3'.out HR3.out (by decide) (e' ▸ e))))
  have HB3b : Hid (Below w.heap.size w ((w3.setCell ⟨b, 0, none⟩ (.int .i64 r2)).setCell ⟨b, 4, none⟩ (.slice none 0 0))) := HB3.out.trans (hF4.below (fun x e => by have := HBB.out; omega) HB3.out.size)
  have HFT := hid (fitE_rate HF2.out (x := r2) (by omega) (by omega))
  clear hF4 HE3 HO3' HB3 HF2
  go_upto_region 4 with fail
  generalize (w3.setCell ⟨b, 0, none⟩ (.int .i64 r2)).setCell ⟨b, 4, none⟩ (.slice none 0 0) = w4 at *
  have x0 := HR3b.out.cell 0 _ rfl
  have x1 := HR3b.out.cell 1 _ rfl
  have x2 := HR3b.out.cell 2 _ rfl
  have x3 := HR3b.out.cell 3 _ rfl
  have x4 := HR3b.out.cell 4 _ rfl
  have HN := hid (new_ok (w := w4) (r := r2) (d := d') (q := q') (la := a3) (ja := none) (lc := c3) (jc := 0) (loss := loss') (jit := []) HO3b.out (el_nil _ _) HFT.out)
  clear y0 y4 f0 f4
  go_upto_region 5 with (go_at_call 15; refine HN.out.mono ?_; rintro e w5 ⟨p, lv, jv, rfl, hA, hp, hB4⟩; have HA5 := hid hA; have HP := hid hp; have HB5 := hid hB4; clear hA hp hB4 HN)
  clear x0 x1 x2 x3 x4
  have HR5 := hid (HR3b.out.kept HB5.out HR3b.out.lt)
  have x0 := HR5.out.cell 0 _ rfl
  have HM0 : Hid (RaM w.heap.size 0 p b (confC r2 d' q' (.slice a3 loss'.length c3) (.slice none 0 0)) (Lk.fresh r2 d' q' loss' [] lv jv) r2 d' [] (.slice none 0 0) 0 w w5) := by
    have s4 := HB3b.out.size
    have s5 := HB5.out.size
    have hpp := HP.out
    exact ⟨Lw.fresh HA5.out HFT.out (by omega) (by omega), RaI.fresh, ⟨rfl, .inl ⟨rfl, rfl⟩⟩, HR5.out, below_two HB3b.out HB5.out (Nat.le_refl _)⟩
  clear HR3b HO3b HB3b HFT HA5 HP HB5 HB1 HR3
  go_upto_region 8 with fail
  generalize hbase : w.heap.size = base at *
  have HBE := hid hbase
  clear hbase x0 HR5
  generalize Lk.fresh r2 d' q' loss' [] lv jv = K0 at *
  generalize hCC : confC r2 d' q' (.slice a3 loss'.length c3) (.slice none 0 0) = C at *
  have HCC := hid hCC
  clear hCC
  go_wp2_with fail
  go_loopw [8, 9, 10] (fun s v t wr => ∃ (tt : Int) (i : Nat) (K : Lk) (ns : List Nt), s = .int .u64 tt ∧ t = .int .i64 i ∧ i ≤ l.length ∧ 0 ≤ tt ∧ tt ≤ 1152921504606846976 ∧ RaM base i p b C K r2 d' ns v tt w wr) (fun _ _ t _ => l.length - (intOf t).toNat)
  case atStart => exact ⟨0, 0, K0, [], by go_num, by go_num, Nat.zero_le _, by omega, by omega, HM0.out⟩
  case round =>
    obtain ⟨tt, i, K, ns, rfl, rfl, hi, ht0, ht1, hM⟩ := hrel
    have HM := hid hM
    have hli : (l.length : Int) ≤ 2932031007402 := by omega
    have hi0 : (0 : Int) ≤ (i : Int) := by omega
    clear hM HM0
    by_cases hlt : i < l.length
    · have hlti : (i : Int) < (l.length : Int) := by omega
      obtain ⟨o, ho⟩ : ∃ o, l[i]? = some o := ⟨_, List.getElem?_eq_getElem hlt⟩
      obtain ⟨⟨g, f, rfl, hg, c0, c1, c2, c3'⟩, hB, hbl, hfa⟩ := (HS.out.kept HM.out.below) i o ho
      obtain ⟨kind, sec, now, fa, fc, bs⟩ := o
      dsimp only at c0 c1 c2 c3' hB hbl hfa
      clear c1
      by_cases hk : kind = 1
      · subst hk
        obtain ⟨hta, htb⟩ := tmR (n := now) ht0 ht1
        have HST := hid (stat_any HM.out.l.at_ HM.out.l.ok.q0)
        go_upto_region 15 with (go_at_call 16; refine (tlate_any _ tt (now.tmod 1152921504606846976)).mono ?_; rintro e w8 ⟨rfl, hw8⟩; obtain rfl := hw8.symm)
        clear c2
        generalize tm tt (now.tmod 1152921504606846976) = t2 at *
        have hnow : tm K.now t2 = t2 := by rw [HM.out.ra.now]; exact tm_same hta htb
        have hkb : K.now ≤ t2 ∧ t2 ≤ 4611686018427387904 := by rw [HM.out.ra.now]; omega
        go_upto_region 16 with (first
          | (go_at_call 12; refine HST.out.mono ?_; rintro e w6 ⟨rfl, hB6⟩; have HB6 := hid hB6; clear hB6 HST)
          | (show wpList _ _ _ (Oper.mk none (.store 30 (.tmp 11) (.tmp 63)) _ _ _ _ :: _) _ _; refine Row.wpStore' (Row.new w6 stat0 30) 30 (.tmp 11) (.tmp 63) (statC K) rfl rfl rfl rfl rfl (statC_one K) info_30 ?_; intro w7 HW7))
        obtain ⟨q1, hq1⟩ : ∃ q1, w6.heap.size = q1 := ⟨_, rfl⟩
        have hRs : Row w7 q1 (statC K) 30 := by rw [HW7.out, ← hq1]; exact (Row.new w6 stat0 30).row _
        have hb7 : Below wr.heap.size wr w7 := by
          rw [HW7.out]
          exact below_setRow (HB6.out.trans ((below_new w6 _).mono HB6.out.size)) HB6.out.size _
        have HM7 := hid (HM.out.kept hb7)
        have c37 := cell_kept hb7 c3'
        have HPU := hid (HM7.out.l.put_any (by omega) t2 (cap := fc) (hB.kept hb7) rfl hbl hfa)
        rw [hnow] at HPU
        have HRS := hid hRs
        have HBY := hid hB
        rw [hq1]
        clear hRs hb7 HW7 HB6 hq1 c3' hB hnow
        go_upto_region 17 with (go_at_call 9; refine HPU.out.mono ?_; rintro e w8 hP; obtain ⟨v8, rfl, K1, K', ok, rfl, hL8, hB8, hLm, hG8, hC8⟩ := putR_all hP; clear hP HPU)
        have hk1 : K1.Ok := hG8.ok HM7.out.l.ok hkb.1 hkb.2
        obtain ⟨hra, hbz⟩ := HM7.out.ra.put HM7.out.l.ok hk1 (fun x hx => (HM7.out.l.nums x hx).2) hG8 hC8 fa fc (by omega) htb
        have HRA := hid hra
        have HBZ := hid hbz
        have c38 : w8.cell? ⟨g, f + i * 4 + 3, none⟩ = some (.slice fa bs.length fc) := (hB8.cell (p := ⟨g, f + i * 4 + 3, none⟩) hg).trans c37
        have HRS8 := hid (hLm.fr.row HRS.out (row_apart HM7.out.l.at_ HRS.out (by decide) (by decide) (by decide)))
        have HCF8 := hid (hLm.fr.row HM7.out.conf (row_apart HM7.out.l.at_ HM7.out.conf (by decide) (by decide) (by decide)))
        have HRW8 := hid (own_lm HM7.out.l.at_ hLm HM7.out.row (by decide) (by decide) (by decide))
        have HB8 := hid (HM7.out.below.trans hB8)
        have HL8 := hid hL8
        have HST := hid (stat_any hL8.at_ hL8.ok.q0)
        have HKB := hid (busy_bd HM.out.l.ok (by omega))
        have HKZ := hid HM.out.l.ok.busy0
        have HNL := hid HM.out.ra.len
        have HNP := hid HM.out.l.put
        clear hra hbz hB8 hLm hG8 hC8 hL8 hk1 c37 HRS HM7 hkb
        go_upto_region 18 with (first
          | (go_at_call 12; refine HST.out.mono ?_; rintro e w9 ⟨rfl, hB9⟩; have HB9 := hid hB9; clear hB9 HST)
          | (show wpList _ _ _ (Oper.mk none (.store 30 (.tmp 13) (.tmp 73)) _ _ _ _ :: _) _ _; refine Row.wpStore' (Row.new w9 stat0 30) 30 (.tmp 13) (.tmp 73) (statC K') rfl rfl rfl rfl rfl (statC_one K') info_30 ?_; intro w10 HW10))
        obtain ⟨q2, hq2⟩ : ∃ q2, w9.heap.size = q2 := ⟨_, rfl⟩
        have hR2 : Row w10 q2 (statC K') 30 := by rw [HW10.out, ← hq2]; exact (Row.new w9 stat0 30).row _
        have hb10 : Below w8.heap.size w8 w10 := by
          rw [HW10.out]
          exact below_setRow (HB9.out.trans ((below_new w9 _).mono HB9.out.size)) HB9.out.size _
        have c310 := cell_kept hb10 c38
        have HL10 := hid (HL8.out.below hb10)
        have HRS10 := hid (HRS8.out.kept hb10 HRS8.out.lt)
        have HCF10 := hid (HCF8.out.kept hb10 HCF8.out.lt)
        have HRW10 := hid (own_below HRW8.out hb10)
        have HB10 := hid (HB8.out.trans (hb10.mono HL8.out.bw))
        have HR2 := hid hR2
        rw [hq2]
        clear hR2 hb10 HW10 HB9 hq2 c38 HL8 HRS8 HCF8 HRW8 HB8
        have hnl : ns.length + 1 ≤ 3000000000000 := by have := HNL.out; have := HNP.out; omega
        have hbw := HL10.out.bw
        go_upto_region 19 with (at_builtin; refine wpAppendN (.tmp 74) (.tmp 83) rfl rfl (L := ns) rfl (own_below HRW10.out (below_new _ _)) (Nat.le_trans hbw (below_new _ _).size) rfl (e := ⟨t2, fa, fc, bs.length, ok⟩) (Row.new w10 (ncells ⟨t2, fa, fc, bs.length, ok⟩) 59) hnl ?_; intro w11 v11 hO11 hg11)
        have hba := below_new w10 (.cells (ncells ⟨t2, fa, fc, bs.length, ok⟩).toArray 59)
        have hRWa := own_below HRW10.out hba
        have hLa := HL10.out.below hba
        have hF11 : Fr (fun k => u9.ownBlock = some k) (w10.alloc (.cells (ncells ⟨t2, fa, fc, bs.length, ok⟩).toArray 59)) w11 := Fr.of_grown hg11.out.1 (fun k e => .inl e)
        have hLw := hLa.fr hF11 (mem_apart hLa.at_ hRWa (by decide) (by decide) (by decide) (by decide) (by decide) (by decide))
        have hCa := HCF10.out.kept hba HCF10.out.lt
        have hSa := HRS10.out.kept hba HRS10.out.lt
        have hTa := HR2.out.kept hba HR2.out.lt
        have HC11 := hid (hF11.row hCa (fun e => own_row hRWa hCa (by decide) e))
        have HS11 := hid (hF11.row hSa (fun e => own_row hRWa hSa (by decide) e))
        have HT11 := hid (hF11.row hTa (fun e => own_row hRWa hTa (by decide) e))
        have hB11 : Below base w w11 := HB10.out.trans ((hba.mono hbw).trans (hF11.below (fun k e => own_ge hRWa e) (Nat.le_trans hbw hba.size)))
        have HM11 : Hid (RaM base (i + 1) p b C K' r2 d' (ns ++ [⟨t2, fa, fc, bs.length, ok⟩]) v11 t2 w w11) := ⟨hLw, HRA.out, hO11.out, HC11.out, hB11⟩
        have c311 : w11.cell? ⟨g, f + i * 4 + 3, none⟩ = some (.slice fa bs.length fc) := hF11.cell (cell_kept hba c310) (fun e => absurd (own_ge hRWa (g := g) e) (by omega))
        clear hba hRWa hLa hF11 hLw hCa hSa hTa hB11 hO11 hg11 c310 HL10 HRS10 HCF10 HRW10 HB10 HR2 HC11
        cases ok with
        | false =>
          clear c311 HS11 HT11
          go_wp2_with fail
          go_roundw
          case rel => exact ⟨t2, i + 1, K', ns ++ [⟨t2, fa, fc, bs.length, false⟩], by go_num, by go_num, by omega, by omega, by omega, HM11.out⟩
          case measure => simp [intOf]; omega
        | true =>
          obtain ⟨hsm, hbz⟩ := HBZ.out rfl
          have hsi : (bs.length : Int) ≤ 1073741824 := by omega
          have hl0 : (0 : Int) ≤ (bs.length : Int) := by omega
          have u1 : w11.cell? ⟨q1, 1, none⟩ = some (.int .u64 K.busy) := HS11.out.cell 1 _ rfl
          have u2 : w11.cell? ⟨q2, 1, none⟩ = some (.int .u64 K'.busy) := HT11.out.cell 1 _ rfl
          have hT := takes_le (r := r2) (n := (bs.length : Int)) (by omega) hl0
          have hTD := takes_def (n := (bs.length : Int)) hr21
          have hw1 : IntKind.u64.wrap (((bs.length : Int) * 1000000 + r2 - 1).tdiv r2) = takesE r2 bs.length := by
            rw [Int.tdiv_eq_ediv_of_nonneg (by omega), ← hTD, IntKind.wrap_u64]
            omega
          have hkb1 := HKB.out
          have hkb0 := HKZ.out
          have hr20 : r2 ≠ 0 := by omega
          rw [hbz] at u2
          clear hTD
          generalize takesE r2 bs.length = nd at *
          generalize K.busy = kb at *
          have hm1 : max t2 kb + nd < 18446744073709551616 := by omega
          have hm2 : ¬ max t2 kb + nd < t2 + nd := by omega
          have hm3 : ¬ max t2 kb + nd < kb + nd := by omega
          go_wp2_with fail
          go_roundw
          case rel => exact ⟨t2, i + 1, K', ns ++ [⟨t2, fa, fc, bs.length, true⟩], by go_num, by go_num, by omega, by omega, by omega, HM11.out⟩
          case measure => simp [intOf]; omega
      · have hk1 : (kind == 1) = false := by simpa using hk
        clear c2 c3' hB hbl hfa
        go_wp2_with fail
        go_roundw
        case rel => exact ⟨tt, i + 1, K, ns, by go_num, by go_num, by omega, by omega, by omega, HM.out.more (by omega)⟩
        case measure => simp [intOf]; omega
    · obtain rfl : i = l.length := by omega
      have hlti : ¬ (l.length : Int) < (l.length : Int) := by omega
      have htm : tm K.now 4611686018427387904 = 4611686018427387904 := by rw [HM.out.ra.now]; unfold tm; omega
      have HTA := hid (HM.out.l.take_any2 (by omega) 4611686018427387904)
      rw [htm] at HTA
      clear htm hlti hlt
      go_upto_region 25 with (go_at_call 11; refine HTA.out.mono ?_; rintro e w6 hT; obtain ⟨K1, K', u, xs, rfl, hl6, hb6, hLm, hG, hk1, hTk, hy, hO, hBy⟩ := hT; have HB6 := hid (HM.out.below.trans hb6); have HRW := hid (own_lm HM.out.l.at_ hLm HM.out.row (by decide) (by decide) (by decide)); have HCF := hid (hLm.fr.row HM.out.conf (row_apart HM.out.l.at_ HM.out.conf (by decide) (by decide) (by decide))); have HO := hid hO; have HTK := hid (fun (k : Nat) (x : It Value) (hx : xs[k]? = some x) => HM.out.ra.taken HM.out.l.nd (show 0 ≤ r2 by omega) hG hTk hx); have HLE := hid (fun (x : It Value) (hx : x ∈ xs) => (show x.at_ ≤ 4611686018427387904 from (hG.fields.2.2.2.2.2.2.2.1) ▸ hTk.le x hx)); have HXL : Hid (xs.length ≤ 2932031007402) := (by have h1 := hTk.perm.length_eq; have h2 := hG.fields.2.2.2.2.2.2.2.2.2; have h3 := HM.out.l.fl (by omega); rw [h2] at h1; simp at h1; show xs.length ≤ 2932031007402; omega); clear hl6 hb6 hLm hG hk1 hTk hy hO hBy HTA)
      have hnl : (ns.length : Int) ≤ 2932031007402 := by have := HM.out.ra.len; have := HM.out.l.put; omega
      obtain ⟨xa, xc, rfl, hxx⟩ := own3 HO.out
      obtain ⟨na, nc, rfl, hnn⟩ := own_row_at ncells_len HRW.out
      have HXX := hid hxx
      have HNN := hid hnn
      have HDC := hid (HCF.out.cell 1 (.int .i64 d') (by rw [← HCC.out]; rfl))
      have hxl : (xs.length : Int) ≤ 140737488355328 := by have := HXL.out; omega
      clear hxx hnn HO HRW HCF HM HS
      obtain ⟨wo, hwo⟩ : ∃ wo, wo = w6 := ⟨_, rfl⟩
      subst hwo
      obtain ⟨nn, hnq⟩ : ∃ nn, ns.length = nn := ⟨_, rfl⟩
      rw [hnq] at hnl ⊢
      have HNQ := hid hnq
      clear hnq
      go_wp2_with fail
      go_loopw [15, 17] (fun s t wx => ∃ k : Nat, t = .int .i64 k ∧ k ≤ xs.length ∧ s = .int .u64 (endsOf xs k) ∧ wx.heap = wo.heap ∧ Below base w wx) (fun _ t _ => xs.length - (intOf t).toNat)
      case atStart => exact ⟨0, by go_num, Nat.zero_le _, rfl, rfl, HB6.out⟩
      case round =>
        obtain ⟨k, rfl, hk, rfl, hh, hbl⟩ := hrel
        have HH := hid hh
        have HBL := hid hbl
        have hk0 : (0 : Int) ≤ (k : Int) := by omega
        by_cases hkl : k < xs.length
        · have hki : (k : Int) < (xs.length : Int) := by omega
          obtain ⟨x, hx⟩ : ∃ x, xs[k]? = some x := ⟨_, List.getElem?_eq_getElem hkl⟩
          obtain ⟨gx, rfl, z0, z1, -⟩ := HXX.out k x hx
          obtain ⟨e0, y, hy, hyok, hyn, hya, hyx, hyz⟩ := HTK.out k x hx
          have hxt := HLE.out x (List.mem_of_getElem? hx)
          obtain ⟨gn, rfl, hyc⟩ := HNN.out _ y hy
          obtain ⟨m, hm⟩ : ∃ m : Nat, x.num = (m : Int) := ⟨x.num.toNat, by omega⟩
          rw [hm] at z1
          have hmt : x.num.toNat = m := by omega
          rw [hmt] at hyc
          have hmn : (m : Int) < (nn : Int) := by have h1 := (List.getElem?_eq_some_iff.1 hy).1; have := HNQ.out; omega
          have HEN : Hid (endsOf xs (k + 1) = x.at_) := by show ((xs[k]?).map It.at_).getD 0 = x.at_; rw [hx]; rfl
          obtain ⟨ya, yf, yc, yn, yo⟩ := y
          dsimp only at hyok hyn hya hyx hyz
          subst hyok
          have p0 := (cell_heap hh ⟨gx, k * 3, none⟩).trans z0
          have p1 := (cell_heap hh ⟨gx, k * 3 + 1, none⟩).trans z1
          have q0 : wr.cell? ⟨gn, m * 3, none⟩ = some (.int .u64 ya) := (cell_heap hh _).trans (hyc 0 _ rfl)
          have q1 : wr.cell? ⟨gn, m * 3 + 1, none⟩ = some (.slice yf yn yc) := (cell_heap hh _).trans (hyc 1 _ rfl)
          have q2 : wr.cell? ⟨gn, m * 3 + 2, none⟩ = some (.bool true) := (cell_heap hh _).trans (hyc 2 _ rfl)
          have q3 : wr.cell? ⟨b, 1, none⟩ = some (.int .i64 d') := (cell_heap hh _).trans HDC.out
          have hyi : (yn : Int) ≤ 1073741824 := by omega
          have hyi0 : (0 : Int) ≤ (yn : Int) := by omega
          have hT := takes_le (r := r2) (n := (yn : Int)) (by omega) hyi0
          have hTD := takes_def (n := (yn : Int)) hr21
          have hw1 : IntKind.u64.wrap (((yn : Int) * 1000000 + r2 - 1).tdiv r2) = takesE r2 yn := by
            rw [Int.tdiv_eq_ediv_of_nonneg (by omega), ← hTD, IntKind.wrap_u64]
            omega
          have hr20 : r2 ≠ 0 := by omega
          have hc1 : ¬ x.at_ < ya + takesE r2 yn + d' := by omega
          have hc2 : ∀ z, 0 < k → xs[k - 1]? = some z → ¬ x.at_ < z.at_ + takesE r2 yn := fun z h1 h2 => by have := hyz z h1 h2; omega
          clear hTD hyc hy hm hmt z0 z1 hyz hh hbl e0
          generalize x.at_ = xt at *
          generalize takesE r2 yn = nd at *
          cases k with
          | zero =>
            clear hc2
            have he0 : endsOf xs 0 = 0 := rfl
            rw [he0]
            clear he0
            go_wp2_with (go_quiet (fail))
            go_roundw
            case rel => exact ⟨0 + 1, by go_num, by omega, by rw [HEN.out], HH.out, below_drewN HBL.out _⟩
            case measure => simp [intOf]; omega
          | succ j =>
            obtain ⟨z, hz⟩ : ∃ z, xs[j]? = some z := ⟨_, List.getElem?_eq_getElem (by omega)⟩
            have hc3 := hc2 z (by omega) (by simpa using hz)
            have he : endsOf xs (j + 1) = z.at_ := by show ((xs[j]?).map It.at_).getD 0 = z.at_; rw [hz]; rfl
            rw [he]
            have hzt := HLE.out z (List.mem_of_getElem? hz)
            have hkp : (0 : Int) < ((j + 1 : Nat) : Int) := by omega
            have hz0 : 0 ≤ z.at_ := by
              obtain ⟨_, yz, _, _, _, hza, hzx, _⟩ := HTK.out j z hz
              have := takes_le (r := r2) (n := (yz.n : Int)) (by omega) (by omega)
              omega
            clear hc2 he hz
            generalize z.at_ = zt at *
            go_wp2_with (go_quiet (fail))
            go_roundw
            case rel => exact ⟨j + 1 + 1, by go_num, by omega, by rw [HEN.out], HH.out, below_drewN HBL.out _⟩
            case measure => simp [intOf]; omega
        · obtain rfl : k = xs.length := by omega
          have hki : ¬ (xs.length : Int) < (xs.length : Int) := by omega
          go_wp2_with (go_at_call 13; refine (HA.out _).mono ?_; rintro e w9 ⟨rfl, hb9⟩; have HB9 := hid hb9; clear hb9)
          go_ret
          refine ⟨rfl, ?_⟩
          rw [HBE.out]
          exact hbl.trans (HB9.out.mono (by have := hbl.size; have := HBE.out; omega))
end Go.Proofs.Ytoeldomhkeancaa
