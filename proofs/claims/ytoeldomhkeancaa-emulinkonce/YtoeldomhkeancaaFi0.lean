import Derived.Test.YtoeldomhkeancaaAl0
import Derived.Deep.RegionLaw
namespace Go.Proofs.Ytoeldomhkeancaa
open Go.RowKit Go.Maps
set_option maxRecDepth 100000

theorem ElAt.fr {S : Nat → Prop} {w w' : World} {a : Option Addr} {xs : List Value} (h : ElAt w a xs) (hf : Fr S w w') (hs : ∀ ad, a = some ad → ¬ S ad.block) : ElAt w' a xs := fun k x hx => by
  obtain ⟨g, o, e, hc⟩ := h k x hx
  exact ⟨g, o, e, hf.cell hc (show ¬ S g from hs _ e)⟩
theorem tmod_bd (x m : Int) (hm : 0 < m) (hx : 0 ≤ x) : ∃ r, x.tmod m = r ∧ 0 ≤ r ∧ r < m := by
  refine ⟨_, rfl, ?_, ?_⟩
  · rw [Int.tmod_eq_emod_of_nonneg hx]; exact Int.emod_nonneg _ (by omega)
  · rw [Int.tmod_eq_emod_of_nonneg hx]; exact Int.emod_lt_of_pos _ hm
theorem uw_nonneg (x : Int) : 0 ≤ IntKind.u64.wrap x := by rw [IntKind.wrap_u64]; omega
/-- append of one cell, as its run. -/
theorem push1_run {t e bytes : Nat} {i : TypeInfo} {z : Value} (ht : Try.prog.underlying t = some (.slice e)) (i1 : Try.prog.info? e = some i) (i2 : i.zero = some z) (i3 : i.size = 1) (i4 : i.bytes = bytes) (hz1 : z.cells.size = 1) (hby : bytes ≤ 8)
    {w : World} {base : Nat} {v : Value} {l : List Value} (h : w.ownsRow base e 1 v l.length l) {x : Value} {bx : Nat} (hl : l.length ≤ 65536) (hb : w.cell? ⟨bx, 0, none⟩ = some x) (hx : x.oneCell' = true) (hbase : base ≤ w.heap.size) (ty : TypeId) :
    ∃ v' w', (Builtin.append_ #[t, t] ty #[v, .slice (some ⟨bx, 0, none⟩) 1 1]).run Try.prog w = .ok v' w' ∧ w'.ownsRow base e 1 v' (l ++ [x]).length (l ++ [x]) ∧ Fr (fun k => v.ownBlock = some k) w w' ∧ ∃ a c, v' = .slice a (l.length + 1) c := by
  obtain ⟨v', w', hr, ho, hg, _, ha⟩ := run_append_own_at (P := Try.prog) w base t ty e i z 1 bytes ht i1 i2 i3 i4 hz1 (by decide) v l.length l h ⟨bx, 0, none⟩ 1 1 [x] rfl (fun j u hu => by
    have hj : j < 1 := (List.getElem?_eq_some_iff.1 hu).1
    obtain rfl : j = 0 := by omega
    rw [Addr.add_mid, hb, ← hu]; rfl) (by intro u hu; simp at hu; rw [hu]; exact hx) (by unfold maxLen; omega) (Nat.le_trans (Nat.mul_le_mul (show l.length + 1 ≤ 65537 by omega) hby) (by decide)) hbase
  rw [show l.length + 1 = (l ++ [x]).length by simp] at ho
  refine ⟨v', w', hr, ho, Fr.of_grown hg (fun k e => .inl e), ?_⟩
  obtain ⟨a, c, e, -⟩ := own1 ho
  exact ⟨a, c, by rw [e]; simp⟩
theorem bsl25 (w : World) (b : Bool) : (Instr.buildSlice 25 1 #[(0, .bool b)]).run Try.prog w = .ok (.slice (some ⟨w.heap.size, 0, none⟩) 1 1) (w.alloc (.cells #[.bool b] 4)) := by kernel_rfl
theorem bsl26 (w : World) (i : Int) : (Instr.buildSlice 26 1 #[(0, .int .i64 i)]).run Try.prog w = .ok (.slice (some ⟨w.heap.size, 0, none⟩) 1 1) (w.alloc (.cells #[.int .i64 i] 3)) := by kernel_rfl
theorem info_28 : (Try.prog.info? 28).map (·.size) = some 5 := by kernel_rfl
/-- The first of the two walks: what is lost. -/
structure FiA (w3 : World) (b3 : Nat) (r d q : Int) (loss : List Bool) (k : Nat) (v3 : Value) (w : World) : Prop where
  row : Row w b3 [.int .i64 r, .int .i64 d, .int .i64 q, v3, .slice none 0 0] 28
  own : w.ownsRow w3.heap.size 4 1 v3 ((loss.take k).map Value.bool).length ((loss.take k).map Value.bool)
  fr : Fr (fun j => j = b3) w3 w
/-- The second: how much later. -/
structure FiB (w3 : World) (b3 : Nat) (r d q : Int) (loss' : List Bool) (v3 : Value) (js : List Int) (v4 : Value) (w : World) : Prop where
  row : Row w b3 [.int .i64 r, .int .i64 d, .int .i64 q, v3, v4] 28
  own3 : w.ownsRow w3.heap.size 4 1 v3 loss'.length (loss'.map Value.bool)
  own : w.ownsRow w3.heap.size 3 1 v4 (js.map (Value.int .i64)).length (js.map (Value.int .i64))
  fr : Fr (fun j => j = b3) w3 w
  bd : ∀ x ∈ js, 0 ≤ x ∧ x < 1099511627776
/-- What fit comes to. -/
def FitP (w : World) (e : Ending) (w' : World) : Prop :=
  ∃ (r d q : Int) (loss : List Bool) (jit : List Int) (v3 v4 : Value), e = .returned (.agg (confC r d q v3 v4).toArray) ∧ fitE r d q loss.length jit = 0 ∧ w'.ownsRow w.heap.size 4 1 v3 loss.length (loss.map Value.bool) ∧ w'.ownsRow w.heap.size 3 1 v4 jit.length (jit.map (Value.int .i64)) ∧ Below w.heap.size w w'
theorem fit_good {r d q : Int} {ln : Nat} {jit : List Int} (r0 : 0 ≤ r) (r1 : r < 1099511627776) (d0 : 0 ≤ d) (d1 : d < 1099511627776) (q0 : 0 ≤ q) (q1 : q < 1073741824) (hl : ln ≤ 65536) (hj : jit.length ≤ 65536) (hb : ∀ x ∈ jit, 0 ≤ x ∧ x < 1099511627776) : fitE r d (1 + q) ln jit = 0 := by
  have : jit.any badJ = false := by
    rw [List.any_eq_false]
    intro x hx
    have := hb x hx
    unfold badJ
    rw [decide_eq_true_iff]
    omega
  unfold fitE
  rw [if_neg (by omega), if_neg (by omega), if_neg (by omega), if_neg (by rw [this]; simp; omega)]
set_option maxHeartbeats 8000000 in
/-- Any configuration is made one that may be. -/
theorem fitc_any {w : World} {r d q : Int} {la ja : Option Addr} {lc jc : Nat} {loss : List Bool} {jit : List Int} (hlo : ElAt w la (loss.map Value.bool)) (hj : ElAt w ja (jit.map (Value.int .i64))) (hll : loss.length ≤ 140737488355328) (hjl : jit.length ≤ 140737488355328) :
    Calls Try.prog 14 #[.agg (confC r d q (.slice la loss.length lc) (.slice ja jit.length jc)).toArray] w fun e w' => FitP w e w' := by
  obtain ⟨r', er, r0, r1⟩ := tmod_bd (IntKind.u64.wrap r) 1099511627776 (by decide) (uw_nonneg r)
  obtain ⟨d', ed, d0, d1⟩ := tmod_bd (IntKind.u64.wrap d) 1099511627776 (by decide) (uw_nonneg d)
  obtain ⟨q', eq, q0, q1⟩ := tmod_bd (IntKind.u64.wrap q) 1073741824 (by decide) (uw_nonneg q)
  have hb1 := below_new w (.cells #[.int .i64 r, .int .i64 d, .int .i64 q, .slice la loss.length lc, .slice ja jit.length jc] 28)
  have R1 := Row.new w (confC r d q (.slice la loss.length lc) (.slice ja jit.length jc)) 28
  simp only [confC] at R1 ⊢
  go_enter Try.func14, Try.ntmps14
  go_upto_region 2 with fail
  refine wp_world fun w3 HW => ?_
  have R2 := (R1.alloc (.cells #[.int .i64 0, .int .i64 0, .int .i64 0, .slice none 0 0, .slice none 0 0] 28)).alloc (.cells #[.int .i64 r', .int .i64 d', .int .i64 (1 + q'), .slice none 0 0, .slice none 0 0] 28)
  obtain ⟨b1, hb⟩ : ∃ b1, w.heap.size = b1 := ⟨_, rfl⟩
  have hs1 : (w.alloc (.cells #[.int .i64 r, .int .i64 d, .int .i64 q, .slice la loss.length lc, .slice ja jit.length jc] 28)).heap.size = b1 + 1 := by rw [← hb]; simp
  have R3 := (Row.new (w.alloc (.cells #[.int .i64 r, .int .i64 d, .int .i64 q, .slice la loss.length lc, .slice ja jit.length jc] 28)) [.int .i64 0, .int .i64 0, .int .i64 0, .slice none 0 0, .slice none 0 0] 28).alloc (.cells #[.int .i64 r', .int .i64 d', .int .i64 (1 + q'), .slice none 0 0, .slice none 0 0] 28)
  have R4 := Row.new ((w.alloc (.cells #[.int .i64 r, .int .i64 d, .int .i64 q, .slice la loss.length lc, .slice ja jit.length jc] 28)).alloc (.cells #[.int .i64 0, .int .i64 0, .int .i64 0, .slice none 0 0, .slice none 0 0] 28)) [.int .i64 r', .int .i64 d', .int .i64 (1 + q'), .slice none 0 0, .slice none 0 0] 28
  have hs2 : ((w.alloc (.cells #[.int .i64 r, .int .i64 d, .int .i64 q, .slice la loss.length lc, .slice ja jit.length jc] 28)).alloc (.cells #[.int .i64 0, .int .i64 0, .int .i64 0, .slice none 0 0, .slice none 0 0] 28)).heap.size = b1 + 1 + 1 := by rw [← hb]; simp
  rw [hs1] at R3
  rw [hs2] at R4
  have HB3 : Hid (Below w.heap.size w w3) := by
    show Below _ _ _
    rw [HW.out]
    exact below_two (below_two hb1 (below_new _ _) (Nat.le_refl _)) (below_new _ _) (Nat.le_refl _)
  have HR2 : Hid (Row w3 b1 [.int .i64 r, .int .i64 d, .int .i64 q, .slice la loss.length lc, .slice ja jit.length jc] 28) := by show Row w3 _ _ _; rw [HW.out, ← hb]; exact R2
  have HR3 : Hid (Row w3 (b1 + 1) [.int .i64 0, .int .i64 0, .int .i64 0, .slice none 0 0, .slice none 0 0] 28) := by show Row w3 _ _ _; rw [HW.out]; exact R3
  have HR4 : Hid (Row w3 (b1 + 1 + 1) [.int .i64 r', .int .i64 d', .int .i64 (1 + q'), .slice none 0 0, .slice none 0 0] 28) := by show Row w3 _ _ _; rw [HW.out]; exact R4
  have HBB := hid hb
  rw [hb]
  clear HW R1 R2 R3 R4 hb1 hs1 hs2 hb
  obtain ⟨b3, hb3⟩ : ∃ b3, b1 + 1 + 1 = b3 := ⟨_, rfl⟩
  have HW3 := hid hb3
  rw [hb3] at HR4 ⊢
  clear hb3
  have hb13 : b1 < b3 := by have := HW3.out; omega
  have HEL : Hid (∀ wr, Fr (fun j => j = b3) w3 wr → ElAt wr la (loss.map Value.bool) ∧ ElAt wr ja (jit.map (Value.int .i64)) ∧ Row wr b1 [.int .i64 r, .int .i64 d, .int .i64 q, .slice la loss.length lc, .slice ja jit.length jc] 28 ∧ Row wr (b1 + 1) [.int .i64 0, .int .i64 0, .int .i64 0, .slice none 0 0, .slice none 0 0] 28 ∧ Below w.heap.size w wr) := fun wr hF => by
    have hb := HB3.out.trans (hF.below (fun x e => by have := HBB.out; omega) HB3.out.size)
    exact ⟨hlo.kept hb, hj.kept hb, hF.row HR2.out (by omega), hF.row HR3.out (by have := HW3.out; omega), hb⟩
  have HS1 : Hid (FiA w3 b3 r' d' (1 + q') loss 0 (.slice none 0 0) w3) := ⟨HR4.out, ⟨rfl, .inl ⟨rfl, rfl⟩⟩, Fr.refl _ _⟩
  clear hlo hj er ed eq HR2 HR3 HR4
  go_wp2_with fail
  go_loopw [4] (fun s wr => ∃ (k : Nat) (v3 : Value), s = .int .i64 k ∧ k ≤ 65536 ∧ k ≤ loss.length ∧ FiA w3 b3 r' d' (1 + q') loss k v3 wr) (fun s _ => 65537 - (intOf s).toNat)
  case atStart => exact ⟨0, _, by go_num, by omega, Nat.zero_le _, HS1.out⟩
  case round =>
    obtain ⟨k, v3, rfl, hk1, hk2, hI⟩ := hrel
    have HI := hid hI
    obtain ⟨hE1, hE2, hR1, hR2, hBw⟩ := HEL.out _ hI.fr
    have c3 := hR1.cell 3 _ rfl
    have hli : (loss.length : Int) ≤ 140737488355328 := by omega
    have hki : (k : Int) ≤ 65536 := by omega
    have hk0 : (0 : Int) ≤ (k : Int) := by omega
    clear hI hE2 hR2 hBw
    by_cases h1 : k < loss.length
    · have h1i : (k : Int) < (loss.length : Int) := by omega
      by_cases h2 : k < 65536
      · have h2i : (k : Int) < 65536 := by omega
        obtain ⟨g, oo, rfl, cg⟩ := hE1 k (.bool loss[k]) (by simp [h1])
        have hS := hid (show (loss.take (k + 1)).map Value.bool = (loss.take k).map Value.bool ++ [.bool loss[k]] by rw [List.take_succ_eq_append_getElem h1, List.map_append]; rfl)
        generalize loss[k] = x at *
        go_upto_region 5 with fail
        have hba := below_drewN (below_new wr (.cells #[.bool x] 4)) 1
        obtain ⟨i, i1, i2, i3, i4⟩ := inf4
        have hlk : ((loss.take k).map Value.bool).length ≤ 65536 := by simp; omega
        obtain ⟨v', w4, hrun, hO4, hF4, a4, c4, e4⟩ := push1_run Try.underlying25 i1 i2 i3 i4 rfl (by decide) (own_below HI.out.own hba) hlk (show ((wr.alloc (.cells #[.bool x] 4)).drewN 1).cell? ⟨wr.heap.size, 0, none⟩ = some (.bool x) from (Row.new wr [.bool x] 4).cell 0 _ rfl) rfl (Nat.le_trans HI.out.fr.size hba.size) 25
        obtain ⟨a3, n3, hv3, -⟩ := own1 HI.out.own
        have RA := HI.out.row.alloc (.cells #[.bool x] 4)
        have R5 := hR1.alloc (.cells #[.bool x] 4)
        have c3a := R5.cell 3 _ rfl
        have cga := cell_kept (below_new wr (.cells #[.bool x] 4)) cg
        have RB := hF4.row (RA.drew 1) (own_row (own_below HI.out.own hba) (RA.drew 1) (by decide))
        have y0 := HI.out.row.cell 3 _ rfl
        have ya := RA.cell 3 _ rfl
        have yb := RB.cell 3 _ rfl
        have fb := RB.frozen 3
        rw [hv3] at y0 ya yb hrun
        subst e4
        have hvb : ∀ gg, (Value.slice a4 (((loss.take k).map Value.bool).length + 1) c4).ownBlock = some gg → gg ≠ b3 := fun gg e e' => own_row hO4 RB (by decide) (e' ▸ e)
        have HE : Hid (FiA w3 b3 r' d' (1 + q') loss (k + 1) (.slice a4 (((loss.take k).map Value.bool).length + 1) c4) (w4.setCell ⟨b3, 3, none⟩ (.slice a4 (((loss.take k).map Value.bool).length + 1) c4))) := by
          refine ⟨RB.set 3 _, ?_, ?_⟩
          · rw [hS.out]
            exact Fr.own (S := fun j => j = b3) ((Fr.refl _ w4).setCell b3 3 _ (.inl rfl)) hO4 hvb
          · have f1 : Fr (fun j => j = b3) w3 ((wr.alloc (.cells #[.bool x] 4)).drewN 1) := HI.out.fr.trans (T := fun _ => False) (Fr.of_below hba (Nat.le_refl _)) (fun _ e => e.elim)
            exact (f1.trans hF4 (fun y e => .inr (own_ge HI.out.own e))).setCell b3 3 _ (.inl rfl)
        have hbs := bsl25
        have HRUN := hid hrun
        clear hba hlk hO4 hF4 RA RB R5 hrun hv3 hvb HI hR1 hS i1 i2 i3 i4
        generalize ((loss.take k).map Value.bool).length = nk at *
        go_region_law (refine step_append_byi (by rfl) _ _ _ (by rfl) (by rfl) (by rfl) HRUN.out ?_)
        all_goals go_wp2_with fail
        all_goals go_roundw
        all_goals first
          | exact ⟨k + 1, _, by go_num, by omega, by omega, HE.out⟩
          | (simp [intOf]; omega)
      · have h2i : ¬ (k : Int) < 65536 := by omega
        have HFB : Hid (FiB w3 b3 r' d' (1 + q') (loss.take k) v3 [] (.slice none 0 0) wr) := ⟨HI.out.row, by have := HI.out.own; simpa using this, ⟨rfl, .inl ⟨rfl, rfl⟩⟩, HI.out.fr, by simp⟩
        have HLT := hid (show (loss.take k).length ≤ 65536 by simp; omega)
        clear HS1
        go_wp2_with fail
        clear HI h1i hE1 c3 hR1 hk0 hki hli
        go_loopw [5] (fun s wx => ∃ (m : Nat) (js : List Int) (v4 : Value), s = .int .i64 m ∧ m ≤ 65536 ∧ m ≤ jit.length ∧ js.length = m ∧ FiB w3 b3 r' d' (1 + q') (loss.take k) v3 js v4 wx) (fun s _ => 65537 - (intOf s).toNat)
        case atStart => exact ⟨0, [], _, by go_num, by omega, Nat.zero_le _, rfl, HFB.out⟩
        case round =>
          obtain ⟨m, js, v4, rfl, hm1, hm2, hjs, hI⟩ := hrel
          have HI := hid hI
          obtain ⟨-, hE2, hR1, hR2, hBw⟩ := HEL.out _ hI.fr
          have c4 := hR1.cell 4 _ rfl
          have hji : (jit.length : Int) ≤ 140737488355328 := by omega
          have hmi : (m : Int) ≤ 65536 := by omega
          have hm0 : (0 : Int) ≤ (m : Int) := by omega
          have HR2 := hid hR2
          have HBw := hid hBw
          clear hI hR2 hBw HFB
          by_cases g1 : m < jit.length
          · have g1i : (m : Int) < (jit.length : Int) := by omega
            by_cases g2 : m < 65536
            · have g2i : (m : Int) < 65536 := by omega
              obtain ⟨g, oo, rfl, cg⟩ := hE2 m (.int .i64 jit[m]) (by simp [g1])
              obtain ⟨j', ej, j0, j1⟩ := tmod_bd (IntKind.u64.wrap jit[m]) 1099511627776 (by decide) (uw_nonneg _)
              generalize jit[m] = x at *
              go_upto_region 9 with fail
              have hba := below_drewN (below_new wr (.cells #[.int .i64 j'] 3)) 1
              obtain ⟨i, i1, i2, i3, i4⟩ := inf3
              have hlk : (js.map (Value.int .i64)).length ≤ 65536 := by simp; omega
              obtain ⟨v', w4, hrun, hO4, hF4, a4, c4', e4⟩ := push1_run Try.underlying26 i1 i2 i3 i4 rfl (by decide) (own_below HI.out.own hba) hlk (show ((wr.alloc (.cells #[.int .i64 j'] 3)).drewN 1).cell? ⟨wr.heap.size, 0, none⟩ = some (.int .i64 j') from (Row.new wr [.int .i64 j'] 3).cell 0 _ rfl) rfl (Nat.le_trans HI.out.fr.size hba.size) 26
              obtain ⟨a3, n3, hv3, -⟩ := own1 HI.out.own
              have RA := HI.out.row.alloc (.cells #[.int .i64 j'] 3)
              have R5 := hR1.alloc (.cells #[.int .i64 j'] 3)
              have c4a := R5.cell 4 _ rfl
              have cga := cell_kept (below_new wr (.cells #[.int .i64 j'] 3)) cg
              have RB := hF4.row (RA.drew 1) (own_row (own_below HI.out.own hba) (RA.drew 1) (by decide))
              have y0 := HI.out.row.cell 4 _ rfl
              have ya := RA.cell 4 _ rfl
              have yb := RB.cell 4 _ rfl
              have fb := RB.frozen 4
              rw [hv3] at y0 ya yb hrun
              subst e4
              have hvb : ∀ gg, (Value.slice a4 ((js.map (Value.int .i64)).length + 1) c4').ownBlock = some gg → gg ≠ b3 := fun gg e e' => own_row hO4 RB (by decide) (e' ▸ e)
              have HE : Hid (FiB w3 b3 r' d' (1 + q') (loss.take k) v3 (js ++ [j']) (.slice a4 ((js.map (Value.int .i64)).length + 1) c4') (w4.setCell ⟨b3, 4, none⟩ (.slice a4 ((js.map (Value.int .i64)).length + 1) c4'))) := by
                have f1 : Fr (fun j => j = b3) w3 ((wr.alloc (.cells #[.int .i64 j'] 3)).drewN 1) := HI.out.fr.trans (T := fun _ => False) (Fr.of_below hba (Nat.le_refl _)) (fun _ e => e.elim)
                have hset : Fr (fun j => j = b3) w4 (w4.setCell ⟨b3, 4, none⟩ (.slice a4 ((js.map (Value.int .i64)).length + 1) c4')) := (Fr.refl _ w4).setCell b3 4 _ (.inl rfl)
                have ho3 := hF4.own (own_below HI.out.own3 hba) (fun gg e e' => own_two (own_below HI.out.own3 hba) (own_below HI.out.own hba) (by decide) e e')
                refine ⟨RB.set 4 _, hset.own ho3 (fun gg e e' => own_row ho3 RB (by decide) (e' ▸ e)), ?_, ?_, ?_⟩
                · rw [show (js ++ [j']).map (Value.int .i64) = js.map (Value.int .i64) ++ [.int .i64 j'] by simp]
                  exact hset.own hO4 hvb
                · exact (f1.trans hF4 (fun y e => .inr (own_ge HI.out.own e))).setCell b3 4 _ (.inl rfl)
                · intro y hy
                  rcases List.mem_append.1 hy with h | h
                  · exact HI.out.bd y h
                  · simp at h
                    subst h
                    exact ⟨j0, j1⟩
              have hbs := bsl26
              have hwj : IntKind.i64.wrap j' = j' := by rw [IntKind.wrap_i64]; omega
              have HLJ := hid (show (js ++ [j']).length = m + 1 by simp; omega)
              have HRUN := hid hrun
              clear hba hlk hO4 hF4 RA RB R5 hrun hv3 hvb HI hR1 hjs i1 i2 i3 i4 HR2 HBw
              generalize (js.map (Value.int .i64)).length = nk at *
              go_region_law (refine step_append_byi (by rfl) _ _ _ (by rfl) (by rfl) (by rfl) HRUN.out ?_)
              all_goals go_wp2_with fail
              all_goals go_roundw
              all_goals first
                | exact ⟨m + 1, js ++ [j'], _, by go_num, by omega, by omega, HLJ.out, HE.out⟩
                | (simp [intOf]; omega)
            · have g2i : ¬ (m : Int) < 65536 := by omega
              have hso : ∀ u ∈ [(.int .i64 r' : Value), .int .i64 d', .int .i64 (1 + q'), v3, v4], u.oneCell' = true := by
                obtain ⟨xa, xc, e3, -⟩ := own1 HI.out.own3
                obtain ⟨ya, yc, e4, -⟩ := own1 HI.out.own
                intro u hu
                simp only [List.mem_cons, List.not_mem_nil, or_false] at hu
                rcases hu with rfl | rfl | rfl | rfl | rfl
                · rfl
                · rfl
                · rfl
                · rw [e3]; rfl
                · rw [e4]; rfl
              go_wp2_with (first
                | (show wpList _ _ _ (Oper.mk _ (.load 28 (.tmp 3)) _ _ _ _ :: _) _ _; refine HI.out.row.wpLoad 28 (.tmp 3) rfl rfl rfl _ Try.underlying28 rfl info_28 ?_)
                | (show wpList _ _ _ (Oper.mk none (.store 28 (.tmp 2) (.tmp 68)) _ _ _ _ :: _) _ _; refine HR2.out.wpStore' 28 (.tmp 2) (.tmp 68) [.int .i64 r', .int .i64 d', .int .i64 (1 + q'), v3, v4] rfl rfl rfl rfl rfl hso info_28 ?_; intro w9 HW9))
              have R9 : Row w9 (b1 + 1) [.int .i64 r', .int .i64 d', .int .i64 (1 + q'), v3, v4] 28 := by rw [HW9.out]; exact HR2.out.row _
              have hF9 : Fr (fun j => j = b1 + 1) wr w9 := by rw [HW9.out]; exact fr_row _ _ _
              have hs3 := HB3.out.size
              refine bodyPost_ret (v := .agg (confC r' d' (1 + q') v3 v4).toArray) (R9.result Try.results14 _ rfl _ Try.underlying28 rfl info_28) rfl ⟨r', d', 1 + q', loss.take k, js, v3, v4, rfl, fit_good r0 r1 d0 d1 q0 q1 HLT.out (by omega) HI.out.bd, hF9.own (own_less HI.out.own3 hs3) (fun gg e e' => own_row HI.out.own3 HR2.out (by decide) (e' ▸ e)), hF9.own (own_less (by simpa using HI.out.own) hs3) (fun gg e e' => own_row HI.out.own HR2.out (by decide) (e' ▸ e)), HBw.out.trans (hF9.below (fun x e => by have := HBB.out; omega) HBw.out.size)⟩
          · have g1i : ¬ (m : Int) < (jit.length : Int) := by omega
            have hso : ∀ u ∈ [(.int .i64 r' : Value), .int .i64 d', .int .i64 (1 + q'), v3, v4], u.oneCell' = true := by
              obtain ⟨xa, xc, e3, -⟩ := own1 HI.out.own3
              obtain ⟨ya, yc, e4, -⟩ := own1 HI.out.own
              intro u hu
              simp only [List.mem_cons, List.not_mem_nil, or_false] at hu
              rcases hu with rfl | rfl | rfl | rfl | rfl
              · rfl
              · rfl
              · rfl
              · rw [e3]; rfl
              · rw [e4]; rfl
            go_wp2_with (first
              | (show wpList _ _ _ (Oper.mk _ (.load 28 (.tmp 3)) _ _ _ _ :: _) _ _; refine HI.out.row.wpLoad 28 (.tmp 3) rfl rfl rfl _ Try.underlying28 rfl info_28 ?_)
              | (show wpList _ _ _ (Oper.mk none (.store 28 (.tmp 2) (.tmp 68)) _ _ _ _ :: _) _ _; refine HR2.out.wpStore' 28 (.tmp 2) (.tmp 68) [.int .i64 r', .int .i64 d', .int .i64 (1 + q'), v3, v4] rfl rfl rfl rfl rfl hso info_28 ?_; intro w9 HW9))
            have R9 : Row w9 (b1 + 1) [.int .i64 r', .int .i64 d', .int .i64 (1 + q'), v3, v4] 28 := by rw [HW9.out]; exact HR2.out.row _
            have hF9 : Fr (fun j => j = b1 + 1) wr w9 := by rw [HW9.out]; exact fr_row _ _ _
            have hs3 := HB3.out.size
            refine bodyPost_ret (v := .agg (confC r' d' (1 + q') v3 v4).toArray) (R9.result Try.results14 _ rfl _ Try.underlying28 rfl info_28) rfl ⟨r', d', 1 + q', loss.take k, js, v3, v4, rfl, fit_good r0 r1 d0 d1 q0 q1 HLT.out (by omega) HI.out.bd, hF9.own (own_less HI.out.own3 hs3) (fun gg e e' => own_row HI.out.own3 HR2.out (by decide) (e' ▸ e)), hF9.own (own_less (by simpa using HI.out.own) hs3) (fun gg e e' => own_row HI.out.own HR2.out (by decide) (e' ▸ e)), HBw.out.trans (hF9.below (fun x e => by have := HBB.out; omega) HBw.out.size)⟩
    · have h1i : ¬ (k : Int) < (loss.length : Int) := by omega
      have HFB : Hid (FiB w3 b3 r' d' (1 + q') (loss.take k) v3 [] (.slice none 0 0) wr) := ⟨HI.out.row, by have := HI.out.own; simpa using this, ⟨rfl, .inl ⟨rfl, rfl⟩⟩, HI.out.fr, by simp⟩
      have HLT := hid (show (loss.take k).length ≤ 65536 by simp; omega)
      clear HS1
      go_wp2_with fail
      clear HI h1i hE1 c3 hR1 hk0 hki hli
      go_loopw [5] (fun s wx => ∃ (m : Nat) (js : List Int) (v4 : Value), s = .int .i64 m ∧ m ≤ 65536 ∧ m ≤ jit.length ∧ js.length = m ∧ FiB w3 b3 r' d' (1 + q') (loss.take k) v3 js v4 wx) (fun s _ => 65537 - (intOf s).toNat)
      case atStart => exact ⟨0, [], _, by go_num, by omega, Nat.zero_le _, rfl, HFB.out⟩
      case round =>
        obtain ⟨m, js, v4, rfl, hm1, hm2, hjs, hI⟩ := hrel
        have HI := hid hI
        obtain ⟨-, hE2, hR1, hR2, hBw⟩ := HEL.out _ hI.fr
        have c4 := hR1.cell 4 _ rfl
        have hji : (jit.length : Int) ≤ 140737488355328 := by omega
        have hmi : (m : Int) ≤ 65536 := by omega
        have hm0 : (0 : Int) ≤ (m : Int) := by omega
        have HR2 := hid hR2
        have HBw := hid hBw
        clear hI hR2 hBw HFB
        by_cases g1 : m < jit.length
        · have g1i : (m : Int) < (jit.length : Int) := by omega
          by_cases g2 : m < 65536
          · have g2i : (m : Int) < 65536 := by omega
            obtain ⟨g, oo, rfl, cg⟩ := hE2 m (.int .i64 jit[m]) (by simp [g1])
            obtain ⟨j', ej, j0, j1⟩ := tmod_bd (IntKind.u64.wrap jit[m]) 1099511627776 (by decide) (uw_nonneg _)
            generalize jit[m] = x at *
            go_upto_region 9 with fail
            have hba := below_drewN (below_new wr (.cells #[.int .i64 j'] 3)) 1
            obtain ⟨i, i1, i2, i3, i4⟩ := inf3
            have hlk : (js.map (Value.int .i64)).length ≤ 65536 := by simp; omega
            obtain ⟨v', w4, hrun, hO4, hF4, a4, c4', e4⟩ := push1_run Try.underlying26 i1 i2 i3 i4 rfl (by decide) (own_below HI.out.own hba) hlk (show ((wr.alloc (.cells #[.int .i64 j'] 3)).drewN 1).cell? ⟨wr.heap.size, 0, none⟩ = some (.int .i64 j') from (Row.new wr [.int .i64 j'] 3).cell 0 _ rfl) rfl (Nat.le_trans HI.out.fr.size hba.size) 26
            obtain ⟨a3, n3, hv3, -⟩ := own1 HI.out.own
            have RA := HI.out.row.alloc (.cells #[.int .i64 j'] 3)
            have R5 := hR1.alloc (.cells #[.int .i64 j'] 3)
            have c4a := R5.cell 4 _ rfl
            have cga := cell_kept (below_new wr (.cells #[.int .i64 j'] 3)) cg
            have RB := hF4.row (RA.drew 1) (own_row (own_below HI.out.own hba) (RA.drew 1) (by decide))
            have y0 := HI.out.row.cell 4 _ rfl
            have ya := RA.cell 4 _ rfl
            have yb := RB.cell 4 _ rfl
            have fb := RB.frozen 4
            rw [hv3] at y0 ya yb hrun
            subst e4
            have hvb : ∀ gg, (Value.slice a4 ((js.map (Value.int .i64)).length + 1) c4').ownBlock = some gg → gg ≠ b3 := fun gg e e' => own_row hO4 RB (by decide) (e' ▸ e)
            have HE : Hid (FiB w3 b3 r' d' (1 + q') (loss.take k) v3 (js ++ [j']) (.slice a4 ((js.map (Value.int .i64)).length + 1) c4') (w4.setCell ⟨b3, 4, none⟩ (.slice a4 ((js.map (Value.int .i64)).length + 1) c4'))) := by
              have f1 : Fr (fun j => j = b3) w3 ((wr.alloc (.cells #[.int .i64 j'] 3)).drewN 1) := HI.out.fr.trans (T := fun _ => False) (Fr.of_below hba (Nat.le_refl _)) (fun _ e => e.elim)
              have hset : Fr (fun j => j = b3) w4 (w4.setCell ⟨b3, 4, none⟩ (.slice a4 ((js.map (Value.int .i64)).length + 1) c4')) := (Fr.refl _ w4).setCell b3 4 _ (.inl rfl)
              have ho3 := hF4.own (own_below HI.out.own3 hba) (fun gg e e' => own_two (own_below HI.out.own3 hba) (own_below HI.out.own hba) (by decide) e e')
              refine ⟨RB.set 4 _, hset.own ho3 (fun gg e e' => own_row ho3 RB (by decide) (e' ▸ e)), ?_, ?_, ?_⟩
              · rw [show (js ++ [j']).map (Value.int .i64) = js.map (Value.int .i64) ++ [.int .i64 j'] by simp]
                exact hset.own hO4 hvb
              · exact (f1.trans hF4 (fun y e => .inr (own_ge HI.out.own e))).setCell b3 4 _ (.inl rfl)
              · intro y hy
                rcases List.mem_append.1 hy with h | h
                · exact HI.out.bd y h
                · simp at h
                  subst h
                  exact ⟨j0, j1⟩
            have hbs := bsl26
            have hwj : IntKind.i64.wrap j' = j' := by rw [IntKind.wrap_i64]; omega
            have HLJ := hid (show (js ++ [j']).length = m + 1 by simp; omega)
            have HRUN := hid hrun
            clear hba hlk hO4 hF4 RA RB R5 hrun hv3 hvb HI hR1 hjs i1 i2 i3 i4 HR2 HBw
            generalize (js.map (Value.int .i64)).length = nk at *
            go_region_law (refine step_append_byi (by rfl) _ _ _ (by rfl) (by rfl) (by rfl) HRUN.out ?_)
            all_goals go_wp2_with fail
            all_goals go_roundw
            all_goals first
              | exact ⟨m + 1, js ++ [j'], _, by go_num, by omega, by omega, HLJ.out, HE.out⟩
              | (simp [intOf]; omega)
          · have g2i : ¬ (m : Int) < 65536 := by omega
            have hso : ∀ u ∈ [(.int .i64 r' : Value), .int .i64 d', .int .i64 (1 + q'), v3, v4], u.oneCell' = true := by
              obtain ⟨xa, xc, e3, -⟩ := own1 HI.out.own3
              obtain ⟨ya, yc, e4, -⟩ := own1 HI.out.own
              intro u hu
              simp only [List.mem_cons, List.not_mem_nil, or_false] at hu
              rcases hu with rfl | rfl | rfl | rfl | rfl
              · rfl
              · rfl
              · rfl
              · rw [e3]; rfl
              · rw [e4]; rfl
            go_wp2_with (first
              | (show wpList _ _ _ (Oper.mk _ (.load 28 (.tmp 3)) _ _ _ _ :: _) _ _; refine HI.out.row.wpLoad 28 (.tmp 3) rfl rfl rfl _ Try.underlying28 rfl info_28 ?_)
              | (show wpList _ _ _ (Oper.mk none (.store 28 (.tmp 2) (.tmp 68)) _ _ _ _ :: _) _ _; refine HR2.out.wpStore' 28 (.tmp 2) (.tmp 68) [.int .i64 r', .int .i64 d', .int .i64 (1 + q'), v3, v4] rfl rfl rfl rfl rfl hso info_28 ?_; intro w9 HW9))
            have R9 : Row w9 (b1 + 1) [.int .i64 r', .int .i64 d', .int .i64 (1 + q'), v3, v4] 28 := by rw [HW9.out]; exact HR2.out.row _
            have hF9 : Fr (fun j => j = b1 + 1) wr w9 := by rw [HW9.out]; exact fr_row _ _ _
            have hs3 := HB3.out.size
            refine bodyPost_ret (v := .agg (confC r' d' (1 + q') v3 v4).toArray) (R9.result Try.results14 _ rfl _ Try.underlying28 rfl info_28) rfl ⟨r', d', 1 + q', loss.take k, js, v3, v4, rfl, fit_good r0 r1 d0 d1 q0 q1 HLT.out (by omega) HI.out.bd, hF9.own (own_less HI.out.own3 hs3) (fun gg e e' => own_row HI.out.own3 HR2.out (by decide) (e' ▸ e)), hF9.own (own_less (by simpa using HI.out.own) hs3) (fun gg e e' => own_row HI.out.own HR2.out (by decide) (e' ▸ e)), HBw.out.trans (hF9.below (fun x e => by have := HBB.out; omega) HBw.out.size)⟩
        · have g1i : ¬ (m : Int) < (jit.length : Int) := by omega
          have hso : ∀ u ∈ [(.int .i64 r' : Value), .int .i64 d', .int .i64 (1 + q'), v3, v4], u.oneCell' = true := by
            obtain ⟨xa, xc, e3, -⟩ := own1 HI.out.own3
            obtain ⟨ya, yc, e4, -⟩ := own1 HI.out.own
            intro u hu
            simp only [List.mem_cons, List.not_mem_nil, or_false] at hu
            rcases hu with rfl | rfl | rfl | rfl | rfl
            · rfl
            · rfl
            · rfl
            · rw [e3]; rfl
            · rw [e4]; rfl
          go_wp2_with (first
            | (show wpList _ _ _ (Oper.mk _ (.load 28 (.tmp 3)) _ _ _ _ :: _) _ _; refine HI.out.row.wpLoad 28 (.tmp 3) rfl rfl rfl _ Try.underlying28 rfl info_28 ?_)
            | (show wpList _ _ _ (Oper.mk none (.store 28 (.tmp 2) (.tmp 68)) _ _ _ _ :: _) _ _; refine HR2.out.wpStore' 28 (.tmp 2) (.tmp 68) [.int .i64 r', .int .i64 d', .int .i64 (1 + q'), v3, v4] rfl rfl rfl rfl rfl hso info_28 ?_; intro w9 HW9))
          have R9 : Row w9 (b1 + 1) [.int .i64 r', .int .i64 d', .int .i64 (1 + q'), v3, v4] 28 := by rw [HW9.out]; exact HR2.out.row _
          have hF9 : Fr (fun j => j = b1 + 1) wr w9 := by rw [HW9.out]; exact fr_row _ _ _
          have hs3 := HB3.out.size
          refine bodyPost_ret (v := .agg (confC r' d' (1 + q') v3 v4).toArray) (R9.result Try.results14 _ rfl _ Try.underlying28 rfl info_28) rfl ⟨r', d', 1 + q', loss.take k, js, v3, v4, rfl, fit_good r0 r1 d0 d1 q0 q1 HLT.out (by omega) HI.out.bd, hF9.own (own_less HI.out.own3 hs3) (fun gg e e' => own_row HI.out.own3 HR2.out (by decide) (e' ▸ e)), hF9.own (own_less (by simpa using HI.out.own) hs3) (fun gg e e' => own_row HI.out.own HR2.out (by decide) (e' ▸ e)), HBw.out.trans (hF9.below (fun x e => by have := HBB.out; omega) HBw.out.size)⟩
end Go.Proofs.Ytoeldomhkeancaa
