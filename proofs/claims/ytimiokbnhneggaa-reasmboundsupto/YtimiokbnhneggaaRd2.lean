import Derived.Test.YtimiokbnhneggaaRd1
namespace Go.Proofs.Ytimiokbnhneggaa
open Go.RowKit Go.Maps Go.Sort
set_option maxRecDepth 100000

set_option maxHeartbeats 1000000 in
theorem read_neg {w : World} {p b : Nat} {v : Value} {F : Bf} (h : BufR w p v b F) (n : Int) (hn : n < 0) :
    Calls Try.prog 12 #[.pointer (some ⟨p, 0, none⟩), .int .i64 n] w fun e w' => e = .returned (.tuple #[.slice none 0 0, .bool false, .int .i64 85]) ∧ w' = w := by
  have hN := none_no h
  clear h
  go_enter Try.func12, Try.ntmps12
  go_wp2_with (go_at_call 27; refine hN.mono ?_; rintro e w1 ⟨rfl, rfl⟩)
  refine bodyPost_ret (results_tmp3 Try.results12 _ _ _) rfl ?_
  exact ⟨rfl, rfl⟩
set_option maxHeartbeats 2000000 in
theorem read_nil {w : World} {p b : Nat} {v : Value} {F : Bf} (h : BufR w p v b F) (n : Int) (hn : 0 ≤ n) (hg : F.gap = F.read) :
    Calls Try.prog 12 #[.pointer (some ⟨p, 0, none⟩), .int .i64 n] w fun e w' => e = .returned (.tuple #[.slice none 0 0, .bool F.done, .int .i64 0]) ∧ Below w.heap.size w w' := by
  have hN := none_no h
  have H := hid h
  have K1 := hid h.gapK
  have v5 := cell_regrown (h.row.cell 5 _ rfl)
  rw [hg] at K1
  clear h
  have hnn : ¬ n < 0 := by omega
  go_enter Try.func12, Try.ntmps12
  go_upto_region 5 with (go_at_call 27; refine hN.mono ?_; rintro e w1 ⟨rfl, rfl⟩)
  refine wp_region_quiet_below (by kernel_rfl) (by decide +kernel) ?_
  repeat (quiet_step (first | (go_at_call 28; exact K1.out _ _)))
  refine wpQuiet_nil ?_
  intro w2 hw'
  have hb2 : Below w1.heap.size w1 w2 := by obtain ⟨⟨dq, osq⟩, rfl⟩ := hw'; exact below_regrown w1 dq osq
  have HD := hid (done_any (H.out.kept hb2))
  have HB2 := hid hb2
  clear hw' K1 v5 hb2 hN
  go_wp2_with (go_at_call 29; refine HD.out.mono ?_; rintro e w3 ⟨rfl, hb3⟩; have HB3 := hid hb3; clear hb3)
  refine bodyPost_ret (results_tmp3 Try.results12 _ _ _) rfl ?_
  exact ⟨rfl, HB2.out.trans (HB3.out.mono HB2.out.size)⟩
set_option maxHeartbeats 2000000 in
theorem read_some {w : World} {p b n : Nat} {v : Value} {D : DM} {F : Bf} {f : Int → BitVec 8} (H : BufAt w p v b n D F f) (k : Int) (hk : 0 ≤ k) (hk1 : k ≤ 9223372036854775807) (hm : F.read + F.room ≤ F.base + 2305843009213693952) (hg : F.gap ≠ F.read) (c : Nat) (hc : F.cnt k = c) :
    Calls Try.prog 12 #[.pointer (some ⟨p, 0, none⟩), .int .i64 k] w fun e w' => ∃ go, e = .returned (.tuple #[.slice (some ⟨go, 0, none⟩) c c, .bool false, .int .i64 0]) ∧ w.heap.size ≤ go ∧
      ∃ v' D', BufAt w' p v' b n D' (F.readOn k) f ∧ Fr (Foot p v b D) w w' ∧ (∀ j, Foot p v' b D' j → Foot p v b D j ∨ w.heap.size ≤ j) ∧ Row w' go (bcells (bytesFrom f F.read c)) 5 ∧ ¬ Foot p v' b D' go := by
  have hN := none_no H.r
  have H0 := hid H
  have K1 := hid H.r.gapK
  have v5 := cell_regrown (H.r.row.cell 5 _ rfl)
  obtain ⟨c1, c2⟩ := cnt_le H.r.ok hk
  obtain ⟨g1, g2, g3⟩ := gap_edge H.r.ok
  have hrd := H.r.ok.rd
  have hb0 := H.r.ok.b0
  have hb1 := H.r.ok.b1
  have hr1 := H.r.ok.r1
  rw [hc] at c1 c2
  have HC := hid hc
  clear H hc
  obtain ⟨rd, hrde⟩ : ∃ rd, F.read = rd := ⟨_, rfl⟩
  obtain ⟨gp, hgpe⟩ : ∃ gp, F.gap = gp := ⟨_, rfl⟩
  have HRD := hid hrde
  have HGP := hid hgpe
  rw [hrde] at hg c1 c2 g1 g2 hrd v5 K1 hm
  rw [hgpe] at hg c1 c2 g1 g2 K1
  clear hrde hgpe g3
  have hrd0 : 0 ≤ rd := by omega
  have hrdm : rd ≤ 9223372036854775807 := by omega
  have hnn : ¬ k < 0 := by omega
  have hgb : (rd == gp) = false := by simp; omega
  have hwk : IntKind.u64.wrap k = k := by rw [IntKind.wrap_u64]; omega
  have hws : IntKind.u64.wrap (gp - rd) = gp - rd := by rw [IntKind.wrap_u64]; omega
  have hwa : IntKind.u64.wrap (rd + min k (gp - rd)) = rd + c := by rw [IntKind.wrap_u64]; omega
  have HC1 := hid (And.intro c1 c2)
  have z0 : rd + (c : Int) ≤ 9223372038000000000 := by omega
  clear c1 c2 hwa
  go_enter Try.func12, Try.ntmps12
  go_upto_region 5 with (go_at_call 27; refine hN.mono ?_; rintro e w1 ⟨rfl, rfl⟩)
  refine wp_region_quiet_below (by kernel_rfl) (by decide +kernel) ?_
  repeat (quiet_step (first | (go_at_call 28; exact K1.out _ _)))
  refine wpQuiet_nil ?_
  intro w2 hw'
  have hb2 : Below w1.heap.size w1 w2 := by obtain ⟨⟨dq, osq⟩, rfl⟩ := hw'; exact below_regrown w1 dq osq
  have HR2 := hid (H0.out.r.kept hb2)
  have c5 := HR2.out.row.cell 5 _ rfl
  rw [HRD.out] at c5
  have f5 := HR2.out.row.frozen 5
  have HB2 := hid hb2
  clear hw' K1 v5 hb2 hN
  go_upto_region 9 with fail
  rw [show min k (gp - rd) = (c : Int) from HC1.out.1.symm]
  clear hws hwk
  refine wp_world fun w3 HW => ?_
  have HF3 : Hid (Fr (fun j => j = p) w1 w3) := by
    show Fr _ _ _
    rw [HW.out]
    exact (Fr.of_below (S := fun j => j = p) HB2.out (Nat.le_refl _)).trans (T := fun j => j = p) ⟨rfl, rfl, rfl, by simp [World.setCell], fun j _ hj => Below.heap_setCell _ _ _ _ hj⟩ (fun _ e => .inl e)
  have HS3 : Hid (BvAt w3 p v (Bf.cells b { F with read := F.read + F.cnt k }) F.L) := by
    show BvAt _ _ _ _ _
    rw [HW.out, HRD.out, HC.out]
    have r2 := HR2.out.row.set 5 (.int .u64 (rd + c))
    refine ⟨r2.at_, HR2.out.set.own.1, ?_⟩
    rcases HR2.out.set.own.2 with e | ⟨g, cp, cur, hv, h1, hgg, h2⟩
    · exact .inl e
    · have hne : g ≠ p := fun e => HR2.out.set.apart (by rw [hv, e]; rfl)
      exact .inr ⟨g, cp, cur, hv, h1, by rw [Below.heap_setCell _ _ _ _ hne]; exact hgg, h2⟩
  clear HW HR2 HB2 c5 f5
  have HS3q : Hid (BvAt { w3 with drawn := w3.drawn + 1 } p v (Bf.cells b { F with read := F.read + F.cnt k }) F.L) := HS3.out.kept ⟨rfl, rfl, rfl, Nat.le_refl _, fun _ _ => rfl⟩
  have HF3q : Hid (Fr (fun j => j = p) w1 { w3 with drawn := w3.drawn + 1 }) := ⟨HF3.out.os, HF3.out.tape, HF3.out.output, HF3.out.size, HF3.out.block⟩
  clear HS3 HF3
  refine wp_region_still_tail 9 (by kernel_rfl) (by decide +kernel) ?_
  generalize ({ w3 with drawn := w3.drawn + 1 } : World) = wq at *
  have HRW : Hid (Row wq p (v :: Bf.cells b { F with read := F.read + F.cnt k }) 57) := ⟨HS3q.out.hp⟩
  have q1 := HRW.out.cell 1 _ rfl
  have q5 := HRW.out.cell 5 _ rfl
  simp only [HRD.out, HC.out] at q5
  have hpb : ¬ SB b D p := H0.out.sto.not_of_cells H0.out.r.set.hp (by decide)
  have HSQ := hid (H0.out.sto.kept HF3q.out (fun j hj e => by subst e; exact hpb hj))
  have hget := get_any HSQ.out (x := rd) hrd0 (bs := bytesFrom f rd c) (fun i hi => by
    rw [bytesFrom_len] at hi
    rw [bytesFrom_get]
    refine At.kept (b := b) ?_ HF3q.out (fun j hj e => by subst e; exact hpb hj)
    exact H0.out.byt _ (gap_all H0.out.r.ok.fit F.read _ (by rw [HRD.out]; omega) (by show _ < F.gap; rw [HGP.out]; have := HC1.out.2; omega))) c (bytesFrom_len _ _ _) (by omega) (by have := HC1.out.2; omega)
  clear hpb
  simp only [List.take_succ_cons, List.take_zero, List.drop_succ_cons, List.drop_zero]
  iterate 9 still_step
  refine wpStill_nil ?_
  go_wp2_with (go_at_call 30; refine hget.mono ?_; rintro e w4 ⟨rfl, hrow, hb4⟩; have HX4 := hid (And.intro hrow hb4); clear hrow hb4 hget)
  clear q1 q5 HRW
  have HS4q : Hid (BvAt { w4 with drawn := w4.drawn + 1 } p v (Bf.cells b { F with read := F.read + F.cnt k }) F.L) := (HS3q.out.kept HX4.out.2).kept ⟨rfl, rfl, rfl, Nat.le_refl _, fun _ _ => rfl⟩
  have HSQ4 : Hid (Sto w4 b n D) := HSQ.out.kept_below HX4.out.2
  have HTQ : Hid (∀ w5 v', Turned { w4 with drawn := w4.drawn + 1 } w5 p v v' → Turned w4 w5 p v v') := fun w5 v' hT => ⟨hT.os, hT.tape, hT.output, hT.size, hT.block, hT.row⟩
  refine wp_region_still_tail 7 (by kernel_rfl) (by decide +kernel) ?_
  generalize ({ w4 with drawn := w4.drawn + 1 } : World) = wr at *
  have HRW : Hid (Row wr p (v :: Bf.cells b { F with read := F.read + F.cnt k }) 57) := ⟨HS4q.out.hp⟩
  have q5 := HRW.out.cell 5 _ rfl
  simp only [HRD.out, HC.out] at q5
  have hbel := bv_below_any HS4q.out H0.out.r.ok.fit (by have := H0.out.r.ok.len; omega) (F.read + F.cnt k) (by rw [HRD.out, HC.out]; omega)
  have HBL := hid hbel
  rw [HRD.out, HC.out] at HBL
  have HE2 : Hid (Bf.cells b { F with read := F.read + F.cnt k } = Bf.cells b { F with read := rd + c }) := by show _ = _; rw [HRD.out, HC.out]
  clear hbel HSQ HS3q HS4q HRW
  simp only [List.take_succ_cons, List.take_zero, List.drop_succ_cons, List.drop_zero]
  iterate 7 still_step
  refine wpStill_nil ?_
  go_wp2_with (go_at_call 31; refine HBL.out.mono ?_; rintro e w5 ⟨rfl, v5, hS5, hT5⟩; have HS5 := hid hS5; have HT5 := hid (HTQ.out _ _ hT5); clear hS5 hT5)
  clear q5 HBL HTQ
  have HS5q : Hid (BvAt { w5 with drawn := w5.drawn + 1 } p v5 (Bf.cells b { F with read := rd + c }) (remL F.L (0, rd + c))) := HS5.out.kept ⟨rfl, rfl, rfl, Nat.le_refl _, fun _ _ => rfl⟩
  have hpb : ¬ SB b D p := H0.out.sto.not_of_cells H0.out.r.set.hp (by decide)
  have HSQ5 : Hid (Sto { w5 with drawn := w5.drawn + 1 } b n D) := HSQ4.out.kept (S := fun j => j = p ∨ v.ownBlock = some j) ⟨HT5.out.os, HT5.out.tape, HT5.out.output, HT5.out.size, fun j hj hn => HT5.out.block j hj (fun e => hn (.inl e)) (fun e => hn (.inr e.symm))⟩ (by
    rintro j hj (e | e)
    · subst e; exact hpb hj
    · rcases H0.out.r.set.own.2 with ⟨rfl, _⟩ | ⟨g', cp, cur, rfl, _, hgg, _⟩
      · simp [Value.ownBlock] at e
      · simp only [Value.ownBlock, Option.some.injEq] at e
        subst e
        exact H0.out.sto.not_of_cells hgg (by decide) hj)
  have HLQ : Hid (∀ w6 D', LessAt { w5 with drawn := w5.drawn + 1 } w6 b n D D' (rd / 1024) ((rd + c) / 1024) → ∃ go, Value.slice (some ⟨wq.heap.size, 0, none⟩) c c = .slice (some ⟨go, 0, none⟩) c c ∧ w1.heap.size ≤ go ∧
      ∃ v' D', BufAt w6 p v' b n D' (F.readOn k) f ∧ Fr (Foot p v b D) w1 w6 ∧ (∀ j, Foot p v' b D' j → Foot p v b D j ∨ w1.heap.size ≤ j) ∧ Row w6 go (bcells (bytesFrom f F.read c)) 5 ∧ ¬ Foot p v' b D' go) := fun w6 D' hL => by
    have hL' : LessAt w5 w6 b n D D' (F.read / 1024) ((F.read + F.cnt k) / 1024) := by rw [HRD.out, HC.out]; exact ⟨hL.sto, ⟨hL.fr.os, hL.fr.tape, hL.fr.output, hL.fr.size, hL.fr.block⟩, hL.bl⟩
    obtain ⟨r1, r2, r3, r4, r5⟩ := read_done H0.out hk (by rw [HRD.out]; exact hm) HF3q.out HX4.out.2 (by rw [HC.out, HRD.out]; exact HS5.out) HT5.out hL' HX4.out.1
    exact ⟨_, rfl, HF3q.out.size, v5, D', r1, r2, r3, by rw [HRD.out]; exact r4, r5⟩
  clear HS5 HT5 hpb HSQ4 HX4 HF3q HE2
  refine wp_region_still_tail 9 (by kernel_rfl) (by decide +kernel) ?_
  generalize ({ w5 with drawn := w5.drawn + 1 } : World) = ws at *
  have HRW : Hid (Row ws p (v5 :: Bf.cells b { F with read := rd + c }) 57) := ⟨HS5q.out.hp⟩
  have q1 := HRW.out.cell 1 _ rfl
  have q5 := HRW.out.cell 5 _ rfl
  simp only at q5
  have hfg := forget_any HSQ5.out (x := rd) (y := rd + c) hrd0 (by omega) (by omega)
  clear HRW HS5q HSQ5
  simp only [List.take_succ_cons, List.take_zero, List.drop_succ_cons, List.drop_zero]
  iterate 9 still_step
  refine wpStill_nil ?_
  go_wp2_with (go_at_call 32; refine hfg.mono ?_; rintro e w6 ⟨rfl, D6, hL6⟩; have HF := hid (HLQ.out _ _ hL6); clear hL6 hfg HLQ)
  refine bodyPost_ret (results_tmp3 Try.results12 _ _ _) rfl ?_
  obtain ⟨go, e1, r1, r2⟩ := HF.out
  exact ⟨wq.heap.size, rfl, by injection e1 with e1; injection e1 with e1; injection e1 with e1; rw [e1]; exact r1, by injection e1 with e1; injection e1 with e1; injection e1 with e1; rw [e1]; exact r2⟩
end Go.Proofs.Ytimiokbnhneggaa
