import Derived.Test.YtjnmfedefmemnaaSp0
import Derived.Test.YtjnmfedefmemnaaLook
namespace Go.Proofs.Ytjnmfedefmemnaa
open Go.RowKit Go.Maps
set_option maxRecDepth 100000

/-- What Take leaves, its count told. -/
def TakenEx (w' : World) (g b d : Nat) (c : List Value) (v : Value) (qs : List Nat) (tk : Int) : Prop :=
  ∃ v', Row w' g ((c.set (b + 14 + d) v').set (b + 8 + d) (.int .u64 tk)) 67 ∧ BagAt w' v' qs ∧ blk v' = blk v
set_option maxHeartbeats 2000000 in
/-- Put of a frame onto a path that is up, into a bag that is not full. -/
theorem put_ex {w : World} {p n g k d : Nat} {c : List Value} {C P : Int} {v : Value} {qs : List Nat} {a : Option Addr} {m cap : Nat} {bs : List (BitVec 8)}
    (HN : Row w p [.slice (some ⟨g, 0, none⟩) n n] 52) (R : Row w g c 67) (hk : k < n) (hd : d < 2) (hup : c[k * 16]? = some (.bool true)) (hC : c[k * 16 + 1]? = some (.int .i64 C)) (hP : c[k * 16 + 4 + d]? = some (.int .u64 P))
    (hv : c[k * 16 + 14 + d]? = some v) (hB : BagAt w v qs) (hlt : (qs.length : Int) < C) (hC30 : C ≤ 1073741824) (hF : BytesAt w a bs) (hm : bs.length = m) (hm2 : m ≤ 140737488355328) :
    Calls Try.prog 10 #[.pointer (some ⟨p, 0, none⟩), .int .i64 k, .int .i64 d, .slice a m cap] w fun e w' => e = .returned (.tuple #[.bool true, .int .i64 0]) ∧ ∃ v' q, Row w' g ((c.set (k * 16 + 4 + d) (.int .u64 (IntKind.u64.wrap (P + 1)))).set (k * 16 + 14 + d) v') 67 ∧ BagAt w' v' (qs ++ [q]) ∧ w.heap.size ≤ q ∧ PAt w' q bs ∧ Only (g :: blk v) w w' ∧ (∀ x ∈ blk v', x ∈ blk v ∨ w.heap.size ≤ x) := by
  have HBI := hid (bag_in (HN.cell 0 _ rfl) hk hd)
  have k1 : (0 : Int) ≤ (d : Int) := by omega
  have k2 : (d : Int) < 2 := by omega
  have hdd : decide (C ≤ (qs.length : Int)) = false := by simp; omega
  have hbk : g ∉ blk v := fun hm => by obtain ⟨c', R'⟩ := hB.blkRow g hm; exact absurd (R.type R') (by decide)
  have HR := hid R
  have HUP := hid hup
  have HC := hid hC
  have HV := hid hv
  have HB := hid hB
  have HF := hid hF
  have HM := hid hm
  have HM2 := hid hm2
  have HL : Hid (qs.length ≤ 1073741824) := by show qs.length ≤ _; omega
  have HBK := hid hbk
  have e1 := R.cell _ _ hP
  have f1 := R.frozen (k * 16 + 4 + d)
  clear R hup hC hv hB hlt hC30 hF hm hm2 HN hbk hk
  go_enter Try.func10, Try.ntmps10
  go_upto_region 4 with (go_at_call 23; refine Calls.mono HBI.out ?_; rintro e w' ⟨rfl, rfl⟩)
  refine wp_region_still_tail 12 (by kernel_rfl) (by kernel_rfl) ?_
  replace e1 := cell_drawn (w'.drawn + 1) e1
  replace f1 := frozen_drawn (w'.drawn + 1) f1
  replace HR : Hid _ := HR.out.drawn (w'.drawn + 1)
  have HB0 := hid (below_drawn (Below.refl w'.heap.size w') (w'.drawn + 1))
  generalize ({ w' with drawn := w'.drawn + 1 } : World) = wq at *
  simp only [List.take_succ_cons, List.take_zero, List.drop_succ_cons, List.drop_zero]
  iterate 12 still_step
  refine wpStill_nil ?_
  go_upto_region 5 with (fail)
  refine wp_world fun w2 HW => ?_
  have hR2 : Row w2 g (c.set (k * 16 + 4 + d) (.int .u64 (IntKind.u64.wrap (P + 1)))) 67 ∧ Only [g] w' w2 := by
    rw [HW.out]
    exact ⟨HR.out.set _ _, (Only.of_below (S := [g]) HB0.out (Nat.le_refl _)).setCell g _ _ (.inl (by simp))⟩
  have HF2 : Hid (BytesAt w2 a bs) := by show BytesAt _ _ _; rw [HW.out]; exact (HF.out.kept HB0.out).set e1 _
  obtain ⟨R2, O2⟩ := hR2
  have HB2 := hid (HB.out.only O2 (fun x hx hm => HBK.out ((List.mem_singleton.1 hm) ▸ hx)))
  have hS := HB.out.shape
  obtain ⟨av, capv, rfl⟩ := hS
  have u0 := R2.cell (k * 16) _ (set_at HUP.out (by omega))
  have u1 := R2.cell (k * 16 + 1) _ (set_at HC.out (by omega))
  have u2 := R2.cell (k * 16 + 14 + d) _ (set_at HV.out (by omega))
  have HV2 := hid (set_at (x := .int .u64 (IntKind.u64.wrap (P + 1))) (j := k * 16 + 4 + d) HV.out (by omega))
  have HFU := hid (full_any hd u1 u2)
  have HR2 := hid R2
  have HO2 := hid O2
  clear e1 f1 HR HW R2 O2 u1 u2 hP HF HB0
  go_upto_region 8 with (go_at_call 24; refine Calls.mono HFU.out ?_; rintro e w3 ⟨rfl, q3, rfl⟩; rw [hdd])
  have HPA := hid (parcel_any (cap := cap) (HF2.out.drewN q3) HM.out HM2.out)
  have HR3 := hid (HR2.out.drewN q3)
  have HB3 : Hid (BagAt (w2.drewN q3) (.slice av qs.length capv) qs) := HB2.out.kept (below_drewN (Below.refl _ _) q3)
  have HO3 := hid (HO2.out.drew q3)
  clear u0 HFU HR2 HB2 HO2 HF2
  generalize w2.drewN q3 = w3 at *
  go_wp2_with (first
    | (go_at_call 26; refine Calls.mono HPA.out ?_; rintro e w4 ⟨q, rfl, hq, hpa, hb⟩; have HQ := hid hq; have HA := hid hpa; have HB4 := hid hb; clear hq hpa hb)
    | (go_at_call 25; refine (lay_any (HR3.out.kept HB4.out HR3.out.lt) hd HV2.out (HB3.out.kept HB4.out) HL.out).mono ?_; rintro e w5 ⟨rfl, v', hr, hbag, ho, hx⟩; have HR5 := hid hr; have HB5 := hid hbag; have HO5 := hid ho; have HX5 := hid hx; clear hr hbag ho hx))
  go_ret2
  have hO4 : Only [g] w' w4 := HO3.out.trans (Only.of_below (S := []) HB4.out (Nat.le_refl _)) (by simp)
  refine ⟨rfl, v', q, HR5.out, HB5.out, Nat.le_trans HO3.out.size HQ.out, ?_, ?_, fun x hx => ?_⟩
  · refine HA.out.ofRow HO5.out ?_
    intro x hx
    rcases List.mem_cons.1 hx with rfl | hx
    · exact ⟨_, _, HR3.out.kept HB4.out HR3.out.lt, .inl rfl⟩
    · obtain ⟨c', R'⟩ := (HB3.out.kept HB4.out).blkRow x hx
      exact ⟨_, _, R', .inr rfl⟩
  · exact (hO4.wider (fun x hx => by simp at hx; simp [hx])).trans HO5.out (fun x hx => .inl hx)
  · rcases HX5.out x hx with h | h
    · exact .inl h
    · exact .inr (Nat.le_trans hO4.size h)
set_option maxHeartbeats 2000000 in
/-- Put onto a path that is down, or into a bag that is full. -/
theorem lost_ex {w : World} {p n g k d : Nat} {c : List Value} {C P L : Int} {up : Bool} {v : Value} {qs : List Nat} {fr : Value}
    (HN : Row w p [.slice (some ⟨g, 0, none⟩) n n] 52) (R : Row w g c 67) (hk : k < n) (hd : d < 2) (hup : c[k * 16]? = some (.bool up)) (hC : c[k * 16 + 1]? = some (.int .i64 C)) (hP : c[k * 16 + 4 + d]? = some (.int .u64 P))
    (hL : c[k * 16 + 6 + d]? = some (.int .u64 L)) (hv : c[k * 16 + 14 + d]? = some v) (hB : BagAt w v qs) (hlt : up = false ∨ C ≤ (qs.length : Int)) :
    Calls Try.prog 10 #[.pointer (some ⟨p, 0, none⟩), .int .i64 k, .int .i64 d, fr] w fun e w' => e = .returned (.tuple #[.bool false, .int .i64 0]) ∧ Row w' g ((c.set (k * 16 + 4 + d) (.int .u64 (IntKind.u64.wrap (P + 1)))).set (k * 16 + 6 + d) (.int .u64 (IntKind.u64.wrap (L + 1)))) 67 ∧ Only [g] w w' := by
  have HBI := hid (bag_in (HN.cell 0 _ rfl) hk hd)
  have k1 : (0 : Int) ≤ (d : Int) := by omega
  have k2 : (d : Int) < 2 := by omega
  have HR := hid R
  have HUP := hid hup
  have HC := hid hC
  have HV := hid hv
  have HLL := hid hL
  have e1 := R.cell _ _ hP
  have f1 := R.frozen (k * 16 + 4 + d)
  obtain ⟨av, capv, rfl⟩ := hB.shape
  have HLT := hid hlt
  clear R hup hC hv hB HN hk hL hlt
  go_enter Try.func10, Try.ntmps10
  go_upto_region 4 with (go_at_call 23; refine Calls.mono HBI.out ?_; rintro e w' ⟨rfl, rfl⟩)
  refine wp_region_still_tail 12 (by kernel_rfl) (by kernel_rfl) ?_
  replace e1 := cell_drawn (w'.drawn + 1) e1
  replace f1 := frozen_drawn (w'.drawn + 1) f1
  replace HR : Hid _ := HR.out.drawn (w'.drawn + 1)
  have HB0 := hid (below_drawn (Below.refl w'.heap.size w') (w'.drawn + 1))
  generalize ({ w' with drawn := w'.drawn + 1 } : World) = wq at *
  simp only [List.take_succ_cons, List.take_zero, List.drop_succ_cons, List.drop_zero]
  iterate 12 still_step
  refine wpStill_nil ?_
  go_upto_region 5 with (fail)
  refine wp_world fun w2 HW => ?_
  have hR2 : Row w2 g (c.set (k * 16 + 4 + d) (.int .u64 (IntKind.u64.wrap (P + 1)))) 67 ∧ Only [g] w' w2 := by
    rw [HW.out]
    exact ⟨HR.out.set _ _, (Only.of_below (S := [g]) HB0.out (Nat.le_refl _)).setCell g _ _ (.inl (by simp))⟩
  obtain ⟨R2, O2⟩ := hR2
  have u0 := R2.cell (k * 16) _ (set_at HUP.out (by omega))
  have u1 := R2.cell (k * 16 + 1) _ (set_at HC.out (by omega))
  have u2 := R2.cell (k * 16 + 14 + d) _ (set_at HV.out (by omega))
  have HFU := hid (full_any hd u1 u2)
  have HL2 := hid (set_at (x := .int .u64 (IntKind.u64.wrap (P + 1))) (j := k * 16 + 4 + d) HLL.out (by omega))
  have HR2 := hid R2
  have HO2 := hid O2
  clear e1 f1 HR HW R2 O2 u1 u2 hP HB0
  cases up
  · go_upto_region 6 with (fail)
    have t1 := HR2.out.cell _ _ HL2.out
    have t2 := HR2.out.frozen (k * 16 + 6 + d)
    refine wp_region_still_tail 12 (by kernel_rfl) (by kernel_rfl) ?_
    replace t1 := cell_drawn (w2.drawn + 1) t1
    replace t2 := frozen_drawn (w2.drawn + 1) t2
    replace HR2 : Hid _ := HR2.out.drawn (w2.drawn + 1)
    replace HO2 : Hid _ := HO2.out.drawn (w2.drawn + 1)
    generalize ({ w2 with drawn := w2.drawn + 1 } : World) = w3 at *
    simp only [List.take_succ_cons, List.take_zero, List.drop_succ_cons, List.drop_zero]
    iterate 12 still_step
    refine wpStill_nil ?_
    go_wp2
    go_ret2
    have h1 := HR2.out.set (k * 16 + 6 + d) (.int .u64 (IntKind.u64.wrap (L + 1)))
    have h2 := HO2.out.setCell g (k * 16 + 6 + d) (.int .u64 (IntKind.u64.wrap (L + 1))) (.inl (by simp))
    exact ⟨rfl, h1, h2⟩
  · have hge : decide (C ≤ (qs.length : Int)) = true := by
      rcases HLT.out with h | h
      · cases h
      · simpa using h
    go_upto_region 6 with (go_at_call 24; refine Calls.mono HFU.out ?_; rintro e w3 ⟨rfl, q3, rfl⟩; rw [hge])
    have HR3 := hid (HR2.out.drewN q3)
    have HO3 := hid (HO2.out.drew q3)
    clear u0 HR2 HO2 HFU
    generalize w2.drewN q3 = w2 at *
    have t1 := HR3.out.cell _ _ HL2.out
    have t2 := HR3.out.frozen (k * 16 + 6 + d)
    refine wp_region_still_tail 12 (by kernel_rfl) (by kernel_rfl) ?_
    replace t1 := cell_drawn (w2.drawn + 1) t1
    replace t2 := frozen_drawn (w2.drawn + 1) t2
    replace HR3 : Hid _ := HR3.out.drawn (w2.drawn + 1)
    replace HO3 : Hid _ := HO3.out.drawn (w2.drawn + 1)
    generalize ({ w2 with drawn := w2.drawn + 1 } : World) = w3 at *
    simp only [List.take_succ_cons, List.take_zero, List.drop_succ_cons, List.drop_zero]
    iterate 12 still_step
    refine wpStill_nil ?_
    go_wp2
    go_ret2
    have h1 := HR3.out.set (k * 16 + 6 + d) (.int .u64 (IntKind.u64.wrap (L + 1)))
    have h2 := HO3.out.setCell g (k * 16 + 6 + d) (.int .u64 (IntKind.u64.wrap (L + 1))) (.inl (by simp))
    exact ⟨rfl, h1, h2⟩
set_option maxHeartbeats 2000000 in
theorem take1_ex {w : World} {g b d j q ob db kb : Nat} {c : List Value} {v : Value} {qs : List Nat} {x y : Value} {CT : Int} {bs : List (BitVec 8)} {K : Nat} {T : Nat → BitVec 8} (R : Row w g c 67) (hd : d < 2) (hv : c[b + 14 + d]? = some v) (hT : c[b + 8 + d]? = some (.int .u64 CT)) (hB : BagAt w v qs) (hl : qs.length ≤ 1073741824) (hj : j < qs.length)
    (h : PSp w q K bs T) (hm : bs.length ≤ 140737488351232) (ho : Row w ob [x, y] 32) (hdb : Row w db [.int .i64 d] 3) (hkb : Row w kb [.int .i64 j] 3) :
    Calls Try.prog 32 #[.pointer (some ⟨g, b, none⟩), .pointer (some ⟨q, 0, none⟩), .pointer (some ⟨ob, 0, none⟩), .pointer (some ⟨db, 0, none⟩), .pointer (some ⟨kb, 0, none⟩)] w fun e w' => e = .returned (.int .i64 0) ∧ ∃ g', Row w' ob [.slice (some ⟨g', 0, none⟩) bs.length bs.length, .bool (sp T bs.length)] 32 ∧ w.heap.size ≤ g' ∧ Row w' g' (bcells (xorT bs T)) 5 ∧ Only (ob :: g :: blk v) w w' ∧ TakenEx w' g b d c v (qs.eraseIdx j) (IntKind.u64.wrap (CT + 1)) := by
  have HT := hid (tell_gen h hm)
  have HO := hid ho
  have HR := hid R
  have HV := hid hv
  have HTT := hid hT
  have HBG := hid hB
  have HDB := hid hdb
  have HKB := hid hkb
  have HL := hid hl
  have HJ := hid hj
  have k1 : (0 : Int) ≤ (d : Int) := by omega
  have k2 : (d : Int) < 2 := by omega
  have HNB : Hid (∀ x ∈ blk v, x ≠ ob ∧ x ≠ db ∧ x ≠ g) := fun x hx => by
    obtain ⟨c', R'⟩ := hB.blkRow x hx
    exact ⟨R'.ne ho (by decide), R'.ne hdb (by decide), R'.ne R (by decide)⟩
  clear h hm ho R hv hT hB hdb hkb hl hj
  go_enter Try.func32, Try.ntmps32
  go_upto_region 2 with (first
    | (go_at_call 31; refine Calls.mono HT.out ?_; rintro e w1 ⟨gn, rfl, hg, hr, hb⟩; have HG := hid hg; have HRN := hid hr; have HB1 := hid hb; clear hg hr hb)
    | (show wpList _ _ _ (Oper.mk none (.store 32 (.tmp 2) (.tmp 9)) _ _ _ _ :: _) _ _; refine (HO.out.kept HB1.out HO.out.lt).wpStore' 32 (.tmp 2) (.tmp 9) [.slice (some ⟨gn, 0, none⟩) bs.length bs.length, .bool (sp T bs.length)] rfl rfl rfl rfl rfl (by simp [Value.oneCell']) i32 ?_; intro w2 HZ))
  have HO1 := hid (HO.out.kept HB1.out HO.out.lt)
  have HO2 : Hid (Row w2 ob [.slice (some ⟨gn, 0, none⟩) bs.length bs.length, .bool (sp T bs.length)] 32) := by show Row _ _ _ _; rw [HZ.out]; exact HO1.out.row _
  have HN2 : Hid (Row w2 gn (bcells (xorT bs T)) 5) := by show Row _ _ _ _; rw [HZ.out]; exact HRN.out.rowOther (HRN.out.ne HO1.out (by decide)) _
  have HX2 : Hid (Only [ob] w w2) := by show Only _ _ _; rw [HZ.out]; exact (Only.of_below HB1.out (Nat.le_refl _)).setRow ob _ (.inl (by simp))
  have HR2 := hid (HX2.out.row HR.out (by simpa using HR.out.ne HO.out (by decide)))
  have HD2 := hid (HX2.out.row HDB.out (by simpa using HDB.out.ne HO.out (by decide)))
  have HK2 := hid (HX2.out.row HKB.out (by simpa using HKB.out.ne HO.out (by decide)))
  have HBG2 := hid (HBG.out.only HX2.out (fun x hx => by simpa using (HNB.out x hx).1))
  clear HZ HO1 HRN HB1 HR HDB HKB HBG HT HO
  have d1 := HD2.out.cell 0 _ rfl
  have d2 := HK2.out.cell 0 _ rfl
  go_upto_region 3 with (go_at_call 33; refine (cut_any HR2.out (by omega) HV.out HBG2.out HL.out HJ.out).mono ?_; rintro e w3 ⟨rfl, v', hr, hbag, ho, hx⟩; have HR3 := hid hr; have HBG3 := hid hbag; have HX3 := hid ho; have HV3 := hid hx; clear hr hbag ho hx)
  have hng : ∀ {x : Nat} {cc : List Value} {t : TypeId}, Row w2 x cc t → t ≠ 67 → t ≠ 73 → x ∉ g :: blk v := fun hr n1 n2 hm => by
    rcases List.mem_cons.1 hm with rfl | hm
    · exact n1 (hr.type HR2.out)
    · obtain ⟨c', R'⟩ := HBG2.out.blkRow _ hm
      exact n2 (hr.type R')
  have HO3 := hid (HX3.out.row HO2.out (hng HO2.out (by decide) (by decide)))
  have HN3 := hid (HX3.out.row HN2.out (hng HN2.out (by decide) (by decide)))
  have HD3 := hid (HX3.out.row HD2.out (hng HD2.out (by decide) (by decide)))
  have HX33 : Hid (Only (ob :: g :: blk v) w w3) := (HX2.out.wider (fun x hx => by simp at hx; simp [hx])).trans HX3.out (fun x hx => .inl (List.mem_cons_of_mem _ hx))
  clear d1 d2 hng
  have d1 := HD3.out.cell 0 _ rfl
  have t1 := HR3.out.cell _ _ (set_at HTT.out (by omega))
  have t2 := HR3.out.frozen (b + 8 + d)
  refine wp_region_still_tail 12 (by kernel_rfl) (by kernel_rfl) ?_
  replace d1 := cell_drawn (w3.drawn + 1) d1
  replace t1 := cell_drawn (w3.drawn + 1) t1
  replace t2 := frozen_drawn (w3.drawn + 1) t2
  replace HR3 : Hid _ := HR3.out.drawn (w3.drawn + 1)
  replace HO3 : Hid _ := HO3.out.drawn (w3.drawn + 1)
  replace HN3 : Hid _ := HN3.out.drawn (w3.drawn + 1)
  replace HX33 : Hid _ := HX33.out.drawn (w3.drawn + 1)
  replace HBG3 : Hid _ := hid (HBG3.out.kept (below_drawn (Below.refl w3.heap.size w3) (w3.drawn + 1)))
  generalize ({ w3 with drawn := w3.drawn + 1 } : World) = wq at *
  simp only [List.take_succ_cons, List.take_zero, List.drop_succ_cons, List.drop_zero]
  iterate 12 still_step
  refine wpStill_nil ?_
  go_wp2
  go_ret
  have hgo : g ≠ ob := HR3.out.ne HO3.out (by decide)
  have hgn : gn ≠ g := HN3.out.ne HR3.out (by decide)
  refine ⟨rfl, gn, HO3.out.setOther _ (Ne.symm hgo) _, HG.out, HN3.out.setOther _ hgn _, HX33.out.setCell g _ _ (.inl (by simp)), v', HR3.out.set _ _, ?_, HV3.out⟩
  exact HBG3.out.only ((Only.refl [g] wq).setCell g _ _ (.inl (by simp))) (fun x hx => by rw [HV3.out] at hx; simpa using (HNB.out x hx).2.2)
set_option maxHeartbeats 2000000 in
theorem find_takex {w : World} {p n g k d j ob db kb : Nat} {c : List Value} {v : Value} {qs : List Nat} {x y : Value} {CT : Int} {bs : List (BitVec 8)} {K : Nat} {T : Nat → BitVec 8}
    (HN : Row w p [.slice (some ⟨g, 0, none⟩) n n] 52) (R : Row w g c 67) (hk : k < n) (hd : d < 2) (hup : c[k * 16]? = some (.bool true)) (hv : c[k * 16 + 14 + d]? = some v) (hT : c[k * 16 + 8 + d]? = some (.int .u64 CT)) (hB : BagAt w v qs) (hl : qs.length ≤ 1073741824) (hj : j < qs.length)
    (h : PSp w qs[j] K bs T) (hm : bs.length ≤ 140737488351232) (ho : Row w ob [x, y] 32) (hdb : Row w db [.int .i64 d] 3) (hkb : Row w kb [.int .i64 j] 3) :
    Calls Try.prog 27 #[.pointer (some ⟨p, 0, none⟩), .int .i64 k, .int .i64 d, .int .i64 j, .bool true, .func (.func 32) #[] #[.pointer (some ⟨ob, 0, none⟩), .pointer (some ⟨db, 0, none⟩), .pointer (some ⟨kb, 0, none⟩)]] w fun e w' => e = .returned (.int .i64 0) ∧ ∃ g', Row w' ob [.slice (some ⟨g', 0, none⟩) bs.length bs.length, .bool (sp T bs.length)] 32 ∧ w.heap.size ≤ g' ∧ Row w' g' (bcells (xorT bs T)) 5 ∧ Only (ob :: g :: blk v) w w' ∧ TakenEx w' g (k * 16) d c v (qs.eraseIdx j) (IntKind.u64.wrap (CT + 1)) := by
  have HBI := hid (bag_in (HN.cell 0 _ rfl) hk hd)
  have HP := hid (take1_ex R hd hv hT hB hl hj h hm ho hdb hkb)
  have c0 := R.cell _ _ hup
  have c1 := R.cell _ _ hv
  obtain ⟨gb, o, cap, rfl, c2⟩ := hB.cell j hj
  have k1 : (0 : Int) ≤ (d : Int) := by omega
  have k2 : (d : Int) < 2 := by omega
  have j1 : decide ((j : Int) < 0) = false := by simp
  have j2 : decide ((qs.length : Int) ≤ (j : Int)) = false := by simp; omega
  have j3 : decide ((j : Int) ≥ (qs.length : Int)) = false := by simp; omega
  have j4 : (j : Int) < (qs.length : Int) := by omega
  unfold ptr at c2
  clear R hup hv hT hB hl h hm ho hdb hkb HN hk
  generalize qs[j] = q at *
  go_enter Try.func27, Try.ntmps27
  go_wp2_with (first
    | (go_at_call 23; refine Calls.mono HBI.out ?_; rintro e w' ⟨rfl, rfl⟩)
    | (go_at_call 32; refine Calls.mono HP.out ?_; rintro e w1 ⟨rfl, hh⟩; have HH := hid hh; clear hh))
  go_ret
  exact ⟨rfl, HH.out⟩
set_option maxHeartbeats 2000000 in
/-- Take of the frame at a place. -/
theorem take_ex {w : World} {p n g k d j : Nat} {c : List Value} {v : Value} {qs : List Nat} {CT : Int} {bs : List (BitVec 8)} {K : Nat} {T : Nat → BitVec 8}
    (HN : Row w p [.slice (some ⟨g, 0, none⟩) n n] 52) (R : Row w g c 67) (hk : k < n) (hd : d < 2) (hup : c[k * 16]? = some (.bool true)) (hv : c[k * 16 + 14 + d]? = some v) (hT : c[k * 16 + 8 + d]? = some (.int .u64 CT)) (hB : BagAt w v qs) (hl : qs.length ≤ 1073741824) (hj : j < qs.length)
    (h : PSp w qs[j] K bs T) (hm : bs.length ≤ 140737488351232) :
    Calls Try.prog 13 #[.pointer (some ⟨p, 0, none⟩), .int .i64 k, .int .i64 d, .int .i64 j] w fun e w' => ∃ g', e = .returned (.tuple #[.agg #[.slice (some ⟨g', 0, none⟩) bs.length bs.length, .bool (sp T bs.length)], .int .i64 0]) ∧ w.heap.size ≤ g' ∧ Row w' g' (bcells (xorT bs T)) 5 ∧ Only (g :: blk v) w w' ∧ TakenEx w' g (k * 16) d c v (qs.eraseIdx j) (IntKind.u64.wrap (CT + 1)) := by
  have hb := below_grow (below_grow (below_grow (below_grow (Below.refl w.heap.size w) (.cells #[.int .i64 d] 3)) (.cells #[.int .i64 j] 3)) (.cells #[.slice none 0 0, .bool false] 32)) (.cells #[.slice none 0 0, .bool false] 32)
  have r1 : Row ((((w.alloc (.cells #[.int .i64 d] 3)).alloc (.cells #[.int .i64 j] 3)).alloc (.cells #[.slice none 0 0, .bool false] 32)).alloc (.cells #[.slice none 0 0, .bool false] 32)) (w.heap.size + 1 + 1) [.slice none 0 0, .bool false] 32 := (Row.new' _ _ _ _ _ (by simp) rfl).alloc _
  have r2 : Row ((((w.alloc (.cells #[.int .i64 d] 3)).alloc (.cells #[.int .i64 j] 3)).alloc (.cells #[.slice none 0 0, .bool false] 32)).alloc (.cells #[.slice none 0 0, .bool false] 32)) (w.heap.size + 1 + 1 + 1) [.slice none 0 0, .bool false] 32 := Row.new' _ _ _ _ _ (by simp) rfl
  have r3 : Row ((((w.alloc (.cells #[.int .i64 d] 3)).alloc (.cells #[.int .i64 j] 3)).alloc (.cells #[.slice none 0 0, .bool false] 32)).alloc (.cells #[.slice none 0 0, .bool false] 32)) w.heap.size [.int .i64 d] 3 := (((Row.new' _ _ _ _ _ rfl rfl).alloc _).alloc _).alloc _
  have r4 : Row ((((w.alloc (.cells #[.int .i64 d] 3)).alloc (.cells #[.int .i64 j] 3)).alloc (.cells #[.slice none 0 0, .bool false] 32)).alloc (.cells #[.slice none 0 0, .bool false] 32)) (w.heap.size + 1) [.int .i64 j] 3 := ((Row.new' _ _ _ _ _ (by simp) rfl).alloc _).alloc _
  have HF := hid (find_takex (HN.kept hb HN.lt) (R.kept hb R.lt) hk hd hup hv hT (hB.kept hb) hl hj (h.kept hb) hm r2 r3 r4)
  have HB := hid hb
  have HR1 := hid r1
  have HTY : Hid (∀ x ∈ g :: blk v, x ≠ w.heap.size + 1 + 1) := fun x hx => by
    rcases List.mem_cons.1 hx with rfl | hx
    · have := R.lt; omega
    · obtain ⟨c', R'⟩ := hB.blkRow x hx
      have := R'.lt; omega
  clear HN R hk hup hv hT hB hl h hm hb r1 r2 r3 r4
  generalize hn : bs.length = m at *
  have HM := hid hn
  clear hn
  go_enter Try.func13, Try.ntmps13
  go_upto_region 3 with (go_at_call 27; refine Calls.mono HF.out ?_; rintro e w1 ⟨rfl, g', hr, hg, hbb, ho, ht⟩; have HR := hid hr; have HG := hid hg; have HBB := hid hbb; have HO := hid ho; have HTK := hid ht; clear hr hg hbb ho ht)
  have HRR := hid (HO.out.row HR1.out (fun hm => by
    rcases List.mem_cons.1 hm with e | hm
    · omega
    · exact HTY.out _ hm rfl))
  have HX : Hid (Only (g :: blk v) w w1) := (Only.of_below (S := g :: blk v) HB.out (Nat.le_refl _)).trans HO.out (fun x hx => by
    rcases List.mem_cons.1 hx with rfl | hx
    · exact .inr (by omega)
    · exact .inl hx)
  have HGG : Hid (w.heap.size ≤ g') := Nat.le_trans HB.out.size HG.out
  have c0 := HR.out.cell 0 _ rfl
  have c1 := HR.out.cell 1 _ rfl
  clear HR1 HF HB HG HO
  go_wp2_with (show wpList _ _ _ (Oper.mk none (.store 32 (.tmp 8) (.tmp 18)) _ _ _ _ :: _) _ _; refine HRR.out.wpStore' 32 (.tmp 8) (.tmp 18) [.slice (some ⟨g', 0, none⟩) m m, .bool (sp T m)] rfl rfl rfl rfl rfl (by simp [Value.oneCell']) i32 ?_; intro wz HZ)
  have h1 : Row wz (w.heap.size + 1 + 1) [.slice (some ⟨g', 0, none⟩) m m, .bool (sp T m)] 32 := by rw [HZ.out]; exact HRR.out.row _
  have h2 : Row wz g' (bcells (xorT bs T)) 5 := by rw [HZ.out]; exact HBB.out.rowOther (HBB.out.ne HRR.out (by decide)) _
  have h3 : Only (g :: blk v) w wz := by rw [HZ.out]; exact HX.out.setRow _ _ (.inr (by omega))
  have h4 : TakenEx wz g (k * 16) d c v (qs.eraseIdx j) (IntKind.u64.wrap (CT + 1)) := by
    obtain ⟨v', t1, t2, t3⟩ := HTK.out
    have hz : Only [w.heap.size + 1 + 1] w1 wz := by rw [HZ.out]; exact (Only.refl _ _).setRow _ _ (.inl (by simp))
    refine ⟨v', hz.row t1 (by simpa using t1.ne HRR.out (by decide)), t2.only hz (fun x hx => ?_), t3⟩
    obtain ⟨c', R'⟩ := t2.blkRow x hx
    simpa using R'.ne HRR.out (by decide)
  exact bodyPost_ret (v := .tuple #[.agg #[.slice (some ⟨g', 0, none⟩) m m, .bool (sp T m)], .int .i64 0]) (h1.result2 Try.results13 _ rfl rfl _ Try.underlying32 rfl i32) rfl ⟨g', rfl, HGG.out, h2, h3, h4⟩
end Go.Proofs.Ytjnmfedefmemnaa
