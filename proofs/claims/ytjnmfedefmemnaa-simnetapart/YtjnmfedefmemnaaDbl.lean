import Derived.Test.YtjnmfedefmemnaaAlive
import Derived.Deep.RegionWith
namespace Go.Proofs.Ytjnmfedefmemnaa
open Go.RowKit
set_option maxRecDepth 100000

set_option maxHeartbeats 400000 in
theorem mclone_nil (w : World) : Calls Try.prog 40 #[.map none] w fun e w' => e = .returned (.map none) ∧ w' = w := by
  have hq : (binOp .eql 82 (.map none) (.map none)).run Try.prog w = .ok (.bool true) w := by kernel_rfl
  go_enter Try.func40, Try.ntmps40
  go_wp2
  go_ret
  exact ⟨rfl, rfl⟩
set_option maxHeartbeats 1000000 in
theorem pdouble_any {w : World} {q gb n : Nat} (h : Row w q [.slice (some ⟨gb, 0, none⟩) n n, .map none] 84) :
    Calls Try.prog 29 #[.pointer (some ⟨q, 0, none⟩)] w fun e w' => ∃ q', e = .returned (.pointer (some ⟨q', 0, none⟩)) ∧ w.heap.size ≤ q' ∧ Row w' q' [.slice (some ⟨gb, 0, none⟩) n n, .map none] 84 ∧ Below w.heap.size w w' := by
  have c0 := h.cell 0 _ rfl
  have c1 := h.cell 1 _ rfl
  clear h
  go_enter Try.func29, Try.ntmps29
  go_wp2
  refine wp_region_still_tail 9 (by kernel_rfl) (by kernel_rfl) ?_
  replace c0 := cell_drawn (w.drawn + 1) c0
  replace c1 := cell_drawn (w.drawn + 1) c1
  have HB0 := hid (below_drawn (Below.refl w.heap.size w) (w.drawn + 1))
  generalize ({ w with drawn := w.drawn + 1 } : World) = wq at *
  simp only [List.take_succ_cons, List.take_zero, List.drop_succ_cons, List.drop_zero]
  iterate 8 still_step
  still_call (mclone_nil wq)
  refine wpStill_nil ?_
  go_wp2
  go_ret
  exact ⟨_, rfl, HB0.out.size, Row.new' _ _ _ _ _ rfl rfl, HB0.out.alloc HB0.out.size _⟩
theorem far_of {w : World} {x g : Nat} {cc c : List Value} {t : TypeId} {v : Value} {qs : List Nat} (r : Row w x cc t) (n1 : t ≠ 67) (n2 : t ≠ 73) (R : Row w g c 67) (hB : BagAt w v qs) : x ∉ g :: blk v := fun hm => by
  rcases List.mem_cons.1 hm with rfl | hm
  · exact n1 (r.type R)
  · obtain ⟨c', R'⟩ := hB.blkRow x hm
    exact n2 (r.type R')
set_option maxHeartbeats 2000000 in
theorem double1_any {w : World} {g b d q gb n lb db : Nat} {c : List Value} {v : Value} {qs : List Nat} {C T : Int} (R : Row w g c 67) (hd : d < 2) (hC : c[b + 1]? = some (.int .i64 C)) (hv : c[b + 14 + d]? = some v) (hT : c[b + 12 + d]? = some (.int .u64 T)) (hB : BagAt w v qs) (hlt : (qs.length : Int) < C) (hC30 : C ≤ 1073741824)
    (h : Row w q [.slice (some ⟨gb, 0, none⟩) n n, .map none] 84) (hdb : Row w db [.int .i64 d] 3) (hlb : Row w lb [.bool false] 4) :
    Calls Try.prog 28 #[.pointer (some ⟨g, b, none⟩), .pointer (some ⟨q, 0, none⟩), .pointer (some ⟨db, 0, none⟩), .pointer (some ⟨lb, 0, none⟩)] w fun e w' => e = .returned (.int .i64 0) ∧ ∃ v' q' T', Row w' lb [.bool true] 4 ∧ Row w' g ((c.set (b + 14 + d) v').set (b + 12 + d) (.int .u64 T')) 67 ∧ BagAt w' v' (qs ++ [q']) ∧ w.heap.size ≤ q' ∧ Row w' q' [.slice (some ⟨gb, 0, none⟩) n n, .map none] 84 ∧ Only (lb :: g :: blk v) w w' ∧ (∀ x ∈ blk v', x ∈ blk v ∨ w.heap.size ≤ x) := by
  have k1 : (0 : Int) ≤ (d : Int) := by omega
  have k2 : (d : Int) < 2 := by omega
  have hdd : decide (C ≤ (qs.length : Int)) = false := by simp; omega
  obtain ⟨av, capv, rfl⟩ := hB.shape
  have HFU := hid (full_any hd (R.cell _ _ hC) (R.cell _ _ hv))
  have HR := hid R
  have HV := hid hv
  have HT := hid hT
  have HB := hid hB
  have HQ := hid h
  have HDB := hid hdb
  have HLB := hid hlb
  have HL : Hid (qs.length ≤ 1073741824) := by show qs.length ≤ _; omega
  have HD := hid hd
  have d0 := hdb.cell 0 _ rfl
  clear R hC hv hT hB h hdb hlb hlt hC30
  go_enter Try.func28, Try.ntmps28
  go_upto_region 3 with (go_at_call 24; refine Calls.mono HFU.out ?_; rintro e w3 ⟨rfl, q3, rfl⟩; rw [hdd])
  have HK := hid (below_drewN (Below.refl w.heap.size w) q3)
  have HR1 := hid (HR.out.kept HK.out HR.out.lt)
  have HB1 := hid (HB.out.kept HK.out)
  have HQ1 := hid (HQ.out.kept HK.out HQ.out.lt)
  have HDB1 := hid (HDB.out.kept HK.out HDB.out.lt)
  have HLB1 := hid (HLB.out.kept HK.out HLB.out.lt)
  clear HFU HR HB HQ HDB HLB d0
  generalize w.drewN q3 = w1 at *
  have d0 := HDB1.out.cell 0 _ rfl
  have HRd := hid (HR1.out.drawn (w1.drawn + 1))
  have HKd := hid (below_drewN (Below.refl w1.heap.size w1) 1)
  have HQd := hid (HQ1.out.kept HKd.out HQ1.out.lt)
  have HDd := hid (HDB1.out.kept HKd.out HDB1.out.lt)
  have HPD := hid (pdouble_any HQd.out)
  go_region_held3 (fun w' => w'.cell? ⟨db, 0, none⟩ = some (.int .i64 d)) (go_keep)
    (first
      | (go_at_call 29; refine Calls.mono HPD.out ?_; rintro e w2 ⟨q', rfl, hq', hr2, hb2⟩; have d2 := (HDd.out.kept hb2 HDd.out.lt).cell 0 _ rfl; have HQ2 := hid hq'; have HR2 := hid hr2; have HB2 := hid hb2; clear hq' hr2 hb2)
      | (go_at_call 25; refine (lay_any ((HR1.out.kept HKd.out HR1.out.lt).kept HB2.out (HR1.out.kept HKd.out HR1.out.lt).lt) HD.out HV.out ((HB1.out.kept HKd.out).kept HB2.out) HL.out).mono ?_; rintro e w3 ⟨rfl, v', hr3, hbag3, ho3, hx3⟩; have d3 : w3.cell? ⟨db, 0, none⟩ = some (.int .i64 d) := (ho3.row (HDd.out.kept HB2.out HDd.out.lt) (far_of (HDd.out.kept HB2.out HDd.out.lt) (by decide) (by decide) ((HR1.out.kept HKd.out HR1.out.lt).kept HB2.out (HR1.out.kept HKd.out HR1.out.lt).lt) ((HB1.out.kept HKd.out).kept HB2.out))).cell 0 _ rfl; have HR3 := hid hr3; have HBG3 := hid hbag3; have HO3 := hid ho3; have HX3 := hid hx3; clear hr3 hbag3 ho3 hx3))
  have hR2 := (HR1.out.kept HKd.out HR1.out.lt).kept HB2.out (HR1.out.kept HKd.out HR1.out.lt).lt
  have hBG2 := (HB1.out.kept HKd.out).kept HB2.out
  have hLB2 := (HLB1.out.kept HKd.out HLB1.out.lt).kept HB2.out (HLB1.out.kept HKd.out HLB1.out.lt).lt
  have HLB3 := hid (HO3.out.row hLB2 (far_of hLB2 (by decide) (by decide) hR2 hBG2))
  have HQ3 := hid (HO3.out.row HR2.out (far_of HR2.out (by decide) (by decide) hR2 hBG2))
  have HB02 : Hid (Below w.heap.size w w2) := (HK.out.trans (HKd.out.mono HK.out.size)).trans (HB2.out.mono (Nat.le_trans HK.out.size HKd.out.size))
  have HX03 : Hid (Only (lb :: g :: blk (.slice av qs.length capv)) w w3) := (Only.of_below (S := lb :: g :: blk (.slice av qs.length capv)) HB02.out (Nat.le_refl _)).trans HO3.out (fun x hx => .inl (List.mem_cons_of_mem _ hx))
  have HQS : Hid (w.heap.size ≤ q') := Nat.le_trans (Nat.le_trans HK.out.size HKd.out.size) HQ2.out
  have HXN : Hid (∀ x ∈ blk v', x ∈ blk (.slice av qs.length capv) ∨ w.heap.size ≤ x) := fun x hx => by
    rcases HX3.out x hx with h | h
    · exact .inl h
    · exact .inr (Nat.le_trans HB02.out.size h)
  clear hR2 hBG2 hLB2 HPD HRd HKd HQd HDd HR1 HB1 HQ1 HDB1 HLB1 HK HB2 HR2 HQ2 HO3 HX3 HB02 d0 d2
  have t1 := HR3.out.cell _ _ (set_at HT.out (by omega))
  have t2 := HR3.out.frozen (b + 12 + d)
  go_wp2
  refine wp_region_still_tail 12 (by kernel_rfl) (by kernel_rfl) ?_
  replace d3 := cell_drawn (w3.drawn + 1) d3
  replace t1 := cell_drawn (w3.drawn + 1) t1
  replace t2 := frozen_drawn (w3.drawn + 1) t2
  replace HR3 : Hid _ := HR3.out.drawn (w3.drawn + 1)
  replace HLB3 : Hid _ := HLB3.out.drawn (w3.drawn + 1)
  replace HQ3 : Hid _ := HQ3.out.drawn (w3.drawn + 1)
  replace HX03 : Hid _ := HX03.out.drawn (w3.drawn + 1)
  replace HBG3 : Hid _ := hid (HBG3.out.kept (below_drawn (Below.refl w3.heap.size w3) (w3.drawn + 1)))
  generalize ({ w3 with drawn := w3.drawn + 1 } : World) = wq at *
  simp only [List.take_succ_cons, List.take_zero, List.drop_succ_cons, List.drop_zero]
  iterate 12 still_step
  refine wpStill_nil ?_
  have HGL : Hid (g ≠ lb) := HR3.out.ne HLB3.out (by decide)
  have HGQ : Hid (q' ≠ g) := HQ3.out.ne HR3.out (by decide)
  have HLQ : Hid (q' ≠ lb) := HQ3.out.ne HLB3.out (by decide)
  have HBN : Hid (∀ x ∈ blk v', x ≠ g ∧ x ≠ lb) := fun x hx => by
    obtain ⟨c', R'⟩ := HBG3.out.blkRow x hx
    exact ⟨R'.ne HR3.out (by decide), R'.ne HLB3.out (by decide)⟩
  go_upto_region 5 with (fail)
  refine wp_world fun w4 HW => ?_
  have hR4 : ∃ T', Row w4 g ((c.set (b + 14 + d) v').set (b + 12 + d) (.int .u64 T')) 67 ∧ Row w4 lb [.bool false] 4 ∧ Row w4 q' [.slice (some ⟨gb, 0, none⟩) n n, .map none] 84 ∧ Only (lb :: g :: blk (.slice av qs.length capv)) w w4 ∧ BagAt w4 v' (qs ++ [q']) := by
    rw [HW.out]
    exact ⟨_, HR3.out.set _ _, HLB3.out.setOther _ (Ne.symm HGL.out) _, HQ3.out.setOther _ HGQ.out _, HX03.out.setCell g _ _ (.inl (by simp)), HBG3.out.only ((Only.refl [g] wq).setCell g _ _ (.inl (by simp))) (fun x hx => by simpa using (HBN.out x hx).1)⟩
  obtain ⟨T', r1, r2, r3, r4, r5⟩ := hR4
  have HR4 := hid r1
  have HLB4 := hid r2
  have HQ4 := hid r3
  have HX4 := hid r4
  have HBG4 := hid r5
  have b0 := r2.cell 0 _ rfl
  have b1 := r2.frozen 0
  clear r1 r2 r3 r4 r5 HW HR3 HLB3 HQ3 HX03 HBG3 t1 t2 d3
  go_wp2
  go_ret
  exact ⟨rfl, v', q', T', HLB4.out.set 0 _, HR4.out.setOther _ HGL.out _, HBG4.out.only ((Only.refl [lb] w4).setCell lb _ _ (.inl (by simp))) (fun x hx => by simpa using (HBN.out x hx).2), HQS.out, HQ4.out.setOther _ HLQ.out _, HX4.out.setCell lb _ _ (.inl (by simp)), HXN.out⟩
end Go.Proofs.Ytjnmfedefmemnaa
