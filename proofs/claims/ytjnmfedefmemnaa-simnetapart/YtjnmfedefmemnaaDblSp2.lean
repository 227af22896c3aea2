import Derived.Test.YtjnmfedefmemnaaDblSp
namespace Go.Proofs.Ytjnmfedefmemnaa
open Go.RowKit Go.Maps
set_option maxRecDepth 100000

theorem TurnAt.only {S : List Nat} {w w' : World} {mv : Value} {n K : Nat} {T : Nat → BitVec 8} (h : TurnAt w mv n K T) (ho : Only S w w') (hS : ∀ x ∈ S, ∃ c t, Row w x c t) : TurnAt w' mv n K T := by
  rcases h with h1 | ⟨b, k, D, e, hm, hk, hI⟩
  · exact .inl h1
  · exact .inr ⟨b, k, D, e, own_only hm ho (fun hb => by obtain ⟨c, t, r⟩ := hS b hb; exact own_ne hm r rfl), hk, hI⟩
set_option maxHeartbeats 2000000 in
theorem double1_sp {w : World} {g b d q gb n lb db K : Nat} {c : List Value} {v mv : Value} {qs : List Nat} {C T : Int} {U : Nat → BitVec 8} (R : Row w g c 67) (hd : d < 2) (hC : c[b + 1]? = some (.int .i64 C)) (hv : c[b + 14 + d]? = some v) (hT : c[b + 12 + d]? = some (.int .u64 T)) (hB : BagAt w v qs) (hlt : (qs.length : Int) < C) (hC30 : C ≤ 1073741824)
    (h : Row w q [.slice (some ⟨gb, 0, none⟩) n n, mv] 84) (hU : TurnAt w mv n K U) (hdb : Row w db [.int .i64 d] 3) (hlb : Row w lb [.bool false] 4) :
    Calls Try.prog 28 #[.pointer (some ⟨g, b, none⟩), .pointer (some ⟨q, 0, none⟩), .pointer (some ⟨db, 0, none⟩), .pointer (some ⟨lb, 0, none⟩)] w fun e w' => e = .returned (.int .i64 0) ∧ Row w' lb [.bool true] 4 ∧ Only (lb :: g :: blk v) w w' ∧ DoubledSp w w' g b d gb n K U c v qs (IntKind.u64.wrap (T + 1)) := by
  have k1 : (0 : Int) ≤ (d : Int) := by omega
  have k2 : (d : Int) < 2 := by omega
  have hdd : decide (C ≤ (qs.length : Int)) = false := by simp; omega
  obtain ⟨av, capv, rfl⟩ := hB.shape
  have HFU := hid (full_any hd (R.cell _ _ hC) (R.cell _ _ hv))
  have HR := hid R
  have HV := hid hv
  have HT := hid hT
  have HB := hid hB
  have HQ := hid h
  have HU := hid hU
  have HDB := hid hdb
  have HLB := hid hlb
  have HL : Hid (qs.length ≤ 1073741824) := by show qs.length ≤ _; omega
  have HD := hid hd
  have d0 := hdb.cell 0 _ rfl
  clear R hC hv hT hB h hU hdb hlb hlt hC30
  go_enter Try.func28, Try.ntmps28
  go_upto_region 3 with (go_at_call 24; refine Calls.mono HFU.out ?_; rintro e w3 ⟨rfl, q3, rfl⟩; rw [hdd])
  have HK := hid (below_drewN (Below.refl w.heap.size w) q3)
  have HR1 := hid (HR.out.kept HK.out HR.out.lt)
  have HB1 := hid (HB.out.kept HK.out)
  have HQ1 := hid (HQ.out.kept HK.out HQ.out.lt)
  have HU1 := hid (HU.out.kept HK.out)
  have HDB1 := hid (HDB.out.kept HK.out HDB.out.lt)
  have HLB1 := hid (HLB.out.kept HK.out HLB.out.lt)
  clear HFU HR HB HQ HU HDB HLB d0
  generalize w.drewN q3 = w1 at *
  have d0 := HDB1.out.cell 0 _ rfl
  have HRd := hid (HR1.out.drawn (w1.drawn + 1))
  have HKd := hid (below_drewN (Below.refl w1.heap.size w1) 1)
  have HQd := hid (HQ1.out.kept HKd.out HQ1.out.lt)
  have HDd := hid (HDB1.out.kept HKd.out HDB1.out.lt)
  have HPD := hid (pdouble_sp HQd.out (HU1.out.kept HKd.out))
  go_region_held3 (fun w' => w'.cell? ⟨db, 0, none⟩ = some (.int .i64 d)) (go_keep)
    (first
      | (go_at_call 29; refine Calls.mono HPD.out ?_; rintro e w2 ⟨q', mv', rfl, hq', hr2, hu2, hm2, hb2⟩; have HU2 := hid hu2; have HM2 := hid hm2; clear hu2 hm2; have d2 := (HDd.out.kept hb2 HDd.out.lt).cell 0 _ rfl; have HQ2 := hid hq'; have HR2 := hid hr2; have HB2 := hid hb2; clear hq' hr2 hb2)
      | (go_at_call 25; refine (lay_any ((HR1.out.kept HKd.out HR1.out.lt).kept HB2.out (HR1.out.kept HKd.out HR1.out.lt).lt) HD.out HV.out ((HB1.out.kept HKd.out).kept HB2.out) HL.out).mono ?_; rintro e w3 ⟨rfl, v', hr3, hbag3, ho3, hx3⟩; have d3 : w3.cell? ⟨db, 0, none⟩ = some (.int .i64 d) := (ho3.row (HDd.out.kept HB2.out HDd.out.lt) (far_of (HDd.out.kept HB2.out HDd.out.lt) (by decide) (by decide) ((HR1.out.kept HKd.out HR1.out.lt).kept HB2.out (HR1.out.kept HKd.out HR1.out.lt).lt) ((HB1.out.kept HKd.out).kept HB2.out))).cell 0 _ rfl; have HR3 := hid hr3; have HBG3 := hid hbag3; have HO3 := hid ho3; have HX3 := hid hx3; clear hr3 hbag3 ho3 hx3))
  have hR2 := (HR1.out.kept HKd.out HR1.out.lt).kept HB2.out (HR1.out.kept HKd.out HR1.out.lt).lt
  have hBG2 := (HB1.out.kept HKd.out).kept HB2.out
  have hLB2 := (HLB1.out.kept HKd.out HLB1.out.lt).kept HB2.out (HLB1.out.kept HKd.out HLB1.out.lt).lt
  have HLB3 := hid (HO3.out.row hLB2 (far_of hLB2 (by decide) (by decide) hR2 hBG2))
  have HQ3 := hid (HO3.out.row HR2.out (far_of HR2.out (by decide) (by decide) hR2 hBG2))
  have HB02 : Hid (Below w.heap.size w w2) := (HK.out.trans (HKd.out.mono HK.out.size)).trans (HB2.out.mono (Nat.le_trans HK.out.size HKd.out.size))
  have HX03 : Hid (Only (lb :: g :: blk (.slice av qs.length capv)) w w3) := (Only.of_below (S := lb :: g :: blk (.slice av qs.length capv)) HB02.out (Nat.le_refl _)).trans HO3.out (fun x hx => .inl (List.mem_cons_of_mem _ hx))
  have HU3 := hid (HU2.out.only HO3.out (fun x hx => by
    rcases List.mem_cons.1 hx with rfl | hx
    · exact ⟨_, _, hR2⟩
    · obtain ⟨c', R'⟩ := hBG2.blkRow x hx
      exact ⟨_, _, R'⟩))
  have HM3 : Hid (∀ x ∈ mblk mv', w.heap.size ≤ x) := fun x hx => Nat.le_trans (Nat.le_trans HK.out.size HKd.out.size) (HM2.out x hx)
  have HQS : Hid (w.heap.size ≤ q') := Nat.le_trans (Nat.le_trans HK.out.size HKd.out.size) HQ2.out
  have HXN : Hid (∀ x ∈ blk v', x ∈ blk (.slice av qs.length capv) ∨ w.heap.size ≤ x) := fun x hx => by
    rcases HX3.out x hx with h | h
    · exact .inl h
    · exact .inr (Nat.le_trans HB02.out.size h)
  clear hR2 hBG2 hLB2 HPD HRd HKd HQd HDd HR1 HB1 HQ1 HU1 HU2 HM2 HDB1 HLB1 HK HB2 HR2 HQ2 HO3 HX3 HB02 d0 d2
  have t1 := HR3.out.cell _ _ (set_at HT.out (by omega))
  have t2 := HR3.out.frozen (b + 12 + d)
  go_wp2
  refine wp_region_still_tail 12 (by kernel_rfl) (by kernel_rfl) ?_
  replace d3 := cell_drawn (w3.drawn + 1) d3
  replace t1 := cell_drawn (w3.drawn + 1) t1
  replace t2 := frozen_drawn (w3.drawn + 1) t2
  replace HR3 : Hid _ := HR3.out.drawn (w3.drawn + 1)
  replace HLB3 : Hid _ := HLB3.out.drawn (w3.drawn + 1)
  replace HQ3 : Hid _ := HQ3.out.drawn (w3.drawn + 1)
  replace HX03 : Hid _ := HX03.out.drawn (w3.drawn + 1)
  replace HU3 : Hid _ := hid (HU3.out.kept (below_drawn (Below.refl w3.heap.size w3) (w3.drawn + 1)))
  replace HBG3 : Hid _ := hid (HBG3.out.kept (below_drawn (Below.refl w3.heap.size w3) (w3.drawn + 1)))
  generalize ({ w3 with drawn := w3.drawn + 1 } : World) = wq at *
  simp only [List.take_succ_cons, List.take_zero, List.drop_succ_cons, List.drop_zero]
  iterate 12 still_step
  refine wpStill_nil ?_
  have HGL : Hid (g ≠ lb) := HR3.out.ne HLB3.out (by decide)
  have HGQ : Hid (q' ≠ g) := HQ3.out.ne HR3.out (by decide)
  have HLQ : Hid (q' ≠ lb) := HQ3.out.ne HLB3.out (by decide)
  have HBN : Hid (∀ x ∈ blk v', x ≠ g ∧ x ≠ lb) := fun x hx => by
    obtain ⟨c', R'⟩ := HBG3.out.blkRow x hx
    exact ⟨R'.ne HR3.out (by decide), R'.ne HLB3.out (by decide)⟩
  go_upto_region 5 with (fail)
  refine wp_world fun w4 HW => ?_
  have hR4 : Row w4 g ((c.set (b + 14 + d) v').set (b + 12 + d) (.int .u64 (IntKind.u64.wrap (T + 1)))) 67 ∧ Row w4 lb [.bool false] 4 ∧ Row w4 q' [.slice (some ⟨gb, 0, none⟩) n n, mv'] 84 ∧ TurnAt w4 mv' n K U ∧ Only (lb :: g :: blk (.slice av qs.length capv)) w w4 ∧ BagAt w4 v' (qs ++ [q']) := by
    rw [HW.out]
    exact ⟨HR3.out.set _ _, HLB3.out.setOther _ (Ne.symm HGL.out) _, HQ3.out.setOther _ HGQ.out _, HU3.out.only ((Only.refl [g] wq).setCell g _ _ (.inl (by simp))) (fun x hx => (by simpa using hx : x = g) ▸ ⟨_, _, HR3.out⟩), HX03.out.setCell g _ _ (.inl (by simp)), HBG3.out.only ((Only.refl [g] wq).setCell g _ _ (.inl (by simp))) (fun x hx => by simpa using (HBN.out x hx).1)⟩
  obtain ⟨r1, r2, r3, r6, r4, r5⟩ := hR4
  have HU4 := hid r6
  have HR4 := hid r1
  have HLB4 := hid r2
  have HQ4 := hid r3
  have HX4 := hid r4
  have HBG4 := hid r5
  have b0 := r2.cell 0 _ rfl
  have b1 := r2.frozen 0
  clear r1 r2 r3 r4 r5 r6 HU3 HW HR3 HLB3 HQ3 HX03 HBG3 t1 t2 d3
  go_wp2
  go_ret
  refine ⟨rfl, HLB4.out.set 0 _, HX4.out.setCell lb _ _ (.inl (by simp)), v', q', mv', HR4.out.setOther _ HGL.out _, HBG4.out.only ((Only.refl [lb] w4).setCell lb _ _ (.inl (by simp))) (fun x hx => by simpa using (HBN.out x hx).2), HQS.out, HQ4.out.setOther _ HLQ.out _, HU4.out.only ((Only.refl [lb] w4).setCell lb _ _ (.inl (by simp))) (fun x hx => ?_), HM3.out, HXN.out⟩
  have e : x = lb := by simpa using hx
  subst e
  exact ⟨_, _, HLB4.out⟩
end Go.Proofs.Ytjnmfedefmemnaa
