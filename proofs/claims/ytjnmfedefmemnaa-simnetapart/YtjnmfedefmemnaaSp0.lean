import Derived.Test.YtjnmfedefmemnaaTell2
namespace Go.Proofs.Ytjnmfedefmemnaa
open Go.RowKit Go.Maps
set_option maxRecDepth 100000

/-- Is something turned? -/
def sp (T : Nat → BitVec 8) (n : Nat) : Bool := (List.range n).any fun j => T j != 0
theorem sp_iff (T : Nat → BitVec 8) (n : Nat) : sp T n = true ↔ ∃ j, j < n ∧ T j ≠ 0 := by simp [sp]
/-- A frame that lies in a bag: as it was put, and what is turned. -/
def PSp (w : World) (q K : Nat) (bs : List (BitVec 8)) (T : Nat → BitVec 8) : Prop := ∃ gb mv, Row w q [.slice (some ⟨gb, 0, none⟩) bs.length bs.length, mv] 84 ∧ Row w gb (bcells bs) 5 ∧ TurnAt w mv bs.length K T
theorem TurnAt.kept {w w' : World} {mv : Value} {n K : Nat} {T : Nat → BitVec 8} (h : TurnAt w mv n K T) (hb : Below w.heap.size w w') : TurnAt w' mv n K T := by
  rcases h with h | ⟨B, k, D, e, ho, hk, hI⟩
  · exact .inl h
  · exact .inr ⟨B, k, D, e, own_kept ho hb, hk, hI⟩
theorem PSp.kept {w w' : World} {q K : Nat} {bs : List (BitVec 8)} {T : Nat → BitVec 8} (h : PSp w q K bs T) (hb : Below w.heap.size w w') : PSp w' q K bs T := by
  obtain ⟨gb, mv, h1, h2, h3⟩ := h
  exact ⟨gb, mv, h1.kept hb h1.lt, h2.kept hb h2.lt, h3.kept hb⟩
theorem xorT_len (bs : List (BitVec 8)) (T : Nat → BitVec 8) : (xorT bs T).length = bs.length := xorL_len _ _ _
theorem xorT_get {bs : List (BitVec 8)} {T : Nat → BitVec 8} {i : Nat} (h : i < bs.length) : (xorT bs T)[i]'(by rw [xorT_len]; exact h) = bs[i] ^^^ T i :=
  (xorL_get (left := fun _ => false) h).trans (if_neg (by simp))
theorem xorT_zero {bs : List (BitVec 8)} {T : Nat → BitVec 8} (h : ∀ j, j < bs.length → T j = 0) : xorT bs T = bs := by
  apply List.ext_getElem
  · rw [xorT_len]
  · intro i h1 h2
    rw [xorT_get h2, h i h2]
    simp
theorem tell_gen {w : World} {q K : Nat} {bs : List (BitVec 8)} {T : Nat → BitVec 8} (h : PSp w q K bs T) (hm : bs.length ≤ 140737488351232) :
    Calls Try.prog 31 #[.pointer (some ⟨q, 0, none⟩)] w fun e w' => ∃ g', e = .returned (.agg #[.slice (some ⟨g', 0, none⟩) bs.length bs.length, .bool (sp T bs.length)]) ∧ w.heap.size ≤ g' ∧ Row w' g' (bcells (xorT bs T)) 5 ∧ Below w.heap.size w w' := by
  obtain ⟨gb, mv, h1, h2, ⟨rfl, h0⟩ | ⟨B, k, D, rfl, ho, hk, hI⟩⟩ := h
  · refine (tell_any ⟨gb, h1, h2⟩ (by omega)).mono ?_
    rintro e w' ⟨g', rfl, hg, hr, hb⟩
    have hs : sp T bs.length = false := by
      cases e : sp T bs.length
      · rfl
      · obtain ⟨j, hj, hT⟩ := (sp_iff T bs.length).1 e
        exact absurd (h0 j hj) hT
    rw [hs, xorT_zero h0]
    exact ⟨g', rfl, hg, hr, hb⟩
  · refine (tell_map h1 h2 rfl hm ho hI).mono ?_
    rintro e w' ⟨g', rfl, hg, hr, hb⟩
    have hs : decide (0 < Maps.size D) = sp T bs.length := by
      rw [Bool.eq_iff_iff, decide_eq_true_iff, sp_iff]
      exact size_pos ho hI
    rw [hs]
    exact ⟨g', rfl, hg, hr, hb⟩
set_option maxHeartbeats 1000000 in
theorem peek1_sp {w : World} {q ob : Nat} {r : Value} {x y : Value} {bs : List (BitVec 8)} {K : Nat} {T : Nat → BitVec 8} (h : PSp w q K bs T) (hm : bs.length ≤ 140737488351232) (ho : Row w ob [x, y] 32) :
    Calls Try.prog 30 #[r, .pointer (some ⟨q, 0, none⟩), .pointer (some ⟨ob, 0, none⟩)] w fun e w' => e = .returned (.int .i64 0) ∧ ∃ g', Row w' ob [.slice (some ⟨g', 0, none⟩) bs.length bs.length, .bool (sp T bs.length)] 32 ∧ w.heap.size ≤ g' ∧ Row w' g' (bcells (xorT bs T)) 5 ∧ Only [ob] w w' := by
  have HT := hid (tell_gen h hm)
  have HO := hid ho
  clear h hm ho
  go_enter Try.func30, Try.ntmps30
  go_wp2_with (first
    | (go_at_call 31; refine Calls.mono HT.out ?_; rintro e w1 ⟨g, rfl, hg, hr, hb⟩; have HG := hid hg; have HR := hid hr; have HB := hid hb; clear hg hr hb)
    | (show wpList _ _ _ (Oper.mk none (.store 32 (.tmp 2) (.tmp 7)) _ _ _ _ :: _) _ _; refine (HO.out.kept HB.out HO.out.lt).wpStore' 32 (.tmp 2) (.tmp 7) [.slice (some ⟨g, 0, none⟩) bs.length bs.length, .bool (sp T bs.length)] rfl rfl rfl rfl rfl (by simp [Value.oneCell']) i32 ?_; intro wz HZ))
  go_ret
  have h1 : Row wz ob [.slice (some ⟨g, 0, none⟩) bs.length bs.length, .bool (sp T bs.length)] 32 := by rw [HZ.out]; exact (HO.out.kept HB.out HO.out.lt).row _
  have h2 : Row wz g (bcells (xorT bs T)) 5 := by rw [HZ.out]; exact HR.out.rowOther (HR.out.ne (HO.out.kept HB.out HO.out.lt) (by decide)) _
  have h3 : Only [ob] w wz := by rw [HZ.out]; exact (Only.of_below HB.out (Nat.le_refl _)).setRow ob _ (.inl (by simp))
  exact ⟨rfl, g, h1, HG.out, h2, h3⟩
set_option maxHeartbeats 2000000 in
theorem find_peeksp {w : World} {p n g k d j : Nat} {c : List Value} {v : Value} {qs : List Nat} {ob : Nat} {x y : Value} {bs : List (BitVec 8)} {K : Nat} {T : Nat → BitVec 8}
    (HN : Row w p [.slice (some ⟨g, 0, none⟩) n n] 52) (R : Row w g c 67) (hk : k < n) (hd : d < 2) (hv : c[k * 16 + 14 + d]? = some v) (hB : BagAt w v qs) (hj : j < qs.length) (h : PSp w qs[j] K bs T) (hm : bs.length ≤ 140737488351232) (ho : Row w ob [x, y] 32) :
    Calls Try.prog 27 #[.pointer (some ⟨p, 0, none⟩), .int .i64 k, .int .i64 d, .int .i64 j, .bool false, .func (.func 30) #[] #[.pointer (some ⟨ob, 0, none⟩)]] w fun e w' => e = .returned (.int .i64 0) ∧ ∃ g', Row w' ob [.slice (some ⟨g', 0, none⟩) bs.length bs.length, .bool (sp T bs.length)] 32 ∧ w.heap.size ≤ g' ∧ Row w' g' (bcells (xorT bs T)) 5 ∧ Only [ob] w w' := by
  have HBI := hid (bag_in (HN.cell 0 _ rfl) hk hd)
  have HP := hid (peek1_sp (r := .pointer (some ⟨g, k * 16, none⟩)) h hm ho)
  have c1 := R.cell _ _ hv
  obtain ⟨gb, o, cap, rfl, c2⟩ := hB.cell j hj
  have k1 : (0 : Int) ≤ (d : Int) := by omega
  have k2 : (d : Int) < 2 := by omega
  have j1 : decide ((j : Int) < 0) = false := by simp
  have j2 : decide ((qs.length : Int) ≤ (j : Int)) = false := by simp; omega
  have j3 : decide ((j : Int) ≥ (qs.length : Int)) = false := by simp; omega
  have j4 : (j : Int) < (qs.length : Int) := by omega
  unfold ptr at c2
  clear R hv hB h hm ho HN hk
  generalize qs[j] = q at *
  go_enter Try.func27, Try.ntmps27
  go_wp2_with (first
    | (go_at_call 23; refine Calls.mono HBI.out ?_; rintro e w' ⟨rfl, rfl⟩)
    | (go_at_call 30; refine Calls.mono HP.out ?_; rintro e w1 ⟨rfl, hh⟩; have HH := hid hh; clear hh))
  go_ret
  exact ⟨rfl, HH.out⟩
set_option maxHeartbeats 2000000 in
theorem peek_sp {w : World} {p n g k d j : Nat} {c : List Value} {v : Value} {qs : List Nat} {bs : List (BitVec 8)} {K : Nat} {T : Nat → BitVec 8}
    (HN : Row w p [.slice (some ⟨g, 0, none⟩) n n] 52) (R : Row w g c 67) (hk : k < n) (hd : d < 2) (hv : c[k * 16 + 14 + d]? = some v) (hB : BagAt w v qs) (hj : j < qs.length) (h : PSp w qs[j] K bs T) (hm : bs.length ≤ 140737488351232) :
    Calls Try.prog 12 #[.pointer (some ⟨p, 0, none⟩), .int .i64 k, .int .i64 d, .int .i64 j] w fun e w' => ∃ g', e = .returned (.tuple #[.agg #[.slice (some ⟨g', 0, none⟩) bs.length bs.length, .bool (sp T bs.length)], .int .i64 0]) ∧ w.heap.size ≤ g' ∧ Row w' g' (bcells (xorT bs T)) 5 ∧ Below w.heap.size w w' := by
  have hb := below_grow (below_grow (Below.refl w.heap.size w) (.cells #[.slice none 0 0, .bool false] 32)) (.cells #[.slice none 0 0, .bool false] 32)
  have r1 : Row ((w.alloc (.cells #[.slice none 0 0, .bool false] 32)).alloc (.cells #[.slice none 0 0, .bool false] 32)) w.heap.size [.slice none 0 0, .bool false] 32 := (Row.new' _ _ _ _ _ rfl rfl).alloc _
  have r2 : Row ((w.alloc (.cells #[.slice none 0 0, .bool false] 32)).alloc (.cells #[.slice none 0 0, .bool false] 32)) (w.heap.size + 1) [.slice none 0 0, .bool false] 32 := Row.new' _ _ _ _ _ (by simp) rfl
  have HF := hid (find_peeksp (HN.kept hb HN.lt) (R.kept hb R.lt) hk hd hv (hB.kept hb) hj (h.kept hb) hm r2)
  have HB := hid hb
  have HR1 := hid r1
  clear HN R hk hv hB h hm hb r1 r2
  generalize hn : bs.length = m at *
  have HM := hid hn
  clear hn
  go_enter Try.func12, Try.ntmps12
  go_upto_region 3 with (go_at_call 27; refine Calls.mono HF.out ?_; rintro e w1 ⟨rfl, g', hr, hg, hbb, ho⟩; have HR := hid hr; have HG := hid hg; have HBB := hid hbb; have HO := hid ho; clear hr hg hbb ho)
  have HRR := hid (HO.out.row HR1.out (by simp))
  have HBW : Hid (Below w.heap.size w w1) := HB.out.trans (HO.out.below HB.out.size (by simp))
  have HGG : Hid (w.heap.size ≤ g') := Nat.le_trans HB.out.size HG.out
  have c0 := HR.out.cell 0 _ rfl
  have c1 := HR.out.cell 1 _ rfl
  clear HR1 HF HB HG HO
  go_wp2_with (show wpList _ _ _ (Oper.mk none (.store 32 (.tmp 8) (.tmp 18)) _ _ _ _ :: _) _ _; refine HRR.out.wpStore' 32 (.tmp 8) (.tmp 18) [.slice (some ⟨g', 0, none⟩) m m, .bool (sp T m)] rfl rfl rfl rfl rfl (by simp [Value.oneCell']) i32 ?_; intro wz HZ)
  have h1 : Row wz w.heap.size [.slice (some ⟨g', 0, none⟩) m m, .bool (sp T m)] 32 := by rw [HZ.out]; exact HRR.out.row _
  have h2 : Row wz g' (bcells (xorT bs T)) 5 := by rw [HZ.out]; exact HBB.out.rowOther (HBB.out.ne HRR.out (by decide)) _
  have h3 : Below w.heap.size w wz := by rw [HZ.out]; exact below_setRow HBW.out (Nat.le_refl _) _
  exact bodyPost_ret (v := .tuple #[.agg #[.slice (some ⟨g', 0, none⟩) m m, .bool (sp T m)], .int .i64 0]) (h1.result2 Try.results12 _ rfl rfl _ Try.underlying32 rfl i32) rfl ⟨g', rfl, HGG.out, h2, h3⟩
set_option maxHeartbeats 2000000 in
theorem take1_sp {w : World} {g b d j q ob db kb : Nat} {c : List Value} {v : Value} {qs : List Nat} {x y : Value} {CT : Int} {bs : List (BitVec 8)} {K : Nat} {T : Nat → BitVec 8} (R : Row w g c 67) (hd : d < 2) (hv : c[b + 14 + d]? = some v) (hT : c[b + 8 + d]? = some (.int .u64 CT)) (hB : BagAt w v qs) (hl : qs.length ≤ 1073741824) (hj : j < qs.length)
    (h : PSp w q K bs T) (hm : bs.length ≤ 140737488351232) (ho : Row w ob [x, y] 32) (hdb : Row w db [.int .i64 d] 3) (hkb : Row w kb [.int .i64 j] 3) :
    Calls Try.prog 32 #[.pointer (some ⟨g, b, none⟩), .pointer (some ⟨q, 0, none⟩), .pointer (some ⟨ob, 0, none⟩), .pointer (some ⟨db, 0, none⟩), .pointer (some ⟨kb, 0, none⟩)] w fun e w' => e = .returned (.int .i64 0) ∧ ∃ g', Row w' ob [.slice (some ⟨g', 0, none⟩) bs.length bs.length, .bool (sp T bs.length)] 32 ∧ w.heap.size ≤ g' ∧ Row w' g' (bcells (xorT bs T)) 5 ∧ Only (ob :: g :: blk v) w w' ∧ TakenAt w' g b d c v (qs.eraseIdx j) := by
  have HT := hid (tell_gen h hm)
  have HO := hid ho
  have HR := hid R
  have HV := hid hv
  have HTT := hid hT
  have HBG := hid hB
  have HDB := hid hdb
  have HKB := hid hkb
  have HL := hid hl
  have HJ := hid hj
  have k1 : (0 : Int) ≤ (d : Int) := by omega
  have k2 : (d : Int) < 2 := by omega
  have HNB : Hid (∀ x ∈ blk v, x ≠ ob ∧ x ≠ db ∧ x ≠ g) := fun x hx => by
    obtain ⟨c', R'⟩ := hB.blkRow x hx
    exact ⟨R'.ne ho (by decide), R'.ne hdb (by decide), R'.ne R (by decide)⟩
  clear h hm ho R hv hT hB hdb hkb hl hj
  go_enter Try.func32, Try.ntmps32
  go_upto_region 2 with (first
    | (go_at_call 31; refine Calls.mono HT.out ?_; rintro e w1 ⟨gn, rfl, hg, hr, hb⟩; have HG := hid hg; have HRN := hid hr; have HB1 := hid hb; clear hg hr hb)
    | (show wpList _ _ _ (Oper.mk none (.store 32 (.tmp 2) (.tmp 9)) _ _ _ _ :: _) _ _; refine (HO.out.kept HB1.out HO.out.lt).wpStore' 32 (.tmp 2) (.tmp 9) [.slice (some ⟨gn, 0, none⟩) bs.length bs.length, .bool (sp T bs.length)] rfl rfl rfl rfl rfl (by simp [Value.oneCell']) i32 ?_; intro w2 HZ))
  have HO1 := hid (HO.out.kept HB1.out HO.out.lt)
  have HO2 : Hid (Row w2 ob [.slice (some ⟨gn, 0, none⟩) bs.length bs.length, .bool (sp T bs.length)] 32) := by show Row _ _ _ _; rw [HZ.out]; exact HO1.out.row _
  have HN2 : Hid (Row w2 gn (bcells (xorT bs T)) 5) := by show Row _ _ _ _; rw [HZ.out]; exact HRN.out.rowOther (HRN.out.ne HO1.out (by decide)) _
  have HX2 : Hid (Only [ob] w w2) := by show Only _ _ _; rw [HZ.out]; exact (Only.of_below HB1.out (Nat.le_refl _)).setRow ob _ (.inl (by simp))
  have HR2 := hid (HX2.out.row HR.out (by simpa using HR.out.ne HO.out (by decide)))
  have HD2 := hid (HX2.out.row HDB.out (by simpa using HDB.out.ne HO.out (by decide)))
  have HK2 := hid (HX2.out.row HKB.out (by simpa using HKB.out.ne HO.out (by decide)))
  have HBG2 := hid (HBG.out.only HX2.out (fun x hx => by simpa using (HNB.out x hx).1))
  clear HZ HO1 HRN HB1 HR HDB HKB HBG HT HO
  have d1 := HD2.out.cell 0 _ rfl
  have d2 := HK2.out.cell 0 _ rfl
  go_upto_region 3 with (go_at_call 33; refine (cut_any HR2.out (by omega) HV.out HBG2.out HL.out HJ.out).mono ?_; rintro e w3 ⟨rfl, v', hr, hbag, ho, hx⟩; have HR3 := hid hr; have HBG3 := hid hbag; have HX3 := hid ho; have HV3 := hid hx; clear hr hbag ho hx)
  have hng : ∀ {x : Nat} {cc : List Value} {t : TypeId}, Row w2 x cc t → t ≠ 67 → t ≠ 73 → x ∉ g :: blk v := fun hr n1 n2 hm => by
    rcases List.mem_cons.1 hm with rfl | hm
    · exact n1 (hr.type HR2.out)
    · obtain ⟨c', R'⟩ := HBG2.out.blkRow _ hm
      exact n2 (hr.type R')
  have HO3 := hid (HX3.out.row HO2.out (hng HO2.out (by decide) (by decide)))
  have HN3 := hid (HX3.out.row HN2.out (hng HN2.out (by decide) (by decide)))
  have HD3 := hid (HX3.out.row HD2.out (hng HD2.out (by decide) (by decide)))
  have HX33 : Hid (Only (ob :: g :: blk v) w w3) := (HX2.out.wider (fun x hx => by simp at hx; simp [hx])).trans HX3.out (fun x hx => .inl (List.mem_cons_of_mem _ hx))
  clear d1 d2 hng
  have d1 := HD3.out.cell 0 _ rfl
  have t1 := HR3.out.cell _ _ (set_at HTT.out (by omega))
  have t2 := HR3.out.frozen (b + 8 + d)
  refine wp_region_still_tail 12 (by kernel_rfl) (by kernel_rfl) ?_
  replace d1 := cell_drawn (w3.drawn + 1) d1
  replace t1 := cell_drawn (w3.drawn + 1) t1
  replace t2 := frozen_drawn (w3.drawn + 1) t2
  replace HR3 : Hid _ := HR3.out.drawn (w3.drawn + 1)
  replace HO3 : Hid _ := HO3.out.drawn (w3.drawn + 1)
  replace HN3 : Hid _ := HN3.out.drawn (w3.drawn + 1)
  replace HX33 : Hid _ := HX33.out.drawn (w3.drawn + 1)
  replace HBG3 : Hid _ := hid (HBG3.out.kept (below_drawn (Below.refl w3.heap.size w3) (w3.drawn + 1)))
  generalize ({ w3 with drawn := w3.drawn + 1 } : World) = wq at *
  simp only [List.take_succ_cons, List.take_zero, List.drop_succ_cons, List.drop_zero]
  iterate 12 still_step
  refine wpStill_nil ?_
  go_wp2
  go_ret
  have hgo : g ≠ ob := HR3.out.ne HO3.out (by decide)
  have hgn : gn ≠ g := HN3.out.ne HR3.out (by decide)
  refine ⟨rfl, gn, HO3.out.setOther _ (Ne.symm hgo) _, HG.out, HN3.out.setOther _ hgn _, HX33.out.setCell g _ _ (.inl (by simp)), v', _, HR3.out.set _ _, ?_, HV3.out⟩
  exact HBG3.out.only ((Only.refl [g] wq).setCell g _ _ (.inl (by simp))) (fun x hx => by rw [HV3.out] at hx; simpa using (HNB.out x hx).2.2)
set_option maxHeartbeats 2000000 in
theorem find_takesp {w : World} {p n g k d j ob db kb : Nat} {c : List Value} {v : Value} {qs : List Nat} {x y : Value} {CT : Int} {bs : List (BitVec 8)} {K : Nat} {T : Nat → BitVec 8}
    (HN : Row w p [.slice (some ⟨g, 0, none⟩) n n] 52) (R : Row w g c 67) (hk : k < n) (hd : d < 2) (hup : c[k * 16]? = some (.bool true)) (hv : c[k * 16 + 14 + d]? = some v) (hT : c[k * 16 + 8 + d]? = some (.int .u64 CT)) (hB : BagAt w v qs) (hl : qs.length ≤ 1073741824) (hj : j < qs.length)
    (h : PSp w qs[j] K bs T) (hm : bs.length ≤ 140737488351232) (ho : Row w ob [x, y] 32) (hdb : Row w db [.int .i64 d] 3) (hkb : Row w kb [.int .i64 j] 3) :
    Calls Try.prog 27 #[.pointer (some ⟨p, 0, none⟩), .int .i64 k, .int .i64 d, .int .i64 j, .bool true, .func (.func 32) #[] #[.pointer (some ⟨ob, 0, none⟩), .pointer (some ⟨db, 0, none⟩), .pointer (some ⟨kb, 0, none⟩)]] w fun e w' => e = .returned (.int .i64 0) ∧ ∃ g', Row w' ob [.slice (some ⟨g', 0, none⟩) bs.length bs.length, .bool (sp T bs.length)] 32 ∧ w.heap.size ≤ g' ∧ Row w' g' (bcells (xorT bs T)) 5 ∧ Only (ob :: g :: blk v) w w' ∧ TakenAt w' g (k * 16) d c v (qs.eraseIdx j) := by
  have HBI := hid (bag_in (HN.cell 0 _ rfl) hk hd)
  have HP := hid (take1_sp R hd hv hT hB hl hj h hm ho hdb hkb)
  have c0 := R.cell _ _ hup
  have c1 := R.cell _ _ hv
  obtain ⟨gb, o, cap, rfl, c2⟩ := hB.cell j hj
  have k1 : (0 : Int) ≤ (d : Int) := by omega
  have k2 : (d : Int) < 2 := by omega
  have j1 : decide ((j : Int) < 0) = false := by simp
  have j2 : decide ((qs.length : Int) ≤ (j : Int)) = false := by simp; omega
  have j3 : decide ((j : Int) ≥ (qs.length : Int)) = false := by simp; omega
  have j4 : (j : Int) < (qs.length : Int) := by omega
  unfold ptr at c2
  clear R hup hv hT hB hl h hm ho hdb hkb HN hk
  generalize qs[j] = q at *
  go_enter Try.func27, Try.ntmps27
  go_wp2_with (first
    | (go_at_call 23; refine Calls.mono HBI.out ?_; rintro e w' ⟨rfl, rfl⟩)
    | (go_at_call 32; refine Calls.mono HP.out ?_; rintro e w1 ⟨rfl, hh⟩; have HH := hid hh; clear hh))
  go_ret
  exact ⟨rfl, HH.out⟩
set_option maxHeartbeats 2000000 in
/-- Take of the frame at a place. -/
theorem take_sp {w : World} {p n g k d j : Nat} {c : List Value} {v : Value} {qs : List Nat} {CT : Int} {bs : List (BitVec 8)} {K : Nat} {T : Nat → BitVec 8}
    (HN : Row w p [.slice (some ⟨g, 0, none⟩) n n] 52) (R : Row w g c 67) (hk : k < n) (hd : d < 2) (hup : c[k * 16]? = some (.bool true)) (hv : c[k * 16 + 14 + d]? = some v) (hT : c[k * 16 + 8 + d]? = some (.int .u64 CT)) (hB : BagAt w v qs) (hl : qs.length ≤ 1073741824) (hj : j < qs.length)
    (h : PSp w qs[j] K bs T) (hm : bs.length ≤ 140737488351232) :
    Calls Try.prog 13 #[.pointer (some ⟨p, 0, none⟩), .int .i64 k, .int .i64 d, .int .i64 j] w fun e w' => ∃ g', e = .returned (.tuple #[.agg #[.slice (some ⟨g', 0, none⟩) bs.length bs.length, .bool (sp T bs.length)], .int .i64 0]) ∧ w.heap.size ≤ g' ∧ Row w' g' (bcells (xorT bs T)) 5 ∧ Only (g :: blk v) w w' ∧ TakenAt w' g (k * 16) d c v (qs.eraseIdx j) := by
  have hb := below_grow (below_grow (below_grow (below_grow (Below.refl w.heap.size w) (.cells #[.int .i64 d] 3)) (.cells #[.int .i64 j] 3)) (.cells #[.slice none 0 0, .bool false] 32)) (.cells #[.slice none 0 0, .bool false] 32)
  have r1 : Row ((((w.alloc (.cells #[.int .i64 d] 3)).alloc (.cells #[.int .i64 j] 3)).alloc (.cells #[.slice none 0 0, .bool false] 32)).alloc (.cells #[.slice none 0 0, .bool false] 32)) (w.heap.size + 1 + 1) [.slice none 0 0, .bool false] 32 := (Row.new' _ _ _ _ _ (by simp) rfl).alloc _
  have r2 : Row ((((w.alloc (.cells #[.int .i64 d] 3)).alloc (.cells #[.int .i64 j] 3)).alloc (.cells #[.slice none 0 0, .bool false] 32)).alloc (.cells #[.slice none 0 0, .bool false] 32)) (w.heap.size + 1 + 1 + 1) [.slice none 0 0, .bool false] 32 := Row.new' _ _ _ _ _ (by simp) rfl
  have r3 : Row ((((w.alloc (.cells #[.int .i64 d] 3)).alloc (.cells #[.int .i64 j] 3)).alloc (.cells #[.slice none 0 0, .bool false] 32)).alloc (.cells #[.slice none 0 0, .bool false] 32)) w.heap.size [.int .i64 d] 3 := (((Row.new' _ _ _ _ _ rfl rfl).alloc _).alloc _).alloc _
  have r4 : Row ((((w.alloc (.cells #[.int .i64 d] 3)).alloc (.cells #[.int .i64 j] 3)).alloc (.cells #[.slice none 0 0, .bool false] 32)).alloc (.cells #[.slice none 0 0, .bool false] 32)) (w.heap.size + 1) [.int .i64 j] 3 := ((Row.new' _ _ _ _ _ (by simp) rfl).alloc _).alloc _
  have HF := hid (find_takesp (HN.kept hb HN.lt) (R.kept hb R.lt) hk hd hup hv hT (hB.kept hb) hl hj (h.kept hb) hm r2 r3 r4)
  have HB := hid hb
  have HR1 := hid r1
  have HTY : Hid (∀ x ∈ g :: blk v, x ≠ w.heap.size + 1 + 1) := fun x hx => by
    rcases List.mem_cons.1 hx with rfl | hx
    · have := R.lt; omega
    · obtain ⟨c', R'⟩ := hB.blkRow x hx
      have := R'.lt; omega
  clear HN R hk hup hv hT hB hl h hm hb r1 r2 r3 r4
  generalize hn : bs.length = m at *
  have HM := hid hn
  clear hn
  go_enter Try.func13, Try.ntmps13
  go_upto_region 3 with (go_at_call 27; refine Calls.mono HF.out ?_; rintro e w1 ⟨rfl, g', hr, hg, hbb, ho, ht⟩; have HR := hid hr; have HG := hid hg; have HBB := hid hbb; have HO := hid ho; have HTK := hid ht; clear hr hg hbb ho ht)
  have HRR := hid (HO.out.row HR1.out (fun hm => by
    rcases List.mem_cons.1 hm with e | hm
    · omega
    · exact HTY.out _ hm rfl))
  have HX : Hid (Only (g :: blk v) w w1) := (Only.of_below (S := g :: blk v) HB.out (Nat.le_refl _)).trans HO.out (fun x hx => by
    rcases List.mem_cons.1 hx with rfl | hx
    · exact .inr (by omega)
    · exact .inl hx)
  have HGG : Hid (w.heap.size ≤ g') := Nat.le_trans HB.out.size HG.out
  have c0 := HR.out.cell 0 _ rfl
  have c1 := HR.out.cell 1 _ rfl
  clear HR1 HF HB HG HO
  go_wp2_with (show wpList _ _ _ (Oper.mk none (.store 32 (.tmp 8) (.tmp 18)) _ _ _ _ :: _) _ _; refine HRR.out.wpStore' 32 (.tmp 8) (.tmp 18) [.slice (some ⟨g', 0, none⟩) m m, .bool (sp T m)] rfl rfl rfl rfl rfl (by simp [Value.oneCell']) i32 ?_; intro wz HZ)
  have h1 : Row wz (w.heap.size + 1 + 1) [.slice (some ⟨g', 0, none⟩) m m, .bool (sp T m)] 32 := by rw [HZ.out]; exact HRR.out.row _
  have h2 : Row wz g' (bcells (xorT bs T)) 5 := by rw [HZ.out]; exact HBB.out.rowOther (HBB.out.ne HRR.out (by decide)) _
  have h3 : Only (g :: blk v) w wz := by rw [HZ.out]; exact HX.out.setRow _ _ (.inr (by omega))
  have h4 : TakenAt wz g (k * 16) d c v (qs.eraseIdx j) := by
    obtain ⟨v', T', t1, t2, t3⟩ := HTK.out
    have hz : Only [w.heap.size + 1 + 1] w1 wz := by rw [HZ.out]; exact (Only.refl _ _).setRow _ _ (.inl (by simp))
    refine ⟨v', T', hz.row t1 (by simpa using t1.ne HRR.out (by decide)), t2.only hz (fun x hx => ?_), t3⟩
    obtain ⟨c', R'⟩ := t2.blkRow x hx
    simpa using R'.ne HRR.out (by decide)
  exact bodyPost_ret (v := .tuple #[.agg #[.slice (some ⟨g', 0, none⟩) m m, .bool (sp T m)], .int .i64 0]) (h1.result2 Try.results13 _ rfl rfl _ Try.underlying32 rfl i32) rfl ⟨g', rfl, HGG.out, h2, h3, h4⟩
end Go.Proofs.Ytjnmfedefmemnaa
