import Derived.Test.YtjnmfedefmemnaaHeals1
namespace Go.Proofs.Ytjnmfedefmemnaa
open Go.RowKit Go.Maps
set_option maxRecDepth 100000

set_option maxHeartbeats 8000000 in
theorem heals_any {W : World} {fa aa ma : Option Addr} {n capF nA capA nM capM : Nat} (x : Int) {f ms : List (BitVec 8)} {pl : List Int}
    (hF : BytesAt W fa f) (hf : f.length = n) (hA : CellsAt W aa (pl.map (Value.int .i64))) (hpl : pl.length = nA) (hM : BytesAt W ma ms) (hms : ms.length = nM) (hb1 : n ≤ 140737488351232) (hb2 : nA ≤ 140737488351232) (hb3 : nM ≤ 140737488351232) :
    Calls Try.prog 5 #[.slice fa n capF, .slice aa nA capA, .slice ma nM capM, .int .i64 x] W fun e w' => e = .returned (.bool true) ∧ Below W.heap.size W w' := by
  subst hf
  have hcc : (W.alloc (.cells #[.int .i64 1] 3)).cell? ⟨W.heap.size, 0, none⟩ = some (.int .i64 1) := (Row.new W [.int .i64 1] 3).cell 0 _ rfl
  have HN := hid (new_one (by decide) (by decide) hcc)
  have HB0 := hid (below_grow (Below.refl W.heap.size W) (.cells #[.int .i64 1] 3))
  have HF := hid hF
  have HA := hid hA
  have HPL := hid hpl
  have HM := hid hM
  have HMS := hid hms
  have HB1 := hid hb1
  have HB2 := hid hb2
  have b1 : (f.length : Int) ≤ 140737488351232 := by omega
  have b2 : (nA : Int) ≤ 140737488351232 := by omega
  have b3 : (nM : Int) ≤ 140737488351232 := by omega
  clear hcc hF hA hpl hM hms hb1 hb2 hb3
  go_enter Try.func5, Try.ntmps5
  go_upto_region 4 with (go_at_call 9; refine Calls.mono HN.out ?_; rintro e w1 ⟨p, g, rfl, hq, hpq, hr, hn, hb⟩; have HLA := hid (lane_new (d := 0) HB0.out.size (by decide) (by decide) hq hpq hr hn (by decide)); have HBW := hid (HB0.out.trans (hb.mono HB0.out.size)); clear hr hn hb hq hpq)
  clear HN HB0
  go_upto_region 6 with (go_at_call 10; refine (heals_put (cap := capF) HLA.out (HF.out.kept HBW.out) rfl HB1.out).mono ?_; rintro e w2 ⟨rfl, ⟨q, c, v, gb, hh⟩, hb⟩; have HH := hid hh; have HB := hid (HBW.out.trans hb); clear hh hb)
  clear HLA HBW
  obtain ⟨an, capn, tl, w3, hr3, hn3, hb3⟩ := append_now (cap := capF) (HF.out.kept HB.out) rfl HB1.out 22
  have HR3 := hid hr3
  have HS3 : Hid (St W w3 w2.heap.size p g q gb f c v an tl (fun _ => 0) (fun _ => 0) 0) := ⟨⟨0, _, HH.out.kept hb3, Nat.le_refl _⟩, by rw [xorT_zero fun _ _ => rfl]; exact hn3, HH.out.pb.lt, HB.out.size, HB.out.trans (hb3.mono HB.out.size)⟩
  clear hr3 hn3 hb3
  go_upto_region 7 with (at_builtin; refine wpList_append_by rfl _ _ _ rfl rfl rfl HR3.out ?_)
  generalize w2.heap.size = base at *
  clear HR3 HH HB
  obtain ⟨k, hk⟩ : ∃ k : Nat, k = min nA nM := ⟨_, rfl⟩
  have hkm : (if nM < nA then (nM : Int) else (nA : Int)) = (k : Int) := by split <;> omega
  have hkn : ∀ (ts : Array TypeId) (t : TypeId) (W : World), (Builtin.min_ ts t #[.int .i64 (nA : Int), .int .i64 (nM : Int)]).run Try.prog W = .ok (.int .i64 (k : Int)) W := fun ts t W => by rw [run_min_int2, ← hkm]; simp only [Int.ofNat_lt]
  have HKA : Hid (k ≤ nA) := by show _ ≤ _; omega
  have HKM : Hid (k ≤ nM) := by show _ ≤ _; omega
  have HK : Hid (k ≤ 140737488351232) := by show _ ≤ _; omega
  have bk : (k : Int) ≤ 140737488351232 := by omega
  clear hk
  obtain ⟨F, hF⟩ : ∃ F : Nat, F = (IntKind.u64.wrap x).toNat % k := ⟨_, rfl⟩
  have HFD := hid hF
  clear hF
  go_wp2
  clear hkm hkn
  go_loopw [13] (fun i wr => ∃ t : Nat, t ≤ 2 ∧ i = .int .i64 t ∧ St W wr base p g q gb f c v an tl (Tl f.length pl ms (oOf k F t)) (Tl f.length pl ms (oOf k F t)) (t * k)) (fun i _ => 2 - (intOf i).toNat)
  case atStart => exact ⟨0, by omega, rfl, by rw [Nat.zero_mul]; exact HS3.out⟩
  case round =>
    clear HS3
    obtain ⟨t, ht, rfl, hst⟩ := hrel
    have HST := hid hst
    clear hst
    rcases (show t = 0 ∨ t = 1 ∨ t = 2 by omega) with rfl | rfl | rfl
    · have HSI : Hid (St W wr base p g q gb f c v an tl (Tl f.length pl ms (lOf k F 0 0)) (Tl f.length pl ms (lOf k F 0 0)) (0 * k + 0)) := HST.out
      clear HST ht
      rw [show ((0 : Nat) : Int) = 0 from rfl]
      go_wp2
      go_loopw [14] (fun i wr => ∃ r : Nat, r ≤ k ∧ i = .int .i64 r ∧ St W wr base p g q gb f c v an tl (Tl f.length pl ms (lOf k F 0 r)) (Tl f.length pl ms (lOf k F 0 r)) (0 * k + r)) (fun i _ => k - (intOf i).toNat)
      case atStart => exact ⟨0, Nat.zero_le _, rfl, HSI.out⟩
      case round =>
        clear HSI
        obtain ⟨r, hr, rfl, hst⟩ := hrel
        have HST := hid hst
        clear hst
        by_cases hrk : r < k
        · have l1 : (r : Int) < (k : Int) := by omega
          have HRK := hid hrk
          have HLS : Hid (lOf k F 0 (r + 1) = lOf k F 0 r ++ [r]) := lOf_snoc k F 0 r (by decide)
          have hjk := hrk
          have HTN := hid (Tl_snoc f.length pl ms (lOf k F 0 r) r)
          obtain ⟨ga, oa, rfl, ca⟩ := ints_at HA.out (j := r) (by rw [HPL.out]; exact Nat.lt_of_lt_of_le hjk HKA.out)
          obtain ⟨gm, om, rfl, cm⟩ := bytes_at HM.out (j := r) (by rw [HMS.out]; exact Nat.lt_of_lt_of_le hjk HKM.out)
          have la : (r : Int) < (nA : Int) := by have := HKA.out; omega
          have lm : (r : Int) < (nM : Int) := by have := HKM.out; omega
          have l0 : (0 : Int) ≤ (r : Int) := by omega
          have HBN : Hid (0 * k + r < 281474976710656) := by show _ < _; have := HK.out; omega
          generalize pl.getD r 0 = pj at *
          generalize ms.getD r 0 = mj at *
          have HCA := hid ca
          have HCM := hid cm
          clear ca cm hrk hr hjk
          go_upto_region 17 with (fail)
          refine wp_region_still_tail 9 (by kernel_rfl) (by kernel_rfl) ?_
          have HS2 := hid (HST.out.kept (below_drawn (Below.refl wr.heap.size wr) (wr.drawn + 1)))
          generalize ({ wr with drawn := wr.drawn + 1 } : World) = wq at *
          have ca := cell_kept HS2.out.bel HCA.out
          have cm := cell_kept HS2.out.bel HCM.out
          clear HST
          simp only [List.take_succ_cons, List.take_zero, List.drop_succ_cons, List.drop_zero]
          iterate 9 still_step
          refine wpStill_nil ?_
          go_upto_region 18 with (go_at_call 17; refine (St.spoil HS2.out HBN.out pj mj).mono ?_; rintro e w4 ⟨rfl, hs4⟩; have HS4 := hid hs4; clear hs4)
          clear HS2 ca cm
          have ca := cell_kept HS4.out.bel HCA.out
          have cm := cell_kept HS4.out.bel HCM.out
          by_cases hx : 0 ≤ pj ∧ pj < (f.length : Int)
          · rw [if_pos hx]
            obtain ⟨j, rfl⟩ := Int.eq_ofNat_of_zero_le hx.1
            have hj : j < f.length := by omega
            have HTU : Hid (Tl f.length pl ms (lOf k F 0 (r + 1)) = turnT (Tl f.length pl ms (lOf k F 0 r)) j mj) := by show _ = _; rw [HLS.out, HTN.out]; unfold ap; rw [if_pos hx, Int.toNat_natCast]
            have HS5 : Hid (St W w4 base p g q gb f c v an tl (Tl f.length pl ms (lOf k F 0 (r + 1))) (Tl f.length pl ms (lOf k F 0 r)) (0 * k + r + 1)) := by show St _ _ _ _ _ _ _ _ _ _ _ _ _ _ _; rw [HLS.out, HTN.out]; exact HS4.out
            obtain ⟨gn, rfl, cn, fz⟩ := St.cell HS5.out hj
            have fz1 := fz j
            have x0 : (0 : Int) ≤ (j : Int) := by omega
            have x1 : (j : Int) < (f.length : Int) := by omega
            clear HS4 fz hx
            go_upto_region 21 with (fail)
            refine wp_region_still_tail 18 (by kernel_rfl) (by kernel_rfl) ?_
            have HS5q := hid (HS5.out.kept (below_drawn (Below.refl w4.heap.size w4) (w4.drawn + 1)))
            replace ca := cell_drawn (w4.drawn + 1) ca
            replace cm := cell_drawn (w4.drawn + 1) cm
            replace cn := cell_drawn (w4.drawn + 1) cn
            replace fz1 := frozen_drawn (w4.drawn + 1) fz1
            generalize ({ w4 with drawn := w4.drawn + 1 } : World) = w5 at *
            clear HS5
            simp only [List.take_succ_cons, List.take_zero, List.drop_succ_cons, List.drop_zero]
            iterate 18 still_step
            refine wpStill_nil ?_
            go_upto_region 22 with (fail)
            refine wp_world fun w6 HW => ?_
            have HS6 : Hid (St W w6 base p g q gb f c v (some ⟨gn, 0, none⟩) tl (Tl f.length pl ms (lOf k F 0 (r + 1))) (Tl f.length pl ms (lOf k F 0 (r + 1))) (0 * k + r + 1)) := by
              have h := St.set HS5q.out hj mj
              rw [← HTU.out] at h
              show St _ _ _ _ _ _ _ _ _ _ _ _ _ _ _
              rw [HW.out]
              exact h
            clear HW HS5q HTU ca cm cn fz1
            go_upto_region 23 with (go_at_call 12; refine (St.peek HS6.out).mono ?_; rintro e w7 ⟨g7, rfl, hr7, hs7⟩; have HR7 := hid hr7; have HS7 := hid hs7; clear hr7 hs7)
            refine wp_world fun w8 HW => ?_
            have HA8 : Hid (Below w7.heap.size w7 w8) := by show Below _ _ _; rw [HW.out]; exact below_grow (Below.refl _ _) _
            have HF8 : Hid (Row w8 w7.heap.size [.slice (some ⟨g7, 0, none⟩) f.length f.length, .bool (!decide (xorT f (Tl f.length pl ms (lOf k F 0 (r + 1))) = f))] 32) := by show Row _ _ _ _; rw [HW.out]; exact Row.new' _ _ _ _ _ rfl rfl
            have HS8 := hid (HS7.out.kept HA8.out)
            have HR8 := hid (HR7.out.kept HA8.out HR7.out.lt)
            generalize w7.heap.size = fb at *
            clear HW HA8 HR7 HS7 HS6
            have f0 := HF8.out.cell 0 _ rfl
            have f1 := HF8.out.cell 1 _ rfl
            have HSM : Hid (∀ n, Calls Try.prog 14 #[.slice (some ⟨g7, 0, none⟩) f.length f.length, .slice (some ⟨gn, 0, none⟩) f.length capn] (w8.drewN n) fun e w' => e = .returned (.bool true) ∧ w' = w8.drewN n) := fun n => by
              have h := same_any (w := w8.drewN n) (cap := f.length) (cap' := capn) (HR8.out.drewN n).bytes (xorT_len _ _) (HS8.out.now.bytes.drewN n) (xorT_len _ _)
              rwa [decide_eq_true rfl] at h
            have HSM2 : Hid (∀ n, Calls Try.prog 14 #[.slice (some ⟨gn, 0, none⟩) f.length capn, .slice fa f.length capF] (w8.drewN n) fun e w' => e = .returned (.bool (decide (xorT f (Tl f.length pl ms (lOf k F 0 (r + 1))) = f))) ∧ w' = w8.drewN n) := fun n =>
              same_any (w := w8.drewN n) (cap := capn) (cap' := capF) (HS8.out.now.bytes.drewN n) (xorT_len _ _) ((HF.out.kept HS8.out.bel).drewN n) rfl
            generalize decide (xorT f (Tl f.length pl ms (lOf k F 0 (r + 1))) = f) = d at *
            go_quiet (first
              | (go_at_call_of 14 (Value.slice (some ⟨g7, 0, none⟩) f.length f.length); exact Calls.quiet_of_same (HSM.out _))
              | (go_at_call_of 14 (Value.slice (some ⟨gn, 0, none⟩) f.length capn); exact Calls.quiet_of_same (HSM2.out _)))
            obtain ⟨w9, hw9⟩ : ∃ w9, w9 = w8.drewN nq := ⟨_, rfl⟩
            rw [← hw9]
            have HD9 : Hid (Below w8.heap.size w8 w9) := by show Below _ _ _; rw [hw9]; exact below_drewN (Below.refl _ _) _
            clear hw9 f0 f1 HSM HSM2
            go_wp2
            go_roundw
            case rel => exact ⟨r + 1, HRK.out, by go_num, HS8.out.kept HD9.out⟩
            case measure => simp [intOf]; have := HRK.out; omega
          · rw [if_neg hx]
            have HS6 : Hid (St W w4 base p g q gb f c v an tl (Tl f.length pl ms (lOf k F 0 (r + 1))) (Tl f.length pl ms (lOf k F 0 (r + 1))) (0 * k + r + 1)) := by
              have h := HS4.out
              show St _ _ _ _ _ _ _ _ _ _ _ _ _ _ _
              rw [HLS.out, HTN.out]
              unfold ap at h ⊢
              rw [if_neg hx] at h ⊢
              exact h
            clear HS4 cm
            by_cases hx0 : 0 ≤ pj
            · have x1 : decide (pj < (f.length : Int)) = false := decide_eq_false (by omega)
              clear hx
              go_upto_region 23 with (go_at_call 12; refine (St.peek HS6.out).mono ?_; rintro e w7 ⟨g7, rfl, hr7, hs7⟩; have HR7 := hid hr7; have HS7 := hid hs7; clear hr7 hs7)
              refine wp_world fun w8 HW => ?_
              have HA8 : Hid (Below w7.heap.size w7 w8) := by show Below _ _ _; rw [HW.out]; exact below_grow (Below.refl _ _) _
              have HF8 : Hid (Row w8 w7.heap.size [.slice (some ⟨g7, 0, none⟩) f.length f.length, .bool (!decide (xorT f (Tl f.length pl ms (lOf k F 0 (r + 1))) = f))] 32) := by show Row _ _ _ _; rw [HW.out]; exact Row.new' _ _ _ _ _ rfl rfl
              have HS8 := hid (HS7.out.kept HA8.out)
              have HR8 := hid (HR7.out.kept HA8.out HR7.out.lt)
              generalize w7.heap.size = fb at *
              clear HW HA8 HR7 HS7 HS6
              have f0 := HF8.out.cell 0 _ rfl
              have f1 := HF8.out.cell 1 _ rfl
              have HSM : Hid (∀ n, Calls Try.prog 14 #[.slice (some ⟨g7, 0, none⟩) f.length f.length, .slice an f.length capn] (w8.drewN n) fun e w' => e = .returned (.bool true) ∧ w' = w8.drewN n) := fun n => by
                have h := same_any (w := w8.drewN n) (cap := f.length) (cap' := capn) (HR8.out.drewN n).bytes (xorT_len _ _) (HS8.out.now.bytes.drewN n) (xorT_len _ _)
                rwa [decide_eq_true rfl] at h
              have HSM2 : Hid (∀ n, Calls Try.prog 14 #[.slice an f.length capn, .slice fa f.length capF] (w8.drewN n) fun e w' => e = .returned (.bool (decide (xorT f (Tl f.length pl ms (lOf k F 0 (r + 1))) = f))) ∧ w' = w8.drewN n) := fun n =>
                same_any (w := w8.drewN n) (cap := capn) (cap' := capF) (HS8.out.now.bytes.drewN n) (xorT_len _ _) ((HF.out.kept HS8.out.bel).drewN n) rfl
              generalize decide (xorT f (Tl f.length pl ms (lOf k F 0 (r + 1))) = f) = d at *
              go_quiet (first
                | (go_at_call_of 14 (Value.slice (some ⟨g7, 0, none⟩) f.length f.length); exact Calls.quiet_of_same (HSM.out _))
                | (go_at_call_of 14 (Value.slice an f.length capn); exact Calls.quiet_of_same (HSM2.out _)))
              obtain ⟨w9, hw9⟩ : ∃ w9, w9 = w8.drewN nq := ⟨_, rfl⟩
              rw [← hw9]
              have HD9 : Hid (Below w8.heap.size w8 w9) := by show Below _ _ _; rw [hw9]; exact below_drewN (Below.refl _ _) _
              clear hw9 f0 f1 HSM HSM2
              go_wp2
              go_roundw
              case rel => exact ⟨r + 1, HRK.out, by go_num, HS8.out.kept HD9.out⟩
              case measure => simp [intOf]; have := HRK.out; omega
            · have x1 : decide (0 ≤ pj) = false := decide_eq_false hx0
              clear hx
              go_upto_region 23 with (go_at_call 12; refine (St.peek HS6.out).mono ?_; rintro e w7 ⟨g7, rfl, hr7, hs7⟩; have HR7 := hid hr7; have HS7 := hid hs7; clear hr7 hs7)
              refine wp_world fun w8 HW => ?_
              have HA8 : Hid (Below w7.heap.size w7 w8) := by show Below _ _ _; rw [HW.out]; exact below_grow (Below.refl _ _) _
              have HF8 : Hid (Row w8 w7.heap.size [.slice (some ⟨g7, 0, none⟩) f.length f.length, .bool (!decide (xorT f (Tl f.length pl ms (lOf k F 0 (r + 1))) = f))] 32) := by show Row _ _ _ _; rw [HW.out]; exact Row.new' _ _ _ _ _ rfl rfl
              have HS8 := hid (HS7.out.kept HA8.out)
              have HR8 := hid (HR7.out.kept HA8.out HR7.out.lt)
              generalize w7.heap.size = fb at *
              clear HW HA8 HR7 HS7 HS6
              have f0 := HF8.out.cell 0 _ rfl
              have f1 := HF8.out.cell 1 _ rfl
              have HSM : Hid (∀ n, Calls Try.prog 14 #[.slice (some ⟨g7, 0, none⟩) f.length f.length, .slice an f.length capn] (w8.drewN n) fun e w' => e = .returned (.bool true) ∧ w' = w8.drewN n) := fun n => by
                have h := same_any (w := w8.drewN n) (cap := f.length) (cap' := capn) (HR8.out.drewN n).bytes (xorT_len _ _) (HS8.out.now.bytes.drewN n) (xorT_len _ _)
                rwa [decide_eq_true rfl] at h
              have HSM2 : Hid (∀ n, Calls Try.prog 14 #[.slice an f.length capn, .slice fa f.length capF] (w8.drewN n) fun e w' => e = .returned (.bool (decide (xorT f (Tl f.length pl ms (lOf k F 0 (r + 1))) = f))) ∧ w' = w8.drewN n) := fun n =>
                same_any (w := w8.drewN n) (cap := capn) (cap' := capF) (HS8.out.now.bytes.drewN n) (xorT_len _ _) ((HF.out.kept HS8.out.bel).drewN n) rfl
              generalize decide (xorT f (Tl f.length pl ms (lOf k F 0 (r + 1))) = f) = d at *
              go_quiet (first
                | (go_at_call_of 14 (Value.slice (some ⟨g7, 0, none⟩) f.length f.length); exact Calls.quiet_of_same (HSM.out _))
                | (go_at_call_of 14 (Value.slice an f.length capn); exact Calls.quiet_of_same (HSM2.out _)))
              obtain ⟨w9, hw9⟩ : ∃ w9, w9 = w8.drewN nq := ⟨_, rfl⟩
              rw [← hw9]
              have HD9 : Hid (Below w8.heap.size w8 w9) := by show Below _ _ _; rw [hw9]; exact below_drewN (Below.refl _ _) _
              clear hw9 f0 f1 HSM HSM2
              go_wp2
              go_roundw
              case rel => exact ⟨r + 1, HRK.out, by go_num, HS8.out.kept HD9.out⟩
              case measure => simp [intOf]; have := HRK.out; omega
        · have er : r = k := by omega
          have HSE : Hid (St W wr base p g q gb f c v an tl (Tl f.length pl ms (oOf k F (0 + 1))) (Tl f.length pl ms (oOf k F (0 + 1))) ((0 + 1) * k)) := by
            have h := HST.out
            rw [er, lOf_end0, show 0 * k + k = (0 + 1) * k by omega] at h
            exact h
          clear HST er hr
          go_wp2
          go_roundw
          case rel => exact ⟨0 + 1, by omega, by go_num, HSE.out⟩
          case measure => simp [intOf]
    · have HSI : Hid (St W wr base p g q gb f c v an tl (Tl f.length pl ms (lOf k F 1 0)) (Tl f.length pl ms (lOf k F 1 0)) (1 * k + 0)) := HST.out
      clear HST ht
      rw [show ((1 : Nat) : Int) = 1 from rfl]
      go_wp2
      go_loopw [14] (fun i wr => ∃ r : Nat, r ≤ k ∧ i = .int .i64 r ∧ St W wr base p g q gb f c v an tl (Tl f.length pl ms (lOf k F 1 r)) (Tl f.length pl ms (lOf k F 1 r)) (1 * k + r)) (fun i _ => k - (intOf i).toNat)
      case atStart => exact ⟨0, Nat.zero_le _, rfl, HSI.out⟩
      case round =>
        clear HSI
        obtain ⟨r, hr, rfl, hst⟩ := hrel
        have HST := hid hst
        clear hst
        by_cases hrk : r < k
        · have l1 : (r : Int) < (k : Int) := by omega
          have HRK := hid hrk
          obtain ⟨J, hJ⟩ : ∃ J : Nat, J = (F + r) % k := ⟨_, rfl⟩
          have ej : wrap64 ((IntKind.u64.wrap ((IntKind.u64.wrap x).tmod (k : Int) + (r : Int))).tmod (k : Int)) = (J : Int) := by rw [hJ, HFD.out]; exact idx_two x k r hrk HK.out
          have HLS : Hid (lOf k F 1 (r + 1) = lOf k F 1 r ++ [J]) := by show _ = _; rw [hJ]; exact lOf_snoc k F 1 r (by decide)
          have hjk : J < k := by rw [hJ]; exact Nat.mod_lt _ (by omega)
          clear hJ
          have HTN := hid (Tl_snoc f.length pl ms (lOf k F 1 r) J)
          obtain ⟨ga, oa, rfl, ca⟩ := ints_at HA.out (j := J) (by rw [HPL.out]; exact Nat.lt_of_lt_of_le hjk HKA.out)
          obtain ⟨gm, om, rfl, cm⟩ := bytes_at HM.out (j := J) (by rw [HMS.out]; exact Nat.lt_of_lt_of_le hjk HKM.out)
          have la : (J : Int) < (nA : Int) := by have := HKA.out; omega
          have lm : (J : Int) < (nM : Int) := by have := HKM.out; omega
          have l0 : (0 : Int) ≤ (J : Int) := by omega
          have HBN : Hid (1 * k + r < 281474976710656) := by show _ < _; have := HK.out; omega
          generalize pl.getD J 0 = pj at *
          generalize ms.getD J 0 = mj at *
          have HCA := hid ca
          have HCM := hid cm
          clear ca cm hrk hr hjk
          go_upto_region 17 with (fail)
          refine wp_region_still_tail 9 (by kernel_rfl) (by kernel_rfl) ?_
          have HS2 := hid (HST.out.kept (below_drawn (Below.refl wr.heap.size wr) (wr.drawn + 1)))
          generalize ({ wr with drawn := wr.drawn + 1 } : World) = wq at *
          have ca := cell_kept HS2.out.bel HCA.out
          have cm := cell_kept HS2.out.bel HCM.out
          clear HST
          simp only [List.take_succ_cons, List.take_zero, List.drop_succ_cons, List.drop_zero]
          iterate 9 still_step
          refine wpStill_nil ?_
          go_upto_region 18 with (go_at_call 17; refine (St.spoil HS2.out HBN.out pj mj).mono ?_; rintro e w4 ⟨rfl, hs4⟩; have HS4 := hid hs4; clear hs4)
          clear HS2 ca cm
          have ca := cell_kept HS4.out.bel HCA.out
          have cm := cell_kept HS4.out.bel HCM.out
          by_cases hx : 0 ≤ pj ∧ pj < (f.length : Int)
          · rw [if_pos hx]
            obtain ⟨j, rfl⟩ := Int.eq_ofNat_of_zero_le hx.1
            have hj : j < f.length := by omega
            have HTU : Hid (Tl f.length pl ms (lOf k F 1 (r + 1)) = turnT (Tl f.length pl ms (lOf k F 1 r)) j mj) := by show _ = _; rw [HLS.out, HTN.out]; unfold ap; rw [if_pos hx, Int.toNat_natCast]
            have HS5 : Hid (St W w4 base p g q gb f c v an tl (Tl f.length pl ms (lOf k F 1 (r + 1))) (Tl f.length pl ms (lOf k F 1 r)) (1 * k + r + 1)) := by show St _ _ _ _ _ _ _ _ _ _ _ _ _ _ _; rw [HLS.out, HTN.out]; exact HS4.out
            obtain ⟨gn, rfl, cn, fz⟩ := St.cell HS5.out hj
            have fz1 := fz j
            have x0 : (0 : Int) ≤ (j : Int) := by omega
            have x1 : (j : Int) < (f.length : Int) := by omega
            clear HS4 fz hx
            go_upto_region 21 with (fail)
            refine wp_region_still_tail 18 (by kernel_rfl) (by kernel_rfl) ?_
            have HS5q := hid (HS5.out.kept (below_drawn (Below.refl w4.heap.size w4) (w4.drawn + 1)))
            replace ca := cell_drawn (w4.drawn + 1) ca
            replace cm := cell_drawn (w4.drawn + 1) cm
            replace cn := cell_drawn (w4.drawn + 1) cn
            replace fz1 := frozen_drawn (w4.drawn + 1) fz1
            generalize ({ w4 with drawn := w4.drawn + 1 } : World) = w5 at *
            clear HS5
            simp only [List.take_succ_cons, List.take_zero, List.drop_succ_cons, List.drop_zero]
            iterate 18 still_step
            refine wpStill_nil ?_
            go_upto_region 22 with (fail)
            refine wp_world fun w6 HW => ?_
            have HS6 : Hid (St W w6 base p g q gb f c v (some ⟨gn, 0, none⟩) tl (Tl f.length pl ms (lOf k F 1 (r + 1))) (Tl f.length pl ms (lOf k F 1 (r + 1))) (1 * k + r + 1)) := by
              have h := St.set HS5q.out hj mj
              rw [← HTU.out] at h
              show St _ _ _ _ _ _ _ _ _ _ _ _ _ _ _
              rw [HW.out]
              exact h
            clear HW HS5q HTU ca cm cn fz1
            go_upto_region 23 with (go_at_call 12; refine (St.peek HS6.out).mono ?_; rintro e w7 ⟨g7, rfl, hr7, hs7⟩; have HR7 := hid hr7; have HS7 := hid hs7; clear hr7 hs7)
            refine wp_world fun w8 HW => ?_
            have HA8 : Hid (Below w7.heap.size w7 w8) := by show Below _ _ _; rw [HW.out]; exact below_grow (Below.refl _ _) _
            have HF8 : Hid (Row w8 w7.heap.size [.slice (some ⟨g7, 0, none⟩) f.length f.length, .bool (!decide (xorT f (Tl f.length pl ms (lOf k F 1 (r + 1))) = f))] 32) := by show Row _ _ _ _; rw [HW.out]; exact Row.new' _ _ _ _ _ rfl rfl
            have HS8 := hid (HS7.out.kept HA8.out)
            have HR8 := hid (HR7.out.kept HA8.out HR7.out.lt)
            generalize w7.heap.size = fb at *
            clear HW HA8 HR7 HS7 HS6
            have f0 := HF8.out.cell 0 _ rfl
            have f1 := HF8.out.cell 1 _ rfl
            have HSM : Hid (∀ n, Calls Try.prog 14 #[.slice (some ⟨g7, 0, none⟩) f.length f.length, .slice (some ⟨gn, 0, none⟩) f.length capn] (w8.drewN n) fun e w' => e = .returned (.bool true) ∧ w' = w8.drewN n) := fun n => by
              have h := same_any (w := w8.drewN n) (cap := f.length) (cap' := capn) (HR8.out.drewN n).bytes (xorT_len _ _) (HS8.out.now.bytes.drewN n) (xorT_len _ _)
              rwa [decide_eq_true rfl] at h
            have HSM2 : Hid (∀ n, Calls Try.prog 14 #[.slice (some ⟨gn, 0, none⟩) f.length capn, .slice fa f.length capF] (w8.drewN n) fun e w' => e = .returned (.bool (decide (xorT f (Tl f.length pl ms (lOf k F 1 (r + 1))) = f))) ∧ w' = w8.drewN n) := fun n =>
              same_any (w := w8.drewN n) (cap := capn) (cap' := capF) (HS8.out.now.bytes.drewN n) (xorT_len _ _) ((HF.out.kept HS8.out.bel).drewN n) rfl
            generalize decide (xorT f (Tl f.length pl ms (lOf k F 1 (r + 1))) = f) = d at *
            go_quiet (first
              | (go_at_call_of 14 (Value.slice (some ⟨g7, 0, none⟩) f.length f.length); exact Calls.quiet_of_same (HSM.out _))
              | (go_at_call_of 14 (Value.slice (some ⟨gn, 0, none⟩) f.length capn); exact Calls.quiet_of_same (HSM2.out _)))
            obtain ⟨w9, hw9⟩ : ∃ w9, w9 = w8.drewN nq := ⟨_, rfl⟩
            rw [← hw9]
            have HD9 : Hid (Below w8.heap.size w8 w9) := by show Below _ _ _; rw [hw9]; exact below_drewN (Below.refl _ _) _
            clear hw9 f0 f1 HSM HSM2
            go_wp2
            go_roundw
            case rel => exact ⟨r + 1, HRK.out, by go_num, HS8.out.kept HD9.out⟩
            case measure => simp [intOf]; have := HRK.out; omega
          · rw [if_neg hx]
            have HS6 : Hid (St W w4 base p g q gb f c v an tl (Tl f.length pl ms (lOf k F 1 (r + 1))) (Tl f.length pl ms (lOf k F 1 (r + 1))) (1 * k + r + 1)) := by
              have h := HS4.out
              show St _ _ _ _ _ _ _ _ _ _ _ _ _ _ _
              rw [HLS.out, HTN.out]
              unfold ap at h ⊢
              rw [if_neg hx] at h ⊢
              exact h
            clear HS4 cm
            by_cases hx0 : 0 ≤ pj
            · have x1 : decide (pj < (f.length : Int)) = false := decide_eq_false (by omega)
              clear hx
              go_upto_region 23 with (go_at_call 12; refine (St.peek HS6.out).mono ?_; rintro e w7 ⟨g7, rfl, hr7, hs7⟩; have HR7 := hid hr7; have HS7 := hid hs7; clear hr7 hs7)
              refine wp_world fun w8 HW => ?_
              have HA8 : Hid (Below w7.heap.size w7 w8) := by show Below _ _ _; rw [HW.out]; exact below_grow (Below.refl _ _) _
              have HF8 : Hid (Row w8 w7.heap.size [.slice (some ⟨g7, 0, none⟩) f.length f.length, .bool (!decide (xorT f (Tl f.length pl ms (lOf k F 1 (r + 1))) = f))] 32) := by show Row _ _ _ _; rw [HW.out]; exact Row.new' _ _ _ _ _ rfl rfl
              have HS8 := hid (HS7.out.kept HA8.out)
              have HR8 := hid (HR7.out.kept HA8.out HR7.out.lt)
              generalize w7.heap.size = fb at *
              clear HW HA8 HR7 HS7 HS6
              have f0 := HF8.out.cell 0 _ rfl
              have f1 := HF8.out.cell 1 _ rfl
              have HSM : Hid (∀ n, Calls Try.prog 14 #[.slice (some ⟨g7, 0, none⟩) f.length f.length, .slice an f.length capn] (w8.drewN n) fun e w' => e = .returned (.bool true) ∧ w' = w8.drewN n) := fun n => by
                have h := same_any (w := w8.drewN n) (cap := f.length) (cap' := capn) (HR8.out.drewN n).bytes (xorT_len _ _) (HS8.out.now.bytes.drewN n) (xorT_len _ _)
                rwa [decide_eq_true rfl] at h
              have HSM2 : Hid (∀ n, Calls Try.prog 14 #[.slice an f.length capn, .slice fa f.length capF] (w8.drewN n) fun e w' => e = .returned (.bool (decide (xorT f (Tl f.length pl ms (lOf k F 1 (r + 1))) = f))) ∧ w' = w8.drewN n) := fun n =>
                same_any (w := w8.drewN n) (cap := capn) (cap' := capF) (HS8.out.now.bytes.drewN n) (xorT_len _ _) ((HF.out.kept HS8.out.bel).drewN n) rfl
              generalize decide (xorT f (Tl f.length pl ms (lOf k F 1 (r + 1))) = f) = d at *
              go_quiet (first
                | (go_at_call_of 14 (Value.slice (some ⟨g7, 0, none⟩) f.length f.length); exact Calls.quiet_of_same (HSM.out _))
                | (go_at_call_of 14 (Value.slice an f.length capn); exact Calls.quiet_of_same (HSM2.out _)))
              obtain ⟨w9, hw9⟩ : ∃ w9, w9 = w8.drewN nq := ⟨_, rfl⟩
              rw [← hw9]
              have HD9 : Hid (Below w8.heap.size w8 w9) := by show Below _ _ _; rw [hw9]; exact below_drewN (Below.refl _ _) _
              clear hw9 f0 f1 HSM HSM2
              go_wp2
              go_roundw
              case rel => exact ⟨r + 1, HRK.out, by go_num, HS8.out.kept HD9.out⟩
              case measure => simp [intOf]; have := HRK.out; omega
            · have x1 : decide (0 ≤ pj) = false := decide_eq_false hx0
              clear hx
              go_upto_region 23 with (go_at_call 12; refine (St.peek HS6.out).mono ?_; rintro e w7 ⟨g7, rfl, hr7, hs7⟩; have HR7 := hid hr7; have HS7 := hid hs7; clear hr7 hs7)
              refine wp_world fun w8 HW => ?_
              have HA8 : Hid (Below w7.heap.size w7 w8) := by show Below _ _ _; rw [HW.out]; exact below_grow (Below.refl _ _) _
              have HF8 : Hid (Row w8 w7.heap.size [.slice (some ⟨g7, 0, none⟩) f.length f.length, .bool (!decide (xorT f (Tl f.length pl ms (lOf k F 1 (r + 1))) = f))] 32) := by show Row _ _ _ _; rw [HW.out]; exact Row.new' _ _ _ _ _ rfl rfl
              have HS8 := hid (HS7.out.kept HA8.out)
              have HR8 := hid (HR7.out.kept HA8.out HR7.out.lt)
              generalize w7.heap.size = fb at *
              clear HW HA8 HR7 HS7 HS6
              have f0 := HF8.out.cell 0 _ rfl
              have f1 := HF8.out.cell 1 _ rfl
              have HSM : Hid (∀ n, Calls Try.prog 14 #[.slice (some ⟨g7, 0, none⟩) f.length f.length, .slice an f.length capn] (w8.drewN n) fun e w' => e = .returned (.bool true) ∧ w' = w8.drewN n) := fun n => by
                have h := same_any (w := w8.drewN n) (cap := f.length) (cap' := capn) (HR8.out.drewN n).bytes (xorT_len _ _) (HS8.out.now.bytes.drewN n) (xorT_len _ _)
                rwa [decide_eq_true rfl] at h
              have HSM2 : Hid (∀ n, Calls Try.prog 14 #[.slice an f.length capn, .slice fa f.length capF] (w8.drewN n) fun e w' => e = .returned (.bool (decide (xorT f (Tl f.length pl ms (lOf k F 1 (r + 1))) = f))) ∧ w' = w8.drewN n) := fun n =>
                same_any (w := w8.drewN n) (cap := capn) (cap' := capF) (HS8.out.now.bytes.drewN n) (xorT_len _ _) ((HF.out.kept HS8.out.bel).drewN n) rfl
              generalize decide (xorT f (Tl f.length pl ms (lOf k F 1 (r + 1))) = f) = d at *
              go_quiet (first
                | (go_at_call_of 14 (Value.slice (some ⟨g7, 0, none⟩) f.length f.length); exact Calls.quiet_of_same (HSM.out _))
                | (go_at_call_of 14 (Value.slice an f.length capn); exact Calls.quiet_of_same (HSM2.out _)))
              obtain ⟨w9, hw9⟩ : ∃ w9, w9 = w8.drewN nq := ⟨_, rfl⟩
              rw [← hw9]
              have HD9 : Hid (Below w8.heap.size w8 w9) := by show Below _ _ _; rw [hw9]; exact below_drewN (Below.refl _ _) _
              clear hw9 f0 f1 HSM HSM2
              go_wp2
              go_roundw
              case rel => exact ⟨r + 1, HRK.out, by go_num, HS8.out.kept HD9.out⟩
              case measure => simp [intOf]; have := HRK.out; omega
        · have er : r = k := by omega
          have HSE : Hid (St W wr base p g q gb f c v an tl (Tl f.length pl ms (oOf k F (1 + 1))) (Tl f.length pl ms (oOf k F (1 + 1))) ((1 + 1) * k)) := by
            have h := HST.out
            rw [er, lOf_end1, show 1 * k + k = (1 + 1) * k by omega] at h
            exact h
          clear HST er hr
          go_wp2
          go_roundw
          case rel => exact ⟨1 + 1, by omega, by go_num, HSE.out⟩
          case measure => simp [intOf]
    · have HT0 : Hid (xorT f (Tl f.length pl ms (oOf k F 2)) = f) := xorT_zero fun j _ => by
        by_cases hk0 : k = 0
        · subst hk0; rfl
        · exact Tl_heals f.length pl ms k F (by rw [HFD.out]; exact Nat.mod_lt _ (by omega)) j
      have HTK := hid (St.take HST.out)
      rw [HT0.out, decide_eq_true rfl] at HTK
      go_upto_region 26 with (go_at_call 13; refine Calls.mono HTK.out ?_; rintro e w7 ⟨g7, rfl, hr7, hb7⟩; have HR7 := hid hr7; have HB7 := hid hb7; clear hr7 hb7)
      refine wp_world fun w8 HW => ?_
      have HA8 : Hid (Below w7.heap.size w7 w8) := by show Below _ _ _; rw [HW.out]; exact below_grow (Below.refl _ _) _
      have HF8 : Hid (Row w8 w7.heap.size [.slice (some ⟨g7, 0, none⟩) f.length f.length, .bool false] 32) := by show Row _ _ _ _; rw [HW.out]; exact Row.new' _ _ _ _ _ rfl rfl
      have HB8 := hid (HB7.out.trans (HA8.out.mono HB7.out.size))
      have HR8 := hid (HR7.out.kept HA8.out HR7.out.lt)
      generalize w7.heap.size = fb at *
      clear HW HA8 HR7 HB7 HST HTK
      have f0 := HF8.out.cell 0 _ rfl
      have f1 := HF8.out.cell 1 _ rfl
      have HSM : Hid (Calls Try.prog 14 #[.slice (some ⟨g7, 0, none⟩) f.length f.length, .slice fa f.length capF] w8 fun e w' => e = .returned (.bool true) ∧ w' = w8) := by
        have h := same_any (w := w8) (cap := f.length) (cap' := capF) HR8.out.bytes rfl (HF.out.kept HB8.out) rfl
        rw [decide_eq_true rfl] at h
        exact h
      have HAV := hid (alive_any w8)
      go_wp2_with (first
        | (go_at_call 14; refine Calls.mono HSM.out ?_; rintro e w9 ⟨rfl, rfl⟩)
        | (go_at_call 16; refine Calls.mono HAV.out ?_; rintro e w10 ⟨rfl, hb10⟩; have HB10 := hid (HB8.out.trans (hb10.mono HB8.out.size)); clear hb10))
      go_ret
      exact ⟨rfl, HB10.out⟩
end Go.Proofs.Ytjnmfedefmemnaa
