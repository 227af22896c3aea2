import Derived.Test.YtjbjaklbckhodaaMeets1
import Derived.Test.YtjbjaklbckhodaaGaps
import Derived.Deep.CutRange
import Derived.Lib.QuietBelow
namespace Go.Proofs.Ytjbjaklbckhodaa
open Go.RowKit Go.Sort

set_option maxRecDepth 100000 in
set_option maxHeartbeats 2000000 in
theorem meets_any {w : World} {a b : Option Addr} {cap cb : Nat} {A B : List Rg} (CA : Cells w a A) (CB : Cells w b B) (hf : A.length + B.length ≤ 1048576) (hwA : ∀ r ∈ A, 0 ≤ r.1 ∧ r.2 ≤ 18446744073709551615) (hwB : ∀ r ∈ B, 0 ≤ r.1 ∧ r.2 ≤ 18446744073709551615) :
    Calls Try.prog 8 #[.slice a A.length cap, .slice b B.length cb] w fun e w' => e = .returned (.bool true) ∧ Below w.heap.size w w' := by
  have hN := new_any sort_any (cap := cap) CA (by omega) hwA
  have HCB : Hid _ := CB
  have HWA : Hid _ := hwA
  have HWB : Hid _ := hwB
  clear CA CB hwA hwB
  have HAW : Hid _ := fun w => awake_any sort_any w
  go_enter Try.func8, Try.ntmps8
  go_wp2_with fail
  refine hN.mono ?_
  rintro e w1 ⟨p, rfl, vs, A', hP, hO, hb1⟩
  obtain ⟨hF, hL⟩ := addAll_fit A' (fun r hr => HWA.out r (hP.mem_iff.1 hr)) A'.length (Nat.le_refl _)
  rw [List.take_length, hP.length_eq] at hL
  rw [List.take_length] at hF
  generalize addAll A' = S at *
  have HFS : Hid (Fit S) := hF
  have hLS := hL
  have HO1 : Hid _ := hO
  have HB1 : Hid _ := hb1
  have HLT : Hid _ := hO.set.lt
  have HS1 : Hid ((S.length + 1) * 16 ≤ 140737488355328) := by show _ ≤ _; omega
  have HS2 : Hid ((S.length + 2) * 16 ≤ 140737488355328) := by show _ ≤ _; omega
  clear hP hO hb1 hN hF hL HWA
  have hN2 := new_any sort_any (w := w1) (cap := cb) (HCB.out.kept HB1.out) (by omega) HWB.out
  go_wp2_with fail
  refine hN2.mono ?_
  rintro e w2 ⟨q, rfl, vt, B', hP, hO, hb2⟩
  obtain ⟨hF, hL⟩ := addAll_fit B' (fun r hr => HWB.out r (hP.mem_iff.1 hr)) B'.length (Nat.le_refl _)
  rw [List.take_length, hP.length_eq] at hL
  rw [List.take_length] at hF
  generalize addAll B' = T at *
  have HFT : Hid (Fit T) := hF
  have hLT := hL
  have HT1 : Hid ((T.length + 1) * 16 ≤ 140737488355328) := by show _ ≤ _; omega
  have HT0 : Hid (T.length * 16 ≤ 140737488355328) := by show _ ≤ _; omega
  have HO2 : Hid _ := HO1.out.kept hb2
  have HT2 : Hid _ := hO
  have HB2 : Hid _ := HB1.out.trans (hb2.mono HB1.out.size)
  clear hP hO hb2 hN2 hF hL HWB HCB HO1 HB1
  go_wp2_with fail
  refine Calls.mono (HAW.out w2) ?_
  rintro e w3 ⟨rfl, hb⟩
  have HO3 : Hid _ := HO2.out.kept hb
  have HT3 : Hid _ := HT2.out.kept hb
  have HB3 : Hid _ := HB2.out.trans (hb.mono HB2.out.size)
  clear hb HO2 HT2 HB2 HAW
  obtain ⟨as', cs, rfl, Vs⟩ := HO3.out.set.view HS1.out
  obtain ⟨at', ct, rfl, Vt⟩ := HT3.out.set.view HT1.out
  have HVs : Hid _ := Vs
  have HVt : Hid _ := Vt
  clear Vs Vt
  have HSO : Hid _ := meet_so HFS.out HFT.out
  go_wp2_with fail
  refine (ranges_any HVt.out HT0.out).mono ?_
  rintro e w4 ⟨g, rfl, hg, hr, hb⟩
  have HO4 : Hid _ := HO3.out.kept hb
  have HT4 : Hid _ := HT3.out.kept hb
  have HB4 : Hid _ := HB3.out.trans (hb.mono HB3.out.size)
  have HV4 : Hid _ := HVs.out.kept hb
  have HR4 : Hid _ := hr
  clear hb hr HO3 HT3 HB3 HVs HVt hg
  go_wp2_with fail
  go_loopg [7, 36] T.length (fun kx n i wr => ∃ k : Nat, k ≤ T.length ∧ T.length - k ≤ kx ∧ i = .int .i64 k ∧ n = .int .u64 (bothK S T k) ∧ Below w4.heap.size w4 wr)
  case atStart => exact ⟨0, Nat.zero_le _, by omega, rfl, rfl, Below.refl _ _⟩
  case round =>
    obtain ⟨k, hk, hkx, rfl, rfl, hb⟩ := hrel
    have HBr : Hid _ := hb
    clear hb
    by_cases hlt : k < T.length
    · have hki : (k : Int) < (T.length : Int) := by omega
      have hrow : wr.heap[g]? = some (.cells (flat T).toArray 29 (0, 0)) := by rw [HBr.out.block g (Array.getElem?_eq_some_iff.1 HR4.out).1]; exact HR4.out
      obtain ⟨e1, e2⟩ := row_pair hrow k hlt
      have hm := HSO.out k hk
      have hm2 := HSO.out (k + 1) hlt
      have hbk : bothK S T (k + 1) = bothK S T k + total (clipL S T[k]) := by rw [bothK, nth_eq hlt]
      have ht := HFT.out.at k hlt
      have hts := total_snoc T k hlt
      have htb := total_bd T HFT.out (k + 1) hlt
      have hn1 := hm.nonneg
      have hn2 := hm.le
      have HME : Hid _ := missL_each HFS.out T[k] (by omega)
      have HMT : Hid _ := missL_total HFS.out T[k] ht.1 (by omega) ht.2.2
      have HFR : Hid (freshOf S T[k] = T[k].2 - T[k].1 - total (clipL S T[k])) := by show _ = _; unfold freshOf; rw [if_neg (by omega)]
      have hcb := clipL_total_bd HFS.out T[k] ht.1 ht.2.1 ht.2.2
      have hMi := missing_any T[k] ht.1 (by omega) HS2.out ((HV4.out.kept HBr.out).kept (below_box wr (.cells #[.int .u64 T[k].1, .int .u64 T[k].2] 29))) HFS.out
      clear hrow hm hm2
      generalize T[k] = r at *
      obtain ⟨rl, rh⟩ := r
      simp only at e1 e2 ht hts hMi HFR hcb
      rw [hts] at htb
      have HBK : Hid _ := hbk
      have HMI : Hid _ := hMi
      clear hbk hts hMi
      generalize bothK S T k = bk at *
      generalize total (T.take k) = tt at *
      generalize total (clipL S (rl, rh)) = tc at *
      have HBB : Hid _ := HBr.out.trans ((below_box wr (.cells #[.int .u64 rl, .int .u64 rh] 29)).mono HBr.out.size)
      have hwr1 : IntKind.u64.wrap (rh - rl) = rh - rl := by rw [IntKind.wrap_u64]; omega
      have hwr2 : IntKind.u64.wrap (bk + (rh - rl)) = bk + (rh - rl) := by rw [IntKind.wrap_u64]; omega
      go_wp2_with fail
      refine Calls.mono HMI.out ?_
      rintro e w5 ⟨v5, rfl, hown, hb⟩
      obtain ⟨a5, c5, rfl, hcel⟩ := owns_shape hown
      have HB5 : Hid _ := HBB.out.trans (hb.mono HBB.out.size)
      have HCEL : Hid _ := hcel
      clear hb hown hcel HBB HMI hwr1 hwr2 e1 e2
      generalize missL S (rl, rh) = N at *
      have hNl := HME.out.2.2
      go_wp2_with fail
      go_loopg [7, 51] N.length (fun jx n i ws => ∃ j : Nat, j ≤ N.length ∧ N.length - j ≤ jx ∧ i = .int .i64 j ∧ n = .int .u64 (bk + (rh - rl) - total (N.take j)) ∧ Below w5.heap.size w5 ws)
      case atStart => exact ⟨0, Nat.zero_le _, by omega, rfl, by simp [total], Below.refl _ _⟩
      case round =>
        obtain ⟨j, hj, hjx, rfl, rfl, hb⟩ := hrel
        have HBs : Hid _ := hb
        clear hb
        have htk := total_take (fun m hm => by have := HME.out.1 m hm; omega) j hj
        by_cases hjl : j < N.length
        · have hji : (j : Int) < (N.length : Int) := by omega
          obtain ⟨gn, rfl, c1, c2⟩ := HCEL.out j hjl
          have e1 := cell_kept HBs.out c1
          have e2 := cell_kept HBs.out c2
          have hs := total_snoc N j hjl
          have htk2 := total_take (fun m hm => by have := HME.out.1 m hm; omega) (j + 1) hjl
          have hm := HME.out.1 N[j] (List.getElem_mem hjl)
          have htn := HMT.out
          rw [HFR.out] at htn
          rw [hs] at htk2
          clear c1 c2
          generalize N[j] = m at *
          obtain ⟨ml, mh⟩ := m
          simp only at e1 e2 hs hm htk2
          have HS : Hid _ := hs
          clear hs
          generalize total (N.take j) = t at *
          generalize total N = tn at *
          have hwr1 : IntKind.u64.wrap (mh - ml) = mh - ml := by rw [IntKind.wrap_u64]; omega
          have hwr2 : IntKind.u64.wrap (bk + (rh - rl) - t - (mh - ml)) = bk + (rh - rl) - t - (mh - ml) := by rw [IntKind.wrap_u64]; omega
          go_wp2_with fail
          go_roundg (N.length - (j + 1))
          case measure => omega
          case rel => exact ⟨j + 1, hjl, Nat.le_refl _, by go_num, by rw [HS.out]; go_num, HBs.out.alloc HBs.out.size _⟩
        · obtain rfl : j = N.length := by omega
          have hji : ¬ (N.length : Int) < (N.length : Int) := by omega
          have HE : Hid (bk + (rh - rl) - total N = bothK S T (k + 1)) := by
            show _ = _
            rw [HMT.out, HFR.out, HBK.out]
            omega
          go_wp2_with fail
          go_roundg (T.length - (k + 1))
          case measure => omega
          case rel => exact ⟨k + 1, hlt, Nat.le_refl _, by go_num, by rw [HE.out], HB5.out.trans (HBs.out.mono HB5.out.size)⟩
    · obtain rfl : k = T.length := by omega
      have hki : ¬ (T.length : Int) < (T.length : Int) := by omega
      obtain ⟨wr_, hwr_⟩ : ∃ wr_ : World, wr_ = wr := ⟨_, rfl⟩
      subst hwr_
      have HO5 : Hid _ := HO4.out.kept HBr.out
      have HT5 : Hid _ := HT4.out.kept HBr.out
      have HB5 : Hid _ := HB4.out.trans (HBr.out.mono HB4.out.size)
      have HV5 : Hid _ := HV4.out.kept HBr.out
      clear HO4 HT4 HB4 HV4 HBr HR4
      have HS0 : Hid (S.length * 16 ≤ 140737488355328) := by have := HS1.out; show _ ≤ _; omega
      go_wp2_with fail
      refine (copy_any HV5.out HS0.out).mono ?_
      rintro e w6 ⟨u, rfl, vu, hOu, hb⟩
      have HO6 : Hid _ := HO5.out.kept hb
      have HT6 : Hid _ := HT5.out.kept hb
      have HB6 : Hid _ := HB5.out.trans (hb.mono HB5.out.size)
      have HU6 : Hid _ := hOu
      have HLU : Hid _ := hb.size
      clear hOu hb HV5
      obtain ⟨at6, ct6, et6, Vt⟩ := HT6.out.set.view HT1.out
      have HVt : Hid _ := Vt
      clear Vt
      go_wp2_with fail
      refine (ranges_any HVt.out HT0.out).mono ?_
      rintro e w7 ⟨g7, rfl, hg7, hr7, hb⟩
      have hls := HO5.out.set.lt
      have hlt5 := HT5.out.set.lt
      have hlu := HU6.out.set.lt
      have hau := HU6.out.at_
      have hru := HU6.out.row
      have HLS5 : Hid _ := hls
      have HO7 : Hid _ := HO6.out.kept hb
      have HT7 : Hid _ := HT6.out.kept hb
      have HU7 : Hid _ := HU6.out.kept hb
      have HB7 : Hid _ := HB6.out.trans (hb.mono HB6.out.size)
      have HR7 : Hid _ := hr7
      have HSU : Hid (∀ (X : World) v', Turned w7 X u vu v' → SetAt X p (.slice as' S.length cs) S ∧ SetAt X q (.slice at' T.length ct) T ∧ X.heap[g7]? = some (.cells (flat T).toArray 29 (0, 0))) := by
        intro X v' hT
        refine ⟨HO7.out.set.other hT (by omega) (fun e => ?_) (fun x hx => ⟨?_, fun e => ?_⟩), HT7.out.set.other hT (by omega) (fun e => ?_) (fun x hx => ⟨?_, fun e => ?_⟩), ?_⟩
        · have := hru _ e.symm; omega
        · have := hls.2 x hx; omega
        · have := hru _ e.symm; have := hls.2 x hx; omega
        · have := hru _ e.symm; omega
        · have := hlt5.2 x hx; omega
        · have := hru _ e.symm; have := hlt5.2 x hx; omega
        · rw [hT.block g7 (Array.getElem?_eq_some_iff.1 hr7).1 (by omega) (fun e => by have := hlu.2 _ e.symm; omega)]
          exact hr7
      clear hb hr7 HO5 HT5 HB5 HO6 HT6 HU6 HB6 HVt hls hlt5 hlu hau hru HLU
      go_wp2_with fail
      go_loopg [13, 71] T.length (fun kx n i wx => ∃ (k : Nat) (v : Value), k ≤ T.length ∧ T.length - k ≤ kx ∧ i = .int .i64 k ∧ n = .int .u64 (total (addK S T k) - total S) ∧ SetAt wx u v (addK S T k) ∧ Turned w7 wx u vu v)
      case atStart => exact ⟨0, vu, Nat.zero_le _, by omega, rfl, by simp [addK], HU7.out.set, Turned.refl _ _ _⟩
      case round =>
        obtain ⟨k, v, hk, hkx, rfl, rfl, hS, hT⟩ := hrel
        have HS : Hid _ := hS
        have HT : Hid _ := hT
        clear hS hT
        have hm := HSO.out k hk
        have hmU := hm.sumU
        have hmle := hm.le
        by_cases hlt : k < T.length
        · have hki : (k : Int) < (T.length : Int) := by omega
          obtain ⟨e1, e2⟩ := row_pair (HSU.out _ _ HT.out).2.2 k hlt
          have ht := HFT.out.at k hlt
          have hm2 := HSO.out (k + 1) hlt
          have hu2 := hm2.sumU
          have hle2 := hm2.le
          have htf := total_fit hm2.fitU
          have htS := total_fit HFS.out
          have hAT := addL_total hm.fitU T[k] ht.1 ht.2.2
          have hmU' := hm.lenU
          have hA := add_any (HS.out.kept (below_box wr (.cells #[.int .u64 T[k].1, .int .u64 T[k].2] 29))) hm.fitU (by omega) T[k] ht.1 ht.2.2
          rw [← addK_succ S T k hlt] at hA hAT
          clear hm hm2
          generalize T[k] = r at *
          obtain ⟨rl, rh⟩ := r
          simp only at e1 e2 ht hA
          have HA : Hid _ := hA
          have HAT : Hid _ := hAT
          clear hA
          generalize total (addK S T k) = tu at *
          generalize hu2e : total (addK S T (k + 1)) = tu2 at *
          generalize total S = ts at *
          generalize freshOf (addK S T k) (rl, rh) = fr at *
          have hwr : IntKind.u64.wrap (tu - ts + fr) = tu - ts + fr := by rw [IntKind.wrap_u64]; omega
          go_wp2_with fail
          refine Calls.mono HA.out ?_
          rintro e wy ⟨rfl, v', hS', hT'⟩
          have HS' : Hid _ := hS'
          have HT' : Hid _ := HT.out.trans ((Turned.of_below u v (below_box wr (.cells #[.int .u64 rl, .int .u64 rh] 29))).trans hT')
          clear hS' hT' HA HS HT e1 e2
          go_wp2_with fail
          go_roundg (T.length - (k + 1))
          case measure => omega
          case rel => exact ⟨k + 1, v', hlt, Nat.le_refl _, by go_num, by rw [hu2e, HAT.out]; go_num, HS'.out, HT'.out⟩
        · obtain rfl : k = T.length := by omega
          have hki : ¬ (T.length : Int) < (T.length : Int) := by omega
          obtain ⟨hSs, hSt, _⟩ := HSU.out _ _ HT.out
          obtain ⟨au, cu, rfl, Vu⟩ := HS.out.view (by have := hm.lenU; omega)
          obtain ⟨as2, cs2, es2, Vs⟩ := hSs.view HS1.out
          obtain ⟨at2, ct2, et2, Vt⟩ := hSt.view HT1.out
          have HFU : Hid (Fit (addK S T T.length)) := hm.fitU
          have htS := total_fit HFS.out
          have htU := total_fit hm.fitU
          have htT := total_fit HFT.out
          rw [List.take_length] at hmU hmle
          have hnb := hm.nonneg
          have HVu : Hid _ := Vu
          have HVs : Hid _ := Vs
          have HVt : Hid _ := Vt
          have HSs : Hid _ := hSs
          have HSt : Hid _ := hSt
          have HTU : Hid _ := HT.out
          have HSU' : Hid _ := HS.out
          have HSUw : Hid _ := HS.out
          have HLW : Hid (w7.heap.size ≤ wr.heap.size) := HT.out.size
          clear hm Vu Vs Vt hSs hSt HS HT es2 et2
          go_wp2_with fail
          refine (count_any HVu.out HFU.out).mono ?_
          rintro e y1 ⟨rfl, hb⟩
          have HVu1 : Hid _ := HVu.out.kept hb
          have HVs1 : Hid _ := HVs.out.kept hb
          have HVt1 : Hid _ := HVt.out.kept hb
          have HSs1 : Hid _ := HSs.out.kept hb
          have HSt1 : Hid _ := HSt.out.kept hb
          have HSu1 : Hid _ := HSU'.out.kept hb
          have HY1 : Hid _ := hb
          clear hb HVu HVs HVt HSs HSt HSU'
          go_wp2_with fail
          refine (count_any HVs1.out HFS.out).mono ?_
          rintro e y2 ⟨rfl, hb⟩
          have HVt2 : Hid _ := HVt1.out.kept hb
          have HSs2 : Hid _ := HSs1.out.kept hb
          have HSt2 : Hid _ := HSt1.out.kept hb
          have HSu2 : Hid _ := HSu1.out.kept hb
          have HY2 : Hid _ := HY1.out.trans (hb.mono HY1.out.size)
          clear hb HVu1 HVs1 HVt1 HSs1 HSt1 HSu1 HY1
          generalize hgU : total (addK S T T.length) = tU at *
          generalize hgS : total S = tS at *
          generalize hgT : total T = tT at *
          generalize hgB : bothK S T T.length = tB at *
          have hwr1 : IntKind.u64.wrap (tS + (tU - tS)) = tU := by rw [IntKind.wrap_u64]; omega
          have hne1 : (tU != tU) = false := by simp
          go_wp2_with fail
          refine (count_any HVt2.out HFT.out).mono ?_
          rintro e y3 ⟨rfl, hb⟩
          rw [hgT]
          have HSs3 : Hid _ := HSs2.out.kept hb
          have HSt3 : Hid _ := HSt2.out.kept hb
          have HSu3 : Hid _ := HSu2.out.kept hb
          have HVt3 : Hid _ := HVt2.out.kept hb
          have HY3 : Hid _ := HY2.out.trans (hb.mono HY2.out.size)
          clear hb HVt2 HSs2 HSt2 HSu2 HY2
          have hwr2 : IntKind.u64.wrap (tT - (tU - tS)) = tB := by rw [IntKind.wrap_u64]; omega
          have hne2 : (tB != tB) = false := by simp
          go_wp2_with fail
          refine (ranges_any HVt3.out HT0.out).mono ?_
          rintro e y4 ⟨g8, rfl, hg8, hr8, hb⟩
          have hb8 := HY3.out.trans (hb.mono HY3.out.size)
          have hls5 := HLS5.out
          have hlp := HLT.out
          have hat := HT7.out.at_
          have hrt := HT7.out.row
          have hau := HU7.out.at_
          have hru := HU7.out.row
          have hlu7 := HU7.out.set.lt
          have hrowU := HTU.out.row
          have hS3 := HSs3.out.lt
          have HR8 : Hid _ := hr8
          have HSu4 : Hid _ := HSu3.out.kept hb
          have HSt4 : Hid _ := HSt3.out.kept hb
          have HOs4 : Hid (Own w.heap.size y4 p (.slice as' S.length cs) S) := ⟨HSs3.out.kept hb, HO7.out.at_, HO7.out.row⟩
          have HBF : Hid (Below w.heap.size w y4) := by
            have h1 := (HU7.out.turned (L' := addK S T T.length) (HSUw.out) HTU.out).2
            have h2 : Below w.heap.size w7 wr := h1.mono (by have := HO7.out.at_; omega)
            exact HB7.out.trans (h2.trans (hb8.mono (Nat.le_trans HB7.out.size h2.size)))
          have HSU2 : Hid (∀ (X : World) v', Turned y4 X p (.slice as' S.length cs) v' → SetAt X q (.slice at' T.length ct) T ∧ SetAt X u (.slice au (addK S T T.length).length cu) (addK S T T.length) ∧ X.heap[g8]? = some (.cells (flat T).toArray 29 (0, 0))) := by
            intro X v' hT
            refine ⟨HSt4.out.other hT (by omega) (fun e => ?_) (fun x hx => ⟨?_, fun e => ?_⟩), HSu4.out.other hT (by omega) (fun e => ?_) (fun x hx => ?_), ?_⟩
            · have := hlp.2 _ e.symm; omega
            · have := hrt x hx; omega
            · have := hrt x hx; have := hlp.2 _ e.symm; omega
            · have := hls5.2 _ e.symm; omega
            · have hx' : wr_.heap.size ≤ x := by
                rcases hrowU with h | ⟨gg, h, hgg⟩
                · rw [h] at hx; exact hru x hx
                · rw [h] at hx; simp only [Option.some.injEq] at hx; omega
              exact ⟨by omega, fun e => by have := hls5.2 _ e.symm; omega⟩
            · rw [hT.block g8 (Array.getElem?_eq_some_iff.1 HR8.out).1 (by omega) (fun e => by have := hS3.2 _ e.symm; omega)]
              exact HR8.out
          clear hb hr8 hb8 hls5 hlp hat hrt hau hru hlu7 hrowU hS3 HSs3 HSt3 HSu3 HVt3 HY3 HO7 HT7 HU7 HB7 HSU HTU HLW HR7
          go_wp2_with fail
          go_loopg [16, 99] T.length (fun kx n i wz => ∃ (k : Nat) (v : Value), k ≤ T.length ∧ T.length - k ≤ kx ∧ i = .int .i64 k ∧ n = .int .u64 (tS - total (remK S T k)) ∧ SetAt wz p v (remK S T k) ∧ Turned y4 wz p (.slice as' S.length cs) v)
          case atStart => exact ⟨0, _, Nat.zero_le _, by omega, rfl, by simp [remK, hgS], HOs4.out.set, Turned.refl _ _ _⟩
          case round =>
            obtain ⟨k, v, hk, hkx, rfl, rfl, hS, hT⟩ := hrel
            have HS : Hid _ := hS
            have HT : Hid _ := hT
            clear hS hT
            have hm := HSO.out k hk
            have hmR := hm.sumR
            have hm0 := hm.nonneg
            have hfR := total_fit hm.fitR
            rw [hgS] at hmR
            by_cases hlt : k < T.length
            · have hki : (k : Int) < (T.length : Int) := by omega
              obtain ⟨e1, e2⟩ := row_pair (HSU2.out _ _ HT.out).2.2 k hlt
              have ht := HFT.out.at k hlt
              have hm2 := HSO.out (k + 1) hlt
              have hR2 := hm2.sumR
              have hn2 := hm2.nonneg
              have hf2 := total_fit hm2.fitR
              rw [hgS] at hR2
              have hRT := remL_total hm.fitR T[k]
              have hlenR := hm.lenR
              have hA := rem_any (HS.out.kept (below_box wr (.cells #[.int .u64 T[k].1, .int .u64 T[k].2] 29))) hm.fitR (by omega) T[k] ht.1 ht.2.2
              rw [← remK_succ S T k hlt] at hA hRT
              clear hm hm2
              generalize T[k] = r at *
              obtain ⟨rl, rh⟩ := r
              simp only at e1 e2 ht hA
              have HA : Hid _ := hA
              clear hA
              generalize total (clipL (remK S T k) (rl, rh)) = tc at *
              generalize hq1 : total (remK S T k) = tr at *
              generalize hq2 : total (remK S T (k + 1)) = tr2 at *
              have HRT : Hid _ := hRT
              have hwr : IntKind.u64.wrap (tS - tr + tc) = tS - tr + tc := by rw [IntKind.wrap_u64]; omega
              go_wp2_with fail
              refine Calls.mono HA.out ?_
              rintro e wy ⟨rfl, v', hS', hT'⟩
              have HS' : Hid _ := hS'
              have HT' : Hid _ := HT.out.trans ((Turned.of_below p v (below_box wr (.cells #[.int .u64 rl, .int .u64 rh] 29))).trans hT')
              clear hS' hT' HA HS HT e1 e2
              go_wp2_with fail
              go_roundg (T.length - (k + 1))
              case measure => omega
              case rel => exact ⟨k + 1, v', hlt, Nat.le_refl _, by go_num, by rw [hq2, HRT.out]; go_num, HS'.out, HT'.out⟩
            · obtain rfl : k = T.length := by omega
              have hki : ¬ (T.length : Int) < (T.length : Int) := by omega
              rw [hgB] at hmR
              have HFR : Hid (Fit (remK S T T.length)) := hm.fitR
              obtain ⟨hSt, hSu, _⟩ := HSU2.out _ _ HT.out
              obtain ⟨hOz, hBz⟩ := HOs4.out.turned HS.out HT.out
              have HBz : Hid _ := HBF.out.trans hBz
              obtain ⟨as3, cs3, rfl, Vs⟩ := HS.out.view (by have := hm.lenR; omega)
              obtain ⟨at3, ct3, et3, Vt⟩ := hSt.view HT1.out
              obtain ⟨au3, cu3, eu3, Vu⟩ := hSu.view (by have := (HSO.out T.length (Nat.le_refl _)).lenU; omega)
              have HVs : Hid _ := Vs
              have HVt : Hid _ := Vt
              have HVu : Hid _ := Vu
              clear Vs Vt Vu hSt hSu hOz hBz HS HT hm et3 eu3
              generalize hq1 : total (remK S T T.length) = tr at *
              have heq1 : ((tS - tr) == tB) = true := by simp; omega
              have heq2 : (tr == tr) = true := by simp
              have hwr : IntKind.u64.wrap (tU - tT) = tr := by rw [IntKind.wrap_u64]; omega
              go_wp2_with fail
              refine (count_any HVs.out HFR.out).mono ?_
              rintro e z1 ⟨rfl, hb⟩
              rw [hq1]
              have HVu1 : Hid _ := HVu.out.kept hb
              have HVt1 : Hid _ := HVt.out.kept hb
              have HBz1 : Hid _ := HBz.out.trans (hb.mono HBz.out.size)
              clear hb HVs HVu HVt HBz
              go_wp2_with fail
              refine (count_any HVu1.out HFU.out).mono ?_
              rintro e z2 ⟨rfl, hb⟩
              rw [hgU]
              have HVt2 : Hid _ := HVt1.out.kept hb
              have HBz2 : Hid _ := HBz1.out.trans (hb.mono HBz1.out.size)
              clear hb HVu1 HVt1 HBz1
              go_wp2_with fail
              refine (count_any HVt2.out HFT.out).mono ?_
              rintro e z3 ⟨rfl, hb⟩
              rw [hgT]
              have HBz3 : Hid _ := HBz2.out.trans (hb.mono HBz2.out.size)
              clear hb HVt2 HBz2
              go_wp2_with fail
              go_ret
              exact ⟨rfl, HBz3.out⟩

end Go.Proofs.Ytjbjaklbckhodaa
