import Derived.Test.YtjbjaklbckhodaaOrder0
import Derived.Deep.CutRange
namespace Go.Proofs.Ytjbjaklbckhodaa
open Go.RowKit Go.Deep

theorem cells_at {w : World} {a : Option Addr} {L : List Rg} (C : Cells w a L) (i : Nat) (h : i < L.length) : ∃ b off, a = some ⟨b, off, none⟩ ∧ w.cell? ⟨b, off + i * 2, none⟩ = some (.int .u64 L[i].1) ∧ w.cell? ⟨b, off + i * 2 + 1, none⟩ = some (.int .u64 L[i].2) := by
  obtain ⟨ad, rfl, hc⟩ := C.row (fun e => by rw [e] at h; simp at h)
  have h0 := hc 0 _ (flat_get L 0 (by omega)).1
  have hs : ad.spot = none := World.cell?_spot (a := ad) (by simpa [Addr.add] using h0)
  have hf := flat_get L i h
  refine ⟨ad.block, ad.off, by cases ad; simp only at hs; subst hs; rfl, ?_, ?_⟩
  · have := hc _ _ hf.1; rwa [addr_off hs] at this
  · have := hc _ _ hf.2; rwa [addr_off hs, ← Nat.add_assoc] at this

/-- A list of numbers of the caller's. -/
structure Nums (w : World) (a : Option Addr) (Z : List Int) : Prop where
  row : ∀ i (h : i < Z.length), ∃ b off, a = some ⟨b, off, none⟩ ∧ w.cell? ⟨b, off + i, none⟩ = some (.int .u64 Z[i])

theorem SetAt.lt {w : World} {p : Nat} {v : Value} {L : List Rg} (S : SetAt w p v L) : p < w.heap.size ∧ ∀ x, v.ownBlock = some x → x < w.heap.size := by
  refine ⟨(Array.getElem?_eq_some_iff.1 S.hp).1, fun x hx => ?_⟩
  obtain ⟨rfl, _⟩ | ⟨g, cap, cur, rfl, _, hg, _⟩ := S.own.2
  · simp [Value.ownBlock] at hx
  · simp only [Value.ownBlock, Option.some.injEq] at hx
    subst hx
    exact (Array.getElem?_eq_some_iff.1 hg).1
theorem turned_cell {w0 w w' : World} {p : Nat} {v v' x : Value} {L : List Rg} (S : SetAt w0 p v L) (T : Turned w w' p v v') {ad : Addr} (h : w0.heap.size ≤ ad.block) (hc : w.cell? ad = some x) : w'.cell? ad = some x := by
  refine (World.cell?_of_block (w := w) (T.block ad.block (World.block_lt_of_cell? w ad hc) ?_ ?_)).trans hc
  · have := S.lt.1; omega
  · intro e
    have := S.lt.2 _ e.symm
    omega

theorem add_any' {w : World} {p : Nat} {v : Value} {L : List Rg} (S : SetAt w p v L) (F : Fit L) (hf : (L.length + 1) * 16 ≤ 140737488355328) (r : Rg) (h0 : 0 ≤ r.1) (h1 : r.1 < r.2 → r.2 ≤ 18446744073709551615) :
    Calls Try.prog 11 #[.pointer (some ⟨p, 0, none⟩), .agg #[.int .u64 r.1, .int .u64 r.2]] w fun e w' => e = .returned (.int .u64 (freshOf L r)) ∧ ∃ v', SetAt w' p v' (addL L r) ∧ Turned w w' p v v' := by
  by_cases hr : r.2 ≤ r.1
  · unfold freshOf addL
    rw [if_pos hr, if_pos hr]
    refine (add_none p r hr).mono ?_
    rintro e w' ⟨rfl, hb⟩
    exact ⟨rfl, v, S.kept hb, ⟨hb.os, hb.tape, hb.output, hb.size, fun k hk _ _ => hb.block k hk, .inl rfl⟩⟩
  · exact add_any S F hf r h0 (h1 (by omega))

theorem wrap_u64_nonneg (x : Int) : 0 ≤ IntKind.u64.wrap x := by rw [IntKind.wrap_u64]; omega

set_option maxRecDepth 100000 in
set_option maxHeartbeats 1000000 in
theorem order_any {w : World} {a b : Option Addr} {cap cb : Nat} {L : List Rg} {Z : List Int} (C : Cells w a L) (hZ : Nums w b Z) (hf : (L.length + 1) * 16 ≤ 140737488355328) (hfz : Z.length * 8 ≤ 140737488355328) (hw : ∀ r ∈ L, 0 ≤ r.1 ∧ r.2 ≤ 18446744073709551615) (fr : Int) :
    Calls Try.prog 3 #[.slice a L.length cap, .slice b Z.length cb, .int .i64 fr] w fun e w' => e = .returned (.bool true) ∧ Below w.heap.size w w' := by
  have hN := new_any sort_any (cap := cap) C hf hw
  have HC : Hid _ := C
  have HZ : Hid _ := hZ
  clear C hZ
  have HAW : Hid _ := fun w => awake_any sort_any w
  have HW : Hid _ := hw
  clear hw
  go_enter Try.func3, Try.ntmps3
  go_wp2_with fail
  refine hN.mono ?_
  rintro e w1 ⟨p, rfl, v, L', hP, hO, hb1⟩
  have HP : Hid _ := hP
  have HO1 : Hid _ := hO
  have HB1 : Hid _ := hb1
  clear hP hO hb1 hN
  have hN2 := new_any sort_any (w := w1) (a := none) (cap := 0) (L := []) ⟨fun h => absurd rfl h⟩ (by simp) (by simp)
  go_wp2_with fail
  refine hN2.mono ?_
  rintro e w2 ⟨p2, rfl, v2, L2, hP2, hO2, hb2⟩
  obtain rfl : L2 = [] := by simpa using hP2
  have HO2 : Hid _ := hO2
  have HB2 : Hid _ := hb2
  clear hP2 hO2 hb2 hN2
  go_wp2_with fail
  refine Calls.mono (HAW.out w2) ?_
  rintro e w3 ⟨rfl, hb3⟩
  have HO3 : Hid _ := HO2.out.kept hb3
  have HB3 : Hid _ := HB2.out.trans (hb3.mono HB2.out.size)
  clear hb3 HO2 HB2 HAW
  go_wp2_with fail
  obtain ⟨f, hfd⟩ : ∃ f : Nat, f = (IntKind.u64.wrap fr % (L.length : Int)).toNat := ⟨_, rfl⟩
  obtain ⟨R, hRd⟩ : ∃ R : List Rg, R = looks L f := ⟨_, rfl⟩
  have HFD : Hid _ := hfd
  have HRD : Hid _ := hRd
  clear hfd hRd
  go_loopg [30] L.length (fun kx i wr => ∃ (k : Nat) (v : Value), k ≤ L.length ∧ L.length - k ≤ kx ∧ i = .int .i64 k ∧ Own w1.heap.size wr p2 v (addAll (R.take k)) ∧ Below w1.heap.size w1 wr)
  case atStart => exact ⟨0, v2, Nat.zero_le _, by omega, rfl, HO3.out, HB3.out⟩
  case round =>
    obtain ⟨k, v, hk, hkx, rfl, hO, hb⟩ := hrel
    have HOk : Hid _ := hO
    have HBk : Hid _ := hb
    clear hO hb HO3 HB3
    by_cases hlt : k < L.length
    · have hki : (k : Int) < (L.length : Int) := by omega
      have hn0 : ¬ (L.length : Int) = 0 := by omega
      have e1 : (IntKind.u64.wrap fr).tmod (L.length : Int) = (f : Int) := by
        rw [Int.tmod_eq_emod_of_nonneg (wrap_u64_nonneg fr), HFD.out, Int.toNat_of_nonneg (Int.emod_nonneg _ hn0)]
      have hfl : (f : Int) < (L.length : Int) := by
        have := Int.emod_lt_of_pos (IntKind.u64.wrap fr) (show (0 : Int) < (L.length : Int) by omega)
        rw [HFD.out, Int.toNat_of_nonneg (Int.emod_nonneg _ hn0)]
        exact this
      obtain ⟨q, hq⟩ : ∃ q : Nat, q = (k * 7 + f) % L.length := ⟨_, rfl⟩
      have hql : q < L.length := by rw [hq]; exact Nat.mod_lt _ (by omega)
      have e2 : ((k : Int) * 7 + (f : Int)).tmod (L.length : Int) = (q : Int) := by
        rw [Int.tmod_eq_emod_of_nonneg (by omega), hq, Int.natCast_emod, Int.natCast_add, Int.natCast_mul]
        rfl
      have hfl2 : f < L.length := by omega
      have HFL : Hid _ := hfl2
      clear hfl2
      have HQ : Hid _ := hq
      clear hq
      have hqi : (q : Int) < (L.length : Int) := by omega
      have hbw : Below w.heap.size w wr := HB1.out.trans (HBk.out.mono HB1.out.size)
      obtain ⟨b0, off, rfl, c0, c1⟩ := cells_at HC.out q hql
      have d0 := cell_kept hbw c0
      have d1 := cell_kept hbw c1
      obtain ⟨b0', off', ea, c2, c3⟩ := cells_at HC.out (L.length - 1 - k) (by omega)
      simp only [Option.some.injEq, Addr.mk.injEq, and_true] at ea
      obtain ⟨rfl, rfl⟩ := ea
      have d2 := cell_kept (below_box wr (.cells #[.int .u64 L[q].1, .int .u64 L[q].2] 29)) (cell_kept hbw c2)
      have d3 := cell_kept (below_box wr (.cells #[.int .u64 L[q].1, .int .u64 L[q].2] 29)) (cell_kept hbw c3)
      have HBW : Hid _ := hbw
      clear c0 c1 c2 c3 hbw
      obtain ⟨r, HRk⟩ : ∃ r : Rg, Hid (r = nth L (place L.length f k)) := ⟨_, rfl⟩
      have HR1 : Hid (L.length % 7 = 0 → r = L[L.length - 1 - k]) := fun h => by rw [HRk.out]; unfold place; rw [if_pos h, nth_eq (by omega)]
      have HR2 : Hid (¬ L.length % 7 = 0 → r = L[q]) := fun h => by rw [HRk.out]; unfold place; rw [if_neg h, ← HQ.out, nth_eq hql]
      generalize L[q] = rq at *
      generalize L[L.length - 1 - k] = rn at *
      obtain ⟨ql, qh⟩ := rq
      obtain ⟨nl, nh⟩ := rn
      simp only at d0 d1 d2 d3
      have hn1 : (0 : Int) ≤ (L.length : Int) - 1 - (k : Int) := by omega
      have hn2 : (L.length : Int) - 1 - (k : Int) < (L.length : Int) := by omega
      have hn3 : ((L.length : Int) - 1 - (k : Int)).toNat = L.length - 1 - k := by omega
      go_upto_if 49 with fail
      go_cut [] from 31 to 97 (fun wd => Below wr.heap.size wr wd ∧ wd.cell? ⟨wr.heap.size, 0, none⟩ = some (.int .u64 r.1) ∧ wd.cell? ⟨wr.heap.size, 1, none⟩ = some (.int .u64 r.2))
      case first =>
        have hbx := box_cells wr (.int .u64 ql) (.int .u64 qh)
        have HBX : Hid _ := hbx
        clear hbx
        by_cases h7 : L.length % 7 = 0
        · have hb7 : ((L.length : Int) % 7 == 0) = true := by simp; omega
          have HE : Hid _ := HR1.out h7
          go_wp2
          go_meet
          rw [HE.out]
          exact ⟨below_box _ _, (box_cells wr _ _).1, (box_cells wr _ _).2⟩
        · have hb7 : ((L.length : Int) % 7 == 0) = false := by simp; omega
          have HE : Hid _ := HR2.out h7
          go_wp2
          go_meet
          rw [HE.out]
          exact ⟨below_box _ _, HBX.out.1, HBX.out.2⟩
      case rest =>
        obtain ⟨hbd, k0, k1⟩ := hcut
        obtain ⟨wd, hwd⟩ : ∃ wd : World, wd = wc := ⟨_, rfl⟩
        subst hwd
        have HBD : Hid _ := hbd
        clear hbd d0 d1 d2 d3 hn1 hn2 hn3 e1 e2 HR1 HR2 hqi hql hfl hn0
        obtain ⟨z, hz⟩ : ∃ z : Int, z = Z.getD k 0 := ⟨_, rfl⟩
        have hzc : k < Z.length → ∃ bz oz, b = some ⟨bz, oz, none⟩ ∧ wd.cell? ⟨bz, oz + k, none⟩ = some (.int .u64 z) := by
          intro h
          obtain ⟨bz, oz, e, c⟩ := HZ.out.row k h
          refine ⟨bz, oz, e, ?_⟩
          have hg : Z.getD k 0 = Z[k] := by simp [List.getD, h]
          rw [hz, hg]
          exact cell_kept ((HBW.out.trans (HBD.out.mono HBW.out.size))) c
        clear hz
        obtain ⟨T, HT⟩ : ∃ T : Bool, Hid (T = (decide (k < Z.length) && (decide (r.1 < z) && decide (z < r.2)))) := ⟨_, rfl⟩
        obtain ⟨rl, rh⟩ := r
        simp only at k0 k1 HT
        have hkk := hfz
        go_upto_region 12 with fail
        go_cut [80] from 31 to 97 (fun t wx => t = .bool T ∧ ∃ nq, wx = wd.drewN nq)
        case first =>
          by_cases h1 : k < Z.length
          · obtain ⟨bz, oz, rfl, cz⟩ := hzc h1
            have hk1 : (k : Int) < (Z.length : Int) := by omega
            have hkd : decide ((k : Int) < (Z.length : Int)) = true := by simp; omega
            by_cases h2 : rl < z
            · have hd2 : decide (rl < z) = true := by simp; omega
              by_cases h3 : z < rh
              · have hd3 : decide (z < rh) = true := by simp; omega
                have HE : Hid (T = true) := HT.out.trans (by simp [h1, h2, h3])
                go_quiet (fail)
                go_wp2_with fail
                go_meet
                exact ⟨by rw [HE.out], nq, rfl⟩
              · have hd3 : decide (z < rh) = false := by simp; omega
                have HE : Hid (T = false) := HT.out.trans (by simp [h3])
                go_quiet (fail)
                go_wp2_with fail
                go_meet
                exact ⟨by rw [HE.out], nq, rfl⟩
            · have hd2 : decide (rl < z) = false := by simp; omega
              have HE : Hid (T = false) := HT.out.trans (by simp [h2])
              go_quiet (fail)
              go_wp2_with fail
              go_meet
              exact ⟨by rw [HE.out], nq, rfl⟩
          · have hkd : decide ((k : Int) < (Z.length : Int)) = false := by simp; omega
            have HE : Hid (T = false) := HT.out.trans (by simp [h1])
            go_quiet (fail)
            go_wp2_with fail
            go_meet
            exact ⟨by rw [HE.out], nq, rfl⟩
        case rest =>
          obtain ⟨rfl, nq, hwx⟩ := hcut
          have hbx : Below wd.heap.size wd wc := by rw [hwx]; exact below_drewN (Below.refl _ _) nq
          clear hwx
          obtain ⟨wx, hwx⟩ : ∃ wx : World, wx = wc := ⟨_, rfl⟩
          subst hwx
          have j0 := cell_kept hbx k0
          have j1 := cell_kept hbx k1
          have hzx : k < Z.length → ∃ bz oz, b = some ⟨bz, oz, none⟩ ∧ wx.cell? ⟨bz, oz + k, none⟩ = some (.int .u64 z) := fun h => by
            obtain ⟨bz, oz, e, c⟩ := hzc h
            exact ⟨bz, oz, e, cell_kept hbx c⟩
          clear k0 k1 hzc
          have HBX : Hid _ := HBD.out.trans (hbx.mono HBD.out.size)
          clear hbx HBD
          obtain ⟨c, HCD⟩ : ∃ c : Int, Hid (c = if T then z else rl) := ⟨_, rfl⟩
          go_upto_if 80 with fail
          go_cut [12] from 31 to 97 (fun t wy => t = .int .u64 c ∧ ∃ nq, wy = wx.drewN nq)
          case first =>
            cases T with
            | true =>
              have h1 := HT.out
              simp only [Bool.true_eq, Bool.and_eq_true, decide_eq_true_eq] at h1
              obtain ⟨bz, oz, rfl, cz⟩ := hzx h1.1
              have hk1 : (k : Int) < (Z.length : Int) := by omega
              go_wp2_with fail
              go_meet
              exact ⟨by rw [HCD.out]; rfl, 0, rfl⟩
            | false =>
              go_wp2_with fail
              go_meet
              exact ⟨by rw [HCD.out]; rfl, 0, rfl⟩
          case rest =>
            obtain ⟨rfl, nq, hwy⟩ := hcut
            have hby : Below wx.heap.size wx wc := by rw [hwy]; exact below_drewN (Below.refl _ _) nq
            clear hwy
            obtain ⟨wy, hwy⟩ : ∃ wy : World, wy = wc := ⟨_, rfl⟩
            subst hwy
            have k0 := cell_kept hby j0
            have k1 := cell_kept hby j1
            clear j0 j1 hzx
            have HBY : Hid _ := HBX.out.trans (hby.mono HBX.out.size)
            clear hby HBX
            have hRl := looks_length L f
            have hHRD := HRD.out
            subst hHRD
            have hFW : ∀ r ∈ looks L f, 0 ≤ r.1 ∧ r.2 ≤ 18446744073709551615 := fun r hr => HW.out r ((looks_mem (fun _ => HFL.out) r).1 hr)
            have hFM := addAll_fit _ hFW k (by omega)
            have hsn := addAll_snoc (looks L f) k (by omega)
            rw [looks_get, ← HRk.out] at hsn
            have hrb := hFW (rl, rh) (by rw [HRk.out, ← looks_get L f k (by omega)]; exact List.getElem_mem _)
            have hcc : c = rl ∨ (rl < c ∧ c < rh) := by
              rw [HCD.out]
              cases T with
              | true =>
                have h1 := HT.out
                simp only [Bool.true_eq, Bool.and_eq_true, decide_eq_true_eq] at h1
                exact .inr (by simpa using h1.2)
              | false => exact .inl rfl
            have htw := add_two hFM.1 hrb.1 hrb.2 hcc
            rw [← hsn] at htw
            have HTW : Hid _ := htw
            have HSN : Hid _ := hsn
            clear hsn htw
            have hO := HOk.out.kept HBY.out
            generalize addAll ((looks L f).take k) = M at *
            simp only at hrb
            obtain ⟨hFM, hML⟩ := hFM
            have hA := add_any hO.set hFM (by omega) (c, rh) (by simp only; omega) hrb.2
            have hF1 := addL_fit hFM (c, rh) (by simp only; omega) hrb.2
            have hL1 := addL_length hFM (c, rh)
            have HO : Hid _ := hO
            have HF1 : Hid (Fit _) := hF1
            clear hO hF1 hFM hFW
            go_wp2_with fail
            refine hA.mono ?_
            rintro e wa ⟨rfl, va, hSa, hTa⟩
            obtain ⟨hOa, hba⟩ := HO.out.turned hSa hTa
            have HBa : Hid _ := HBk.out.trans ((HBY.out.mono HBk.out.size).trans hba)
            have m0 := turned_cell HOk.out.set hTa (ad := ⟨wr.heap.size, 0, none⟩) (Nat.le_refl _) k0
            clear HBY hA HO hSa hTa hba HBk k0 k1 HOk
            have hA2 := add_any' hOa.set HF1.out (by omega) (rl, c) hrb.1 (by simp only; omega)
            rw [HTW.out] at hA2
            have HA2 : Hid _ := hA2
            have HOa : Hid _ := hOa
            clear hOa hA2
            go_wp2_with fail
            refine Calls.mono HA2.out ?_
            rintro e wb ⟨rfl, vb, hSb, hTb⟩
            obtain ⟨hOb, hbb⟩ := HOa.out.turned hSb hTb
            have HBb : Hid _ := HBa.out.trans hbb
            have HOb : Hid _ := hOb
            clear HA2 HOa HBa hSb hTb hbb hOb
            go_wp2_with fail
            go_roundg (L.length - (k + 1))
            case measure => omega
            case rel => exact ⟨k + 1, vb, hlt, Nat.le_refl _, by go_num, HOb.out, HBb.out⟩
    · have hkn : k = L.length := by omega
      have hki : ¬ (k : Int) < (L.length : Int) := by omega
      have hRl := looks_length L f
      have hfl : L ≠ [] → f < L.length := fun h => by
        have h0 : 0 < L.length := List.length_pos_iff.2 h
        have := Int.emod_lt_of_pos (IntKind.u64.wrap fr) (show (0 : Int) < (L.length : Int) by omega)
        have h1 := Int.emod_nonneg (IntKind.u64.wrap fr) (show (L.length : Int) ≠ 0 by omega)
        rw [HFD.out]
        omega
      have hsame := looks_same hfl HP.out HW.out
      have hOt := HOk.out
      rw [hkn, HRD.out, List.take_of_length_le (by omega), hsame] at hOt
      have hOs := HO1.out.kept HBk.out
      obtain ⟨hF, hM⟩ := addAll_fit L' (fun r hr => HW.out r (HP.out.mem_iff.1 hr)) L'.length (Nat.le_refl _)
      rw [List.take_length, HP.out.length_eq] at hM
      rw [List.take_length] at hF
      generalize addAll L' = M at *
      obtain ⟨as', cs, rfl, Vs⟩ := hOs.set.view (by omega)
      obtain ⟨at', ct, rfl, Vt⟩ := hOt.set.view (by omega)
      have HF : Hid (Fit M) := hF
      have HVs : Hid _ := Vs
      have HVt : Hid _ := Vt
      have HB : Hid _ := HB1.out.trans (HBk.out.mono HB1.out.size)
      have hM16 : M.length * 16 ≤ 140737488355328 := by omega
      clear hF Vs Vt HBk HB1 hOs hOt hsame hfl HOk HO1 HRD HFD HP HW HC HZ
      go_wp2_with fail
      refine (ranges_any HVs.out hM16).mono ?_
      rintro e x1 ⟨g1, rfl, hg1, hr1, hbx1⟩
      have HV1s : Hid _ := HVs.out.kept hbx1
      have HV1t : Hid _ := HVt.out.kept hbx1
      have HBx1 : Hid _ := HB.out.trans (hbx1.mono HB.out.size)
      have HR1 : Hid _ := hr1
      clear hbx1 HVs HVt HB hr1 hg1
      go_wp2_with fail
      refine (ranges_any HV1t.out hM16).mono ?_
      rintro e x2 ⟨g2, rfl, hg2, hr2, hbx2⟩
      have HV2s : Hid _ := HV1s.out.kept hbx2
      have HV2t : Hid _ := HV1t.out.kept hbx2
      have HBx2 : Hid _ := HBx1.out.trans (hbx2.mono HBx1.out.size)
      have hr1' : x2.heap[g1]? = some (.cells (flat M).toArray 29 (0, 0)) := by
        rw [hbx2.block g1 (Array.getElem?_eq_some_iff.1 HR1.out).1]; exact HR1.out
      have HSame : Hid _ := same_yes (c := M.length) (c' := M.length) hr1' hr2 hM16
      clear hbx2 HV1s HV1t HBx1 hr2 hg2 hr1' HR1
      go_wp2_with fail
      refine Calls.mono HSame.out ?_
      rintro e x3 ⟨rfl, hbx3⟩
      have HV3s : Hid _ := HV2s.out.kept hbx3
      have HV3t : Hid _ := HV2t.out.kept hbx3
      have HBx3 : Hid _ := HBx2.out.trans (hbx3.mono HBx2.out.size)
      clear hbx3 HV2s HV2t HBx2 HSame
      go_wp2_with fail
      refine (count_any HV3s.out HF.out).mono ?_
      rintro e x4 ⟨rfl, hbx4⟩
      have HV4t : Hid _ := HV3t.out.kept hbx4
      have HBx4 : Hid _ := HBx3.out.trans (hbx4.mono HBx3.out.size)
      clear hbx4 HV3s HV3t HBx3
      go_wp2_with fail
      refine (count_any HV4t.out HF.out).mono ?_
      rintro e x5 ⟨rfl, hbx5⟩
      have HBx5 : Hid _ := HBx4.out.trans (hbx5.mono HBx4.out.size)
      clear hbx5 HV4t HBx4
      go_wp2
      go_ret
      exact ⟨by simp, HBx5.out⟩

end Go.Proofs.Ytjbjaklbckhodaa
