import Derived.Test.YtfhjiggaacgncaaDoorJs3
namespace Go.Proofs.YtfhjiggaacgncaaDoor
open Go.RowKit Go.Maps Go.Sort
set_option maxRecDepth 100000

theorem cont_at {n k : Nat} {A N t : List (BitVec 8)} (ht : N = A ++ t) (h : k < (cont n A).length) (h2 : k < N.length) : (A.length ≤ k → (cont n A)[k] = 0#8) ∧ (k < A.length → (cont n A)[k] = N[k]) := by
  refine ⟨fun hk => ?_, fun hk => ?_⟩
  · have hlt : k - A.length < n - A.length := by
      simp [cont, z] at h
      omega
    have e : (cont n A)[k]? = some 0#8 := by
      unfold cont
      rw [List.getElem?_append_right hk]
      simp [z, hlt]
    exact (List.getElem?_eq_some_iff.1 e).2
  · have e : (cont n A)[k]? = N[k]? := by
      unfold cont
      rw [List.getElem?_append_left hk, ht, List.getElem?_append_left hk]
    rw [List.getElem?_eq_getElem h, List.getElem?_eq_getElem h2] at e
    exact Option.some.inj e
/-- A record out of those that were handed out. -/
theorem rec_at {w : World} {B : Nat} {v : Value} {L : List (BitVec 8 × List (BitVec 8))} (h : RecV w B v L) : ∃ a c, v = .slice a L.length c ∧ ∀ w1, Below w.heap.size w w1 → ∀ j (hj : j < L.length), ∃ g xa xc, a = some ⟨g, 0, none⟩ ∧ w1.cell? ⟨g, j * 3, none⟩ = some (.int .u64 (j : Nat)) ∧ w1.cell? ⟨g, j * 3 + 1, none⟩ = some (.int .u8 (ub L[j].1)) ∧ w1.cell? ⟨g, j * 3 + 2, none⟩ = some (.slice xa L[j].2.length xc) ∧ BytesAt w1 xa L[j].2 := by
  obtain ⟨R, rfl, hO, hB⟩ := h
  obtain ⟨a, c, ev, -⟩ := own_len hO
  refine ⟨a, c, by rw [ev]; simp, fun w1 hb j hj => ?_⟩
  have hjR : j < R.length := by simpa using hj
  obtain ⟨_, ⟨e', hz⟩ | ⟨g, cap, cur, e', hgb, hg, hnc, hcm, hcs, htk⟩⟩ := hO
  · omega
  · rw [ev] at e'
    injection e' with r1 r2 r3
    have rcell : ∀ i, i < 3 → w1.cell? ⟨g, j * 3 + i, none⟩ = (rcells (0 + j) R[j])[i]? := fun i hi => by
      have := flatR_at R 0 j i hjR hi
      rw [← htk, List.getElem?_take, if_pos (by omega), Array.getElem?_toList] at this
      have h0 : w.cell? ⟨g, j * 3 + i, none⟩ = (rcells (0 + j) R[j])[i]? := by rw [cell_of_row w g _ _ _ _ hg]; exact this
      have hi3 : i < (rcells (0 + j) R[j]).length := hi
      obtain ⟨val, hv⟩ : ∃ val, (rcells (0 + j) R[j])[i]? = some val := ⟨_, List.getElem?_eq_getElem hi3⟩
      rw [hv] at h0 ⊢
      exact cell_kept hb h0
    obtain ⟨xa, xc, ex, hBx, _⟩ := ownBy_shape (hB _ (List.getElem_mem hjR))
    refine ⟨g, xa, xc, r1, ?_, ?_, ?_, ?_⟩
    · have := rcell 0 (by omega)
      rw [Nat.zero_add] at this
      exact this
    · have := rcell 1 (by omega)
      rw [this]
      simp [rcells]
    · have := rcell 2 (by omega)
      rw [this]
      show some R[j].v = _
      rw [ex]
      simp
    · have := hBx.kept hb
      simpa using this
theorem again_no {w : World} {a : Option Addr} {n cap : Nat} (hT : CrcTab w) (h : ¬ (1 ≤ n ∧ n ≤ 16777216)) : Calls Tryd.prog 4 #[.slice a n cap] w fun e w' => e = .returned (.bool true) ∧ Below w.heap.size w w' := by
  have HA := hid (awake_any hT)
  have HL : Hid (∀ w1, Calls Tryd.prog 14 #[.slice a n cap] w1 fun e w' => e = .returned (.tuple #[.pointer none, .int .i64 210]) ∧ w' = w1) := fun w1 => load_no w1 a n cap h
  by_cases h0 : n = 0
  · subst h0
    clear h hT
    go_enter Tryd.func4, Tryd.ntmps4
    go_wp2_with (first | (go_at_call 13; refine HA.out.mono ?_; rintro e w1 ⟨rfl, hb⟩; have HB := hid hb; clear hb) | (go_at_call 14; refine (HL.out _).mono ?_; rintro e w2 ⟨rfl, rfl⟩))
    go_ret
    exact ⟨rfl, HB.out⟩
  · have h1 : ¬ (n : Int) = 0 := by omega
    have h2 : (16777216 : Int) < n := by omega
    clear h hT h0
    go_enter Tryd.func4, Tryd.ntmps4
    go_wp2_with (first | (go_at_call 13; refine HA.out.mono ?_; rintro e w1 ⟨rfl, hb⟩; have HB := hid hb; clear hb) | (go_at_call 14; refine (HL.out _).mono ?_; rintro e w2 ⟨rfl, rfl⟩))
    go_ret
    exact ⟨rfl, HB.out⟩
set_option maxHeartbeats 8000000 in
theorem again_ok {w : World} {a : Option Addr} {n cap : Nat} {N : List (BitVec 8)} (hB : BytesAt w a N) (hn : N.length = n) (h1 : 1 ≤ n) (h2 : n ≤ 16777216) (hT : CrcTab w) : Calls Tryd.prog 4 #[.slice a n cap] w fun e w' => e = .returned (.bool true) ∧ Below w.heap.size w w' := by
  have HA := hid (awake_any hT)
  have HBY := hid hB
  have HN := hid hn
  have HT := hid hT
  have H1 := hid h1
  have H2 := hid h2
  have HLD : Hid (∀ w1, Below w.heap.size w w1 → Calls Tryd.prog 14 #[.slice a n cap] w1 (LoadDk w1 N)) := fun w1 hb => load_ok (hB.kept hb) hn h1 h2
  have i1 : (1 : Int) ≤ n := by omega
  have i2 : (n : Int) ≤ 16777216 := by omega
  have i3 : ¬ (n : Int) = 0 := by omega
  have i4 : ¬ (16777216 : Int) < n := by omega
  have i5 : ((n : Int) == 0) = false := by simpa using i3
  have i6 : decide ((16777216 : Int) < n) = false := decide_eq_false i4
  obtain ⟨L, hL⟩ : ∃ L, scan N (n + 1) 0 0 = L := ⟨_, rfl⟩
  have HL := hid hL
  clear hT hB hn h1 h2 hL
  go_enter Tryd.func4, Tryd.ntmps4
  go_upto_region 3 with (go_at_call 13; refine HA.out.mono ?_; rintro e w1 ⟨rfl, hb⟩; have HB1 := hid hb; clear hb)
  have HLD1 := hid (HLD.out w1 HB1.out)
  go_upto_region 4 with (go_at_call 14; refine HLD1.out.mono ?_; rintro e w2 ⟨p, D, rfl, hD, hb2, hmem, hS, hN2, hW⟩; have HX2 := hid (And.intro hD (And.intro hb2 (And.intro hmem (And.intro hS (And.intro hN2 hW))))); clear hD hb2 hmem hS hN2 hW)
  have HOP : Hid (Calls Tryd.prog 9 #[pt p 0] w2 fun e w' => ∃ q, e = .returned (.tuple #[pt q 0, .int .i64 0]) ∧ One w' w.heap.size w'.heap.size p q n L ∧ Below w.heap.size w2 w') := by
    obtain ⟨hD, hb2, hmem, hS, hN2, hW⟩ := HX2.out
    have hB2 := below_two HB1.out hb2 (Nat.le_refl _)
    exact load_open (base := w.heap.size) hD (hS.trans hN2.symm) hW (by rw [hN2]; exact HN.out) H1.out H2.out (HT.out.kept hB2) (fun k hk => Nat.le_trans HB1.out.size (hmem k hk)) hB2.size (by rw [hN2]; exact HL.out)
  have HB2 : Hid (Below w.heap.size w w2) := below_two HB1.out HX2.out.2.1 (Nat.le_refl _)
  clear HA HLD HLD1 HB1 HX2
  go_upto_region 9 with (go_at_call 9; refine HOP.out.mono ?_; rintro e w3 ⟨q1, rfl, hO3, hb3⟩; have HO3 := hid hO3; have HB3 := hid (HB2.out.trans hb3); clear hO3 hb3)
  clear HOP HB2
  have HIM := hid (one_image HO3.out H2.out)
  go_upto_region 10 with (go_at_call 12; refine HIM.out.mono ?_; rintro e w4 ⟨ia, ic, rfl, hB4, hc4, hb4⟩; have HI4 := hid (And.intro hB4 (And.intro hc4 hb4)); clear hB4 hb4 hc4)
  have HB4 : Hid (Below w.heap.size w w4) := below_two HB3.out HI4.out.2.2 (Nat.le_refl _)
  have HO5 := hid (one_open (HO3.out.kept HI4.out.2.2) H1.out H2.out (HT.out.kept HB4.out))
  go_upto_region 11 with (go_at_call 9; refine HO5.out.mono ?_; rintro e w5 ⟨q2, rfl, hT5, hb5⟩; have HW5 := hid hT5; have HF5 := hid hb5; clear hT5 hb5)
  have HB5 : Hid (Below w.heap.size w w5) := HB4.out.trans (HF5.out.below (fun x e => e.1) HB4.out.size)
  have HI5 : Hid (BytesAt w5 ia (cont n (enc 0 L))) := fun k hk => by
    obtain ⟨g, o, e, c⟩ := HI4.out.1 k hk
    exact ⟨g, o, e, HF5.out.cell c (fun h => by have h1 := HI4.out.2.1 g o e; have h2 : g < w3.heap.size := h.2; omega)⟩
  clear HIM HO3 HB3 HI4 HB4 HO5 HF5
  obtain ⟨hFn, hft⟩ := two_fine HW5.out
  have HFN := hid hFn
  have HLC := hid (cont_len hft)
  have hfi : ((enc 0 L).length : Int) ≤ n := by omega
  have HFT := hid hft
  clear hFn hft
  have HL2 := hid (two_len2 HW5.out)
  have HL1 := hid (two_len1 HW5.out)
  have HIM2 := hid (two_image HW5.out H2.out)
  have HSM : Hid (∀ w7 ja jc, BytesAt w7 ja (cont n (enc 0 L)) → Below w5.heap.size w5 w7 → Calls Tryd.prog 16 #[.slice ia n ic, .slice ja n jc] w7 fun e w' => e = .returned (.bool true) ∧ w' = w7) := fun w7 ja jc hB7 hb7 => by
    have := psame_any (c := ic) (c' := jc) (HI5.out.kept hb7) HLC.out hB7 HLC.out
    rw [decide_eq_true rfl] at this
    exact this
  have HPD : Hid (∀ w7, Below w5.heap.size w5 w7 → Calls Tryd.prog 11 #[pt p 0] w7 fun e w' => e = .returned (.int .i64 0) ∧ w' = w7) := fun w7 hb7 => two_pending (HW5.out.kept hb7)
  go_upto_region 14 with (first | (go_at_call_of 15 (pt q2 0); refine HL2.out.mono ?_; rintro e w6 ⟨rfl, rfl⟩) | (go_at_call_of 15 (pt q1 0); refine HL1.out.mono ?_; rintro e w6 ⟨rfl, rfl⟩) | (go_at_call 12; refine HIM2.out.mono ?_; rintro e w7 ⟨ja, jc, rfl, hB7, hb7⟩; have HX7 := hid (And.intro hB7 hb7); clear hB7 hb7) | (go_at_call 16; refine (HSM.out _ _ _ HX7.out.1 HX7.out.2).mono ?_; rintro e w8 ⟨rfl, rfl⟩) | (go_at_call 11; refine (HPD.out _ HX7.out.2).mono ?_; rintro e w9 ⟨rfl, rfl⟩))
  have HW9 := hid (HW5.out.kept HX7.out.2)
  have HI9 := hid (HI5.out.kept HX7.out.2)
  have HB9 : Hid (Below w.heap.size w w9) := below_two HB5.out HX7.out.2 (Nat.le_refl _)
  have HR1 := hid (two_rec1 HW9.out H2.out)
  have HR2 : Hid (∀ w', Below w9.heap.size w9 w' → Calls Tryd.prog 17 #[pt q2 0] w' fun e w'' => ∃ v, e = .returned v ∧ RecV w'' w'.heap.size v L ∧ Below w'.heap.size w' w'') := fun w' hb => two_rec2 (HW9.out.kept hb) H2.out
  clear HL1 HL2 HIM2 HSM HPD HX7 HI5 HB5 HW5
  go_upto_region 15 with (first | (go_at_call_of 17 (pt q1 0); refine HR1.out.mono ?_; rintro e w10 ⟨v1, rfl, hR1, hb10⟩; obtain ⟨ra, rc, ev, hra⟩ := rec_at hR1; subst ev; have HRA := hid hra; have HB10 := hid hb10; clear hR1 hb10 hra) | (go_at_call_of 17 (pt q2 0); refine (HR2.out _ HB10.out).mono ?_; rintro e w11 ⟨v2, rfl, hR2, hb11⟩; obtain ⟨sa, sc, ev2, hsa⟩ := rec_at hR2; subst ev2; have HSA := hid hsa; have HB11 := hid hb11; clear hR2 hb11 hsa))
  have HX11 : Hid (Below w9.heap.size w9 w11) := below_two HB10.out HB11.out (Nat.le_refl _)
  have HW11 := hid (HW9.out.kept HX11.out)
  have HI11 := hid (HI9.out.kept HX11.out)
  have HY11 : Hid (Below w.heap.size w w11) := below_two HB9.out HX11.out (Nat.le_refl _)
  have HLN : Hid (L.length ≤ n) := by have := p_len L; have := HFT.out; show _ ≤ _; omega
  have hli : (L.length : Int) ≤ 16777216 := by have := HLN.out; omega
  have HRND : Hid (∀ wr k, Below w11.heap.size w11 wr → k < L.length → ∃ g h xa xc ya yc m kd e1 e2 e3, ra = some ⟨g, 0, none⟩ ∧ sa = some ⟨h, 0, none⟩ ∧ (enc 0 (L.take k)).length = e1 ∧ e1 + 18 = e2 ∧ e2 + m = e3 ∧ (enc 0 (L.take (k + 1))).length = e3 ∧ e3 ≤ n ∧ ¬ kd = 0 ∧ wr.cell? ⟨g, k * 3, none⟩ = some (.int .u64 (k : Nat)) ∧ wr.cell? ⟨g, k * 3 + 1, none⟩ = some (.int .u8 kd) ∧ wr.cell? ⟨g, k * 3 + 2, none⟩ = some (.slice xa m xc) ∧ wr.cell? ⟨h, k * 3 + 1, none⟩ = some (.int .u8 kd) ∧ wr.cell? ⟨h, k * 3 + 2, none⟩ = some (.slice ya m yc) ∧
      ∀ w1, Below wr.heap.size wr w1 → Calls Tryd.prog 16 #[.slice xa m xc, .slice ya m yc] w1 fun e w' => e = .returned (.bool true) ∧ w' = w1) := by
    intro wr k hb hk
    obtain ⟨g, xa, xc, e1, c1, c2, c3, b1⟩ := HRA.out wr (below_two HB11.out hb (Nat.le_refl _)) k hk
    obtain ⟨h, ya, yc, e2, d1, d2, d3, b2⟩ := HSA.out wr hb k hk
    have hs := enc_take_succ L k hk
    have hle := enc_take_le L (k + 1)
    have hft := HFT.out
    rw [hs, List.length_append, recL_len] at hle
    refine ⟨g, h, xa, xc, ya, yc, L[k].2.length, ub L[k].1, (enc 0 (L.take k)).length, (enc 0 (L.take k)).length + 18, (enc 0 (L.take k)).length + 18 + L[k].2.length, e1, e2, rfl, rfl, rfl, ?_, by omega, ?_, c1, c2, c3, d2, d3, fun w1 hb1 => ?_⟩
    · rw [hs, List.length_append, recL_len]
      omega
    · intro e0
      exact (HFN.out _ (List.getElem_mem hk)).1 (ub_inj (by rw [e0]; decide))
    · have := psame_any (c := xc) (c' := yc) (b1.kept hb1) rfl (b2.kept hb1) rfl
      rw [decide_eq_true rfl] at this
      exact this
  clear HRA HSA HR1 HR2 HB10 HB11 HX11 HW9 HI9 HB9 HFN
  go_wp2
  go_loopw [10, 90] (fun s i wr => ∃ k : Nat, k ≤ L.length ∧ i = .int .i64 k ∧ s = .int .i64 ((enc 0 (L.take k)).length : Nat) ∧ Hid (Below w11.heap.size w11 wr)) (fun _ i _ => L.length - (intOf i).toNat)
  case atStart => exact ⟨0, Nat.zero_le _, rfl, rfl, Below.refl _ _⟩
  case round =>
    obtain ⟨k, hk, rfl, rfl, HB⟩ := hrel
    by_cases hlt : k < L.length
    · obtain ⟨g, h, xa, xc, ya, yc, m, kd, e1, e2, e3, rfl, rfl, hE, he1, he2, he3, he4, hkd, c0, c1, c2, d1, d2, hS⟩ := HRND.out wr k HB.out hlt
      rw [hE]
      have HE3 := hid he3
      have HS2 : Hid (∀ q, Calls Tryd.prog 16 #[.slice xa m xc, .slice ya m yc] (wr.drewN q) fun e w' => e = .returned (.bool true) ∧ w' = wr.drewN q) := fun q => hS _ (below_drewN (Below.refl _ _) q)
      have j1 : (k : Int) < L.length := by omega
      have j2 : IntKind.u64.wrap (k : Int) = (k : Nat) := by rw [IntKind.wrap_u64]; omega
      have j3 : (e1 : Int) + 18 = e2 := by omega
      have j4 : IntKind.i64.wrap (e2 : Int) = e2 := by rw [IntKind.wrap_i64]; omega
      have j5 : (e2 : Int) + m = e3 := by omega
      have j6 : IntKind.i64.wrap (e3 : Int) = e3 := by rw [IntKind.wrap_i64]; omega
      clear HRND hS hE he1 he2 he3 he4
      go_upto_region 18 with fail
      go_quiet ((go_at_call 16; exact Calls.quiet_of_same (HS2.out _)))
      go_wp2
      go_roundw
      case rel => exact ⟨k + 1, hlt, by go_num, by rw [HE3.out], below_drewN HB.out _⟩
      case measure => simp [intOf]; omega
    · obtain rfl : k = L.length := by omega
      rw [List.take_length]
      clear HRND
      have HIr := hid (HI11.out.kept HB.out)
      have HNr := hid ((HBY.out.kept HY11.out).kept HB.out)
      have HRM := hid (two_room (HW11.out.kept HB.out) H2.out)
      have HYr : Hid (Below w.heap.size w wr) := below_two HY11.out HB.out (Nat.le_refl _)
      rw [Int.min_comm] at HRM
      have HXV : Hid (∀ k (h : k < (cont n (enc 0 L)).length) (h2 : k < N.length), ((enc 0 L).length ≤ k → (cont n (enc 0 L))[k] = 0#8) ∧ (k < (enc 0 L).length → (cont n (enc 0 L))[k] = N[k])) := by
        obtain ⟨_, t, ht⟩ := scan_any N (n + 1) 0 0
        rw [List.drop_zero, HL.out] at ht
        exact fun k h h2 => cont_at ht h h2
      clear HW11 HI11 HY11 HBY HL
      generalize (enc 0 L).length = en at *
      generalize cont n (enc 0 L) = X at *
      have r1 : IntKind.i64.wrap ((n : Int) - en) = (n : Int) - en := by rw [IntKind.wrap_i64]; omega
      have r2 : IntKind.i64.wrap ((n : Int) - en - 18) = (n : Int) - en - 18 := by rw [IntKind.wrap_i64]; omega
      have r3 : ¬ (n : Int) < en := by omega
      go_upto_region 24 with (go_at_call 18; refine HRM.out.mono ?_; rintro e w12 ⟨rfl, hb12⟩; have HB12 := hid hb12; clear hb12)
      have HI12 := hid (HIr.out.kept HB12.out)
      have HN12 := hid (HNr.out.kept HB12.out)
      clear HRM HIr HNr r1 r2 r3
      go_wp2
      go_loopw [163] (fun i w' => ∃ k : Nat, k ≤ n ∧ i = .int .i64 k ∧ w' = w12) (fun i _ => n - (intOf i).toNat)
      case atStart => exact ⟨0, Nat.zero_le _, rfl, rfl⟩
      case round =>
        obtain ⟨k, hk2, rfl, rfl⟩ := hrel
        by_cases hl2 : k < n
        · obtain ⟨h0, h1⟩ := HXV.out k (by rw [HLC.out]; exact hl2) (by rw [HN.out]; exact hl2)
          obtain ⟨g, o, rfl, c1⟩ := HI12.out k (by rw [HLC.out]; exact hl2)
          obtain ⟨g2, o2, rfl, c2⟩ := HN12.out k (by rw [HN.out]; exact hl2)
          have j1 : (k : Int) < n := by omega
          by_cases hke : k < en
          · rw [h1 hke] at c1
            have j2 : (k : Int) < en := by omega
            have j3 : ¬ (en : Int) ≤ k := by omega
            generalize N[k]'(by rw [HN.out]; exact hl2) = y at *
            clear h0 h1 HXV HI12 HN12
            go_wp2
            go_roundw
            case rel => exact ⟨k + 1, hl2, by go_num, trivial⟩
            case measure => simp [intOf]; omega
          · rw [h0 (by omega)] at c1
            have e0 : ub 0#8 = 0 := by decide
            rw [e0] at c1
            have j2 : ¬ (k : Int) < en := by omega
            have j3 : (en : Int) ≤ k := by omega
            clear h0 h1 HXV HI12 HN12 c2
            go_wp2
            go_roundw
            case rel => exact ⟨k + 1, hl2, by go_num, trivial⟩
            case measure => simp [intOf]; omega
        · obtain rfl : k = n := by omega
          clear HXV HI12 HN12
          go_wp2
          go_ret
          exact ⟨rfl, below_two HYr.out HB12.out (Nat.le_refl _)⟩
theorem again_law {w : World} {a : Option Addr} {n cap : Nat} {N : List (BitVec 8)} (hB : BytesAt w a N) (hn : N.length = n) (hT : CrcTab w) : Calls Tryd.prog 4 #[.slice a n cap] w fun e w' => e = .returned (.bool true) ∧ Below w.heap.size w w' := by
  by_cases h : 1 ≤ n ∧ n ≤ 16777216
  · exact again_ok hB hn h.1 h.2 hT
  · exact again_no hT h
end Go.Proofs.YtfhjiggaacgncaaDoor
