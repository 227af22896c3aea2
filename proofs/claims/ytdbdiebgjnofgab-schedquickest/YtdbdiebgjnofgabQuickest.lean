import Derived.Test.YtdbdiebgjnofgabLawCall
namespace Go.Proofs.Ytdbdiebgjnofgab
open Go.RowKit Go.Maps Go.Sort
set_option maxRecDepth 100000

set_option maxHeartbeats 1000000 in
theorem ltime_any (w : World) (p : Pv) : Calls Try.prog 11 #[p.val] w fun e w' => e = .returned (.int .u64 p.time) ∧ Below w.heap.size w w' := by
  obtain ⟨u, b, k, s, wi, i, h, off, len, fin, on, held⟩ := p
  simp only [Pv.val, Pv.cells, Pv.time]
  generalize Value.slice on.a on.n on.c = on
  have HB := hid (below_grow (Below.refl w.heap.size w) (.cells #[.bool u, .bool b, .bool k, .int .u64 s, .int .i64 wi, .int .i64 i, .bool h, .int .u64 off, .int .i64 len, .bool fin, on, .bool held] 39))
  cases k
  all_goals
    go_enter Try.func11, Try.ntmps11
    go_wp2
    go_ret
    exact ⟨rfl, HB.out⟩
/-- The best one is no worse than any other one. -/
theorem bst_best (T : Pv → Bool) (M : Pv → Int) (L : List Pv) : ∀ (i : Nat), (0 ≤ bst T M L i → T (pth L (bst T M L i).toNat) = true) ∧ (∀ t, t < i → T (pth L t) = true → 0 ≤ bst T M L i ∧ (M (pth L (bst T M L i).toNat) < M (pth L t) ∨ (M (pth L (bst T M L i).toNat) = M (pth L t) ∧ bst T M L i ≤ t)))
  | 0 => ⟨fun h => by simp [bst] at h, fun t ht => absurd ht (Nat.not_lt_zero _)⟩
  | i + 1 => by
    obtain ⟨h1, h2⟩ := bst_best T M L i
    have hb := bst_bd T M L i
    unfold bst
    generalize bst T M L i = B at *
    by_cases hc : (T (pth L i) && (decide (B < 0) || decide (M (pth L i) < M (pth L B.toNat)))) = true
    · rw [if_pos hc]
      simp only [Bool.and_eq_true, Bool.or_eq_true, decide_eq_true_eq] at hc
      refine ⟨fun _ => by rw [Int.toNat_natCast]; exact hc.1, fun t ht hT => ⟨by omega, ?_⟩⟩
      rw [Int.toNat_natCast]
      by_cases e : t = i
      · subst e; exact .inr ⟨rfl, Int.le_refl _⟩
      · obtain ⟨h3, h4⟩ := h2 t (by omega) hT
        rcases hc.2 with h5 | h5
        · omega
        · rcases h4 with h4 | ⟨h4, _⟩
          · exact .inl (by omega)
          · exact .inl (by omega)
    · rw [if_neg hc]
      refine ⟨h1, fun t ht hT => ?_⟩
      by_cases e : t = i
      · subst e
        simp only [Bool.and_eq_true, Bool.or_eq_true, decide_eq_true_eq, not_and, not_or] at hc
        obtain ⟨h5, h6⟩ := hc hT
        refine ⟨by omega, ?_⟩
        by_cases e2 : M (pth L B.toNat) < M (pth L t)
        · exact .inl e2
        · exact .inr ⟨by omega, by omega⟩
      · exact h2 t (by omega) hT
set_option maxHeartbeats 4000000 in
theorem quickest_any {w : World} {V : Vw} (h : VwAt w V) : Calls Try.prog 3 #[V.val] w fun e w' => e = .returned (.bool true) ∧ Below w.heap.size w w' := by
  obtain ⟨a, cap, L, has, want, edge, mss⟩ := V
  obtain ⟨n, hn⟩ : ∃ n, L.length = n := ⟨_, rfl⟩
  have HV := hid h
  have HN := hid hn
  have hF := h.few
  simp only [hn] at hF
  have hni : (n : Int) ≤ 1466015503701 := by omega
  simp only [Vw.val, Vw.cells, hn]
  clear h hn hF
  go_enter Try.func3, Try.ntmps3
  go_upto_region 1 with fail
  refine wp_world fun W HW => ?_
  obtain ⟨x, hx⟩ : ∃ x, x = w.heap.size := ⟨_, rfl⟩
  have HB0 : Hid (Below w.heap.size w W) := by show Below _ _ _; rw [HW.out]; exact (Below.refl _ _).alloc (Nat.le_refl _) _
  have HX0 : Hid (Row W x [.slice a n cap, .bool has, .int .u64 want.off, .int .i64 want.len, .bool want.fin, .slice want.on.a want.on.n want.on.c, .bool want.held, .int .u64 edge, .int .i64 mss] 28) := by show Row _ _ _ _; rw [HW.out, hx]; exact Row.new _ _ _
  rw [← hx]
  clear HW hx
  have HNEW := hid (new0_any W none none 0 0 0 0)
  go_upto_region 4 with (go_at_call 6; refine HNEW.out.mono ?_; rintro e w1 ⟨hb, s, rfl, hs, hr⟩; have HB1 := hid (HB0.out.trans (hb.mono HB0.out.size)); have HX1 := hid (HX0.out.kept hb HX0.out.lt); have HR := hid hr; clear HNEW hb hs hr)
  have hnx := next0_any (HV.out.kept HB1.out) HR.out
  have b0 := HX1.out.cell 0 _ rfl
  have b1 := HX1.out.cell 1 _ rfl
  have b2 := HX1.out.cell 2 _ rfl
  have b3 := HX1.out.cell 3 _ rfl
  have b4 := HX1.out.cell 4 _ rfl
  have b5 := HX1.out.cell 5 _ rfl
  have b6 := HX1.out.cell 6 _ rfl
  have b7 := HX1.out.cell 7 _ rfl
  have b8 := HX1.out.cell 8 _ rfl
  simp only [Vw.val, Vw.cells, HN.out] at hnx
  cases hm : minO ⟨a, cap, L, has, want, edge, mss⟩ with
  | none =>
    rw [hm] at hnx
    simp only [pkv] at hnx
    have HNX := hid hnx
    clear hnx hm HX0 HB0 HR
    go_wp2_with (first
      | (go_at_call 7; refine HNX.out.mono ?_; rintro e w2 ⟨rfl, hb2⟩; have HB2 := hid (HB1.out.trans (hb2.mono HB1.out.size)); have HAL := hid (alive_any (w2.alloc (.cells #[.int .i64 0, .int .u64 0, .int .i64 0] 32))); clear hb2 HNX b0 b1 b2 b3 b4 b5 b6 b7 b8)
      | (go_at_call 8; refine HAL.out.mono ?_; rintro e w3 ⟨rfl, hb3⟩; have HB3 := hid ((HB2.out.alloc HB2.out.size _).trans (hb3.mono (by have := HB2.out.size; simp; omega))); clear hb3 HAL))
    go_ret
    exact ⟨rfl, HB3.out⟩
  | some pk =>
    rw [hm] at hnx
    simp only [pkv, Pk.cells] at hnx
    have HNX := hid hnx
    have hbst : 0 ≤ bst (rdy L) Pv.time L n ∧ pk.path = bst (rdy L) Pv.time L n := by
      unfold minO at hm
      simp only [Vw.fastest, HN.out, sendO] at hm
      split at hm
      · split at hm
        · cases hm
        · cases hm; exact ⟨by omega, rfl⟩
      · cases hm
    have hbb := bst_bd (rdy L) Pv.time L n
    have HBE := hid (bst_best (rdy L) Pv.time L n)
    obtain ⟨P, po, pl⟩ := pk
    simp only at hbst HNX
    obtain ⟨q, hq⟩ : ∃ q : Nat, bst (rdy L) Pv.time L n = q := ⟨(bst (rdy L) Pv.time L n).toNat, by omega⟩
    rw [hq] at hbst hbb HBE
    obtain ⟨-, rfl⟩ := hbst
    have hqn : (q : Int) < n := by omega
    have hql : q < L.length := by have := HN.out; omega
    have hq0 : decide ((q : Int) < 0) = false := by simp
    have hq1 : ¬ (q : Int) < 0 := by omega
    have hq2 : decide (n ≤ q) = false := by simp; omega
    have hq3 : ¬ n ≤ q := by omega
    have hq4 : decide ((n : Int) ≤ (q : Int)) = false := by simp; omega
    clear hnx hm HX0 HB0 HR hq hbb
    go_upto_region 7 with (go_at_call 7; refine HNX.out.mono ?_; rintro e w2 ⟨rfl, hb2⟩; have HB2 := hid (HB1.out.trans (hb2.mono HB1.out.size)); have HX2 := hid (HX1.out.kept hb2 HX1.out.lt); clear hb2 HNX b0 b1 b2 b3 b4 b5 b6 b7 b8)
    refine wp_world fun W3 HW => ?_
    obtain ⟨z, hz⟩ : ∃ z, z = w2.heap.size := ⟨_, rfl⟩
    have HB3 : Hid (Below w.heap.size w W3) := by show Below _ _ _; rw [HW.out]; exact HB2.out.alloc HB2.out.size _
    have HX3 : Hid (Row W3 x [.slice a n cap, .bool has, .int .u64 want.off, .int .i64 want.len, .bool want.fin, .slice want.on.a want.on.n want.on.c, .bool want.held, .int .u64 edge, .int .i64 mss] 28) := by show Row _ _ _ _; rw [HW.out]; exact HX2.out.alloc _
    have HZ3 : Hid (Row W3 z [.int .i64 q, .int .u64 po, .int .i64 pl] 32) := by show Row _ _ _ _; rw [HW.out, hz]; exact Row.new' _ _ _ _ _ rfl rfl
    rw [← hz]
    clear HW hz HB2 HX2 HX1 HB1
    have b0 := HX3.out.cell 0 _ rfl
    have z0 := HZ3.out.cell 0 _ rfl
    go_wp2
    clear b0 z0
    go_loopw [6, 7, 8] (fun s6 _ _ wr => ∃ k : Nat, k ≤ n ∧ s6 = .int .i64 k ∧ Hid (Below w.heap.size w wr) ∧ Hid (Row wr x [.slice a n cap, .bool has, .int .u64 want.off, .int .i64 want.len, .bool want.fin, .slice want.on.a want.on.n want.on.c, .bool want.held, .int .u64 edge, .int .i64 mss] 28) ∧ Hid (Row wr z [.int .i64 q, .int .u64 po, .int .i64 pl] 32)) (fun s _ _ _ => n - (intOf s).toNat)
    case atStart => exact ⟨0, Nat.zero_le _, rfl, HB3, HX3, HZ3⟩
    case round =>
      obtain ⟨k, hk, rfl, HB, HX, HZ⟩ := hrel
      have b0 := HX.out.cell 0 _ rfl
      have z0 := HZ.out.cell 0 _ rfl
      by_cases hlt : k < n
      · have hkl : k < L.length := by have := HN.out; omega
        have hki : (k : Int) < n := by omega
        by_cases hkq : k = q
        · subst hkq
          have hkk : ((k : Int) == (k : Int)) = true := by simp
          go_wp2
          go_roundw
          case rel => first | exact ⟨k + 1, hlt, by go_num, HB, HX, HZ⟩ | exact ⟨_, _, _, _, _, _, _, _, _, _, _, _, _, _, _, _, _, _, _, _, _, _, _, _, _, _, _, _, _, _, _, _, _, _, _, _, _, _, _, _, _, _, _, _, _, _, _, _, _, _, _, _, _, _, _, _, _, ⟨k + 1, hlt, by go_num, HB, HX, HZ⟩, rfl⟩
          case measure => simp [intOf]; omega
        · have hkb : ((k : Int) == (q : Int)) = false := by simp; omega
          have hkb2 : ¬ (k : Int) = q := by omega
          have b1 := HX.out.cell 1 _ rfl
          have b2 := HX.out.cell 2 _ rfl
          have b3 := HX.out.cell 3 _ rfl
          have b4 := HX.out.cell 4 _ rfl
          have b5 := HX.out.cell 5 _ rfl
          have b6 := HX.out.cell 6 _ rfl
          have b7 := HX.out.cell 7 _ rfl
          have b8 := HX.out.cell 8 _ rfl
          have hca := lcall_any (HV.out.kept HB.out) k hkl
          simp only [Vw.val, Vw.cells, HN.out] at hca
          obtain ⟨P, hP⟩ : ∃ P, L[k] = P := ⟨_, rfl⟩
          rw [hP] at hca
          have HRD : Hid (rdy L (pth L k) = (P.call (oth L) && P.room)) := by show _ = _; rw [pth_eq hkl, hP]; rfl
          have HB1' : Hid (∀ w', Below wr.heap.size wr w' → Below w.heap.size w w') := fun w' h => HB.out.trans (h.mono HB.out.size)
          have HPE := hid hP
          cases hcl : P.call (oth L) with
          | false =>
            rw [hcl] at hca
            have HCA := hid hca
            clear hca hcl hP
            go_wp2_with (go_at_call 9; refine HCA.out.mono ?_; rintro e w4 ⟨rfl, hb4⟩; replace HB := hid (HB1'.out _ hb4); replace HX := hid (HX.out.kept hb4 HX.out.lt); replace HZ := hid (HZ.out.kept hb4 HZ.out.lt); clear hb4 HCA b0 b1 b2 b3 b4 b5 b6 b7 b8 z0)
            go_roundw
            case rel => first | exact ⟨k + 1, hlt, by go_num, HB, HX, HZ⟩ | exact ⟨_, _, _, _, _, _, _, _, _, _, _, _, _, _, _, _, _, _, _, _, _, _, _, _, _, _, _, _, _, _, _, _, _, _, _, _, _, _, _, _, _, _, _, _, _, _, _, _, _, _, _, _, _, _, _, _, _, ⟨k + 1, hlt, by go_num, HB, HX, HZ⟩, rfl⟩
            case measure => simp [intOf]; omega
          | true =>
            rw [hcl] at hca HRD
            have HCA := hid hca
            clear hca hcl hP
            have HPA : Hid (∀ w', Below wr.heap.size wr w' → PathsAt w' a L) := fun w' hb => ((HV.out.kept HB.out).kept hb).at_
            have HRM := hid (fun w => lroom_any w P)
            simp only [Pv.val, Pv.cells] at HRM
            obtain ⟨g, o, rfl⟩ : ∃ g o, a = some ⟨g, o, none⟩ := by obtain ⟨g, o, e, _⟩ := HV.out.at_.cell hkl; exact ⟨g, o, e⟩
            have HCE : Hid (∀ w', Below wr.heap.size wr w' → w'.cell? ⟨g, o + k * 12, none⟩ = some (.bool P.u) ∧ w'.cell? ⟨g, o + k * 12 + 1, none⟩ = some (.bool P.b) ∧ w'.cell? ⟨g, o + k * 12 + 2, none⟩ = some (.bool P.k) ∧ w'.cell? ⟨g, o + k * 12 + 3, none⟩ = some (.int .u64 P.s) ∧ w'.cell? ⟨g, o + k * 12 + 4, none⟩ = some (.int .i64 P.w) ∧ w'.cell? ⟨g, o + k * 12 + 5, none⟩ = some (.int .i64 P.i)
    ∧ w'.cell? ⟨g, o + k * 12 + 6, none⟩ = some (.bool P.h) ∧ w'.cell? ⟨g, o + k * 12 + 7, none⟩ = some (.int .u64 P.c.off) ∧ w'.cell? ⟨g, o + k * 12 + 8, none⟩ = some (.int .i64 P.c.len) ∧ w'.cell? ⟨g, o + k * 12 + 9, none⟩ = some (.bool P.c.fin) ∧ w'.cell? ⟨g, o + k * 12 + 10, none⟩ = some (.slice P.c.on.a P.c.on.n P.c.on.c) ∧ w'.cell? ⟨g, o + k * 12 + 11, none⟩ = some (.bool P.c.held)) := fun w' hb => by
              obtain ⟨g', o', e', h⟩ := (HPA.out w' hb).cell hkl
              cases e'
              rw [HPE.out] at h
              exact h
            cases hrm : P.room with
            | false =>
              rw [hrm] at HRM
              clear hrm
              go_wp2_with (first
                | (go_at_call 9; refine HCA.out.mono ?_; rintro e w4 ⟨rfl, hb4⟩; obtain ⟨q0, q1, q2, q3, q4, q5, q6, q7, q8, q9, q10, q11⟩ := HCE.out w4 hb4; replace HB := hid (HB1'.out _ hb4); replace HX := hid (HX.out.kept hb4 HX.out.lt); replace HZ := hid (HZ.out.kept hb4 HZ.out.lt); clear hb4 HCA b0 b1 b2 b3 b4 b5 b6 b7 b8 z0; have b0 := HX.out.cell 0 _ rfl; have z0 := HZ.out.cell 0 _ rfl)
                | (go_at_call 10; refine (HRM.out _).mono ?_; rintro e w5 ⟨rfl, hb5⟩; replace HB := hid (HB.out.trans (hb5.mono HB.out.size)); replace HX := hid (HX.out.kept hb5 HX.out.lt); replace HZ := hid (HZ.out.kept hb5 HZ.out.lt); clear hb5 HRM b0 z0))
              go_roundw
              case rel => first | exact ⟨k + 1, hlt, by go_num, HB, HX, HZ⟩ | exact ⟨_, _, _, _, _, _, _, _, _, _, _, _, _, _, _, _, _, _, _, _, _, _, _, _, _, _, _, _, _, _, _, _, _, _, _, _, _, _, _, _, _, _, _, _, _, _, _, _, _, _, _, _, _, _, _, _, _, ⟨k + 1, hlt, by go_num, HB, HX, HZ⟩, rfl⟩
              case measure => simp [intOf]; omega
            | true =>
              rw [hrm] at HRM HRD
              clear hrm
              have hbe := HBE.out.2 k hlt HRD.out
              rw [Int.toNat_natCast, pth_eq hql, pth_eq hkl, HPE.out] at hbe
              obtain ⟨Q, hQ⟩ : ∃ Q, L[q] = Q := ⟨_, rfl⟩
              rw [hQ] at hbe
              have HQE := hid hQ
              have HT1 := hid (fun w => ltime_any w P)
              have HT2 := hid (fun w => ltime_any w Q)
              simp only [Pv.val, Pv.cells] at HT1 HT2
              clear hQ
              have HCQ : Hid (∀ w', Below wr.heap.size wr w' → w'.cell? ⟨g, o + q * 12, none⟩ = some (.bool Q.u) ∧ w'.cell? ⟨g, o + q * 12 + 1, none⟩ = some (.bool Q.b) ∧ w'.cell? ⟨g, o + q * 12 + 2, none⟩ = some (.bool Q.k) ∧ w'.cell? ⟨g, o + q * 12 + 3, none⟩ = some (.int .u64 Q.s) ∧ w'.cell? ⟨g, o + q * 12 + 4, none⟩ = some (.int .i64 Q.w) ∧ w'.cell? ⟨g, o + q * 12 + 5, none⟩ = some (.int .i64 Q.i) ∧ w'.cell? ⟨g, o + q * 12 + 6, none⟩ = some (.bool Q.h) ∧ w'.cell? ⟨g, o + q * 12 + 7, none⟩ = some (.int .u64 Q.c.off) ∧ w'.cell? ⟨g, o + q * 12 + 8, none⟩ = some (.int .i64 Q.c.len) ∧ w'.cell? ⟨g, o + q * 12 + 9, none⟩ = some (.bool Q.c.fin) ∧ w'.cell? ⟨g, o + q * 12 + 10, none⟩ = some (.slice Q.c.on.a Q.c.on.n Q.c.on.c) ∧ w'.cell? ⟨g, o + q * 12 + 11, none⟩ = some (.bool Q.c.held)) := fun w' hb => by
                obtain ⟨g', o', e', h⟩ := (HPA.out w' hb).cell hql
                cases e'
                rw [HQE.out] at h
                exact h
              have hfin : (¬ P.time < Q.time) ∧ ((P.time == Q.time) = false ∨ ((P.time == Q.time) = true ∧ ¬ (k : Int) < q)) := by
                rcases hbe.2 with h | ⟨h, h2⟩
                · exact ⟨by omega, .inl (by simp; omega)⟩
                · exact ⟨by omega, .inr ⟨by simp; omega, by omega⟩⟩
              generalize P.time = tP at *
              generalize Q.time = tQ at *
              obtain ⟨hf1, hf2⟩ := hfin
              have HBW : Hid (Below wr.heap.size wr wr) := Below.refl _ _
              clear hbe HBE HPA HPE HQE HRD
              rcases hf2 with hf2 | ⟨hf2, hf3⟩
              all_goals
                go_upto_region 14 with (first
                  | (go_at_call 9; refine HCA.out.mono ?_; rintro e w4 ⟨rfl, hb4⟩; replace HBW := hid (HBW.out.trans hb4); obtain ⟨q0, q1, q2, q3, q4, q5, q6, q7, q8, q9, q10, q11⟩ := HCE.out w4 HBW.out; replace HB := hid (HB.out.trans (hb4.mono HB.out.size)); replace HX := hid (HX.out.kept hb4 HX.out.lt); replace HZ := hid (HZ.out.kept hb4 HZ.out.lt); clear hb4 HCA b0 b1 b2 b3 b4 b5 b6 b7 b8 z0; have b0 := HX.out.cell 0 _ rfl; have z0 := HZ.out.cell 0 _ rfl)
                  | (go_at_call 10; refine (HRM.out _).mono ?_; rintro e w5 ⟨rfl, hb5⟩; replace HBW := hid (HBW.out.trans (hb5.mono HBW.out.size)); clear q0 q1 q2 q3 q4 q5 q6 q7 q8 q9 q10 q11; obtain ⟨q0, q1, q2, q3, q4, q5, q6, q7, q8, q9, q10, q11⟩ := HCE.out w5 HBW.out; replace HB := hid (HB.out.trans (hb5.mono HB.out.size)); replace HX := hid (HX.out.kept hb5 HX.out.lt); replace HZ := hid (HZ.out.kept hb5 HZ.out.lt); clear hb5 HRM b0 z0; have b0 := HX.out.cell 0 _ rfl; have z0 := HZ.out.cell 0 _ rfl)
                  | (go_at_call 11; refine (HT1.out _).mono ?_; rintro e w6 ⟨rfl, hb6⟩; replace HBW := hid (HBW.out.trans (hb6.mono HBW.out.size)); clear q0 q1 q2 q3 q4 q5 q6 q7 q8 q9 q10 q11; replace HB := hid (HB.out.trans (hb6.mono HB.out.size)); replace HX := hid (HX.out.kept hb6 HX.out.lt); replace HZ := hid (HZ.out.kept hb6 HZ.out.lt); clear hb6 HT1 b0 z0))
                have b0 := HX.out.cell 0 _ rfl
                have z0 := HZ.out.cell 0 _ rfl
                obtain ⟨q0, q1, q2, q3, q4, q5, q6, q7, q8, q9, q10, q11⟩ := HCQ.out _ HBW.out
                go_wp2_with (go_at_call 11; refine (HT2.out _).mono ?_; rintro e w7 ⟨rfl, hb7⟩; clear q0 q1 q2 q3 q4 q5 q6 q7 q8 q9 q10 q11; replace HB := hid (HB.out.trans (hb7.mono HB.out.size)); replace HX := hid (HX.out.kept hb7 HX.out.lt); replace HZ := hid (HZ.out.kept hb7 HZ.out.lt); clear hb7 HT2 b0 z0; have z0 := HZ.out.cell 0 _ rfl)
                go_roundw
                case rel => first | exact ⟨k + 1, hlt, by go_num, HB, HX, HZ⟩ | exact ⟨_, _, _, _, _, _, _, _, _, _, _, _, _, _, _, _, _, _, _, _, _, _, _, _, _, _, _, _, _, _, _, _, _, _, _, _, _, _, _, _, _, _, _, _, _, _, _, _, _, _, _, _, _, _, _, _, _, ⟨k + 1, hlt, by go_num, HB, HX, HZ⟩, rfl⟩
                case measure => simp [intOf]; omega
      · obtain rfl : k = n := by omega
        clear hlt
        have HAL := hid (alive_any wr)
        go_wp2_with (go_at_call 8; refine HAL.out.mono ?_; rintro e w6 ⟨rfl, hb6⟩; have HB6 := hid (HB.out.trans (hb6.mono HB.out.size)); clear hb6 HAL)
        go_ret
        exact ⟨rfl, HB6.out⟩
end Go.Proofs.Ytdbdiebgjnofgab
