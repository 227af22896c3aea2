import Derived.Test.YtkcoabjeaoigdabRef3
namespace Go.Proofs.Ytkcoabjeaoigdab
open Go.RowKit Go.Sort
set_option maxRecDepth 100000

theorem take_snoc' {α : Type} (l : List α) (k : Nat) (h : k < l.length) : l.take (k + 1) = l.take k ++ [l[k]] := by rw [List.take_add_one, List.getElem?_eq_getElem h]; rfl
theorem LAt.kept {w w' : World} {v : Value} {L : List Ln} (h : LAt w v L) (hb : Below w.heap.size w w') : LAt w' v L := by
  obtain ⟨q, cap, e, c, hr, hc⟩ := h
  exact ⟨q, cap, e, c, hr.kept hb hr.lt, hc⟩
theorem cg_take {L : List Ln} (h : ∀ l ∈ L, Cg l) (i : Nat) : ∀ l ∈ L.take i, Cg l := fun l hl => h l (List.mem_of_mem_take hl)
set_option maxHeartbeats 2000000 in
theorem alpha_any {w : World} {v : Value} {L : List Ln} (h : LAt w v L) (hne : L ≠ []) (hg : ∀ l ∈ L, Cg l) (h8 : L.length ≤ 8) :
    Calls Try.prog 29 #[v] w fun e w' => e = .returned (.tuple #[.int .u64 (qOf L * pOf L / 1048576), .int .u64 (tot L)]) ∧ w' = w := by
  obtain ⟨q, cap, rfl, c, hr, hc⟩ := h
  have h1 : 0 < L.length := by cases L with
    | nil => exact absurd rfl hne
    | cons _ _ => simp
  have HR := hid hr
  have HC := hid hc
  have HNE := hid hne
  have HG := hid hg
  have H8 := hid h8
  obtain ⟨ln, hln⟩ : ∃ ln, ln = L.length := ⟨_, rfl⟩
  have HLN := hid hln
  have d3 := hr.cell 3 _ (hc 0 h1).2.2.2
  have l0 : 0 < ln := by omega
  have l0' : (0 : Int) < (ln : Int) := by omega
  rw [← hln]
  clear hr hc hne hg h8 hln
  obtain ⟨r0, hr0⟩ : ∃ r0, r0 = (L[0]'h1).r := ⟨_, rfl⟩
  rw [← hr0] at d3
  have HR0 := hid hr0
  clear hr0
  go_enter Try.func29, Try.ntmps29
  go_wp2
  go_loopw [4, 5] (fun m i wr => ∃ (k : Nat) (mm : Int), k ≤ ln ∧ i = .int .i64 k ∧ m = .int .u64 mm ∧ mm = min r0 (least (L.take k)) ∧ wr = w) (fun _ i _ => ln - (intOf i).toNat)
  case atStart =>
    refine ⟨0, r0, Nat.zero_le _, rfl, rfl, ?_, rfl⟩
    have := (HG.out _ (List.getElem_mem h1)).1.r1
    show r0 = min r0 60000
    rw [← HR0.out] at this
    omega
  case round =>
    obtain ⟨k, mm, hk, rfl, rfl, hmm, hwr⟩ := hrel
    replace hwr := hwr.symm
    subst hwr
    have HMM := hid hmm
    clear hmm d3
    by_cases hlt : k < ln
    · have hkl : k < L.length := by rw [← HLN.out]; exact hlt
      have l1 : (k : Int) < (ln : Int) := by omega
      have HK := hid hlt
      have hk2 : (k : Int) ≤ 8 := by have := H8.out; have := HLN.out; omega
      have a3 := HR.out.cell (k * 4 + 3) _ (HC.out k hkl).2.2.2
      have HST : Hid (min r0 (least (L.take (k + 1))) = min mm L[k].r) := by
        show _ = _
        rw [take_snoc' L k hkl, least_snoc, HMM.out]
        omega
      generalize L[k].r = rk at *
      clear hk hlt hkl
      by_cases hr : rk < mm
      · have dr : decide (rk < mm) = true := decide_eq_true hr
        have HN : Hid (rk = min mm rk) := by show _ = _; omega
        clear hr
        go_wp2
        go_roundw
        case rel => exact ⟨k + 1, rk, HK.out, by first | go_num | (rw [Int.natCast_succ]), rfl, by rw [HST.out]; exact HN.out, by first | rfl | trivial⟩
        case measure =>
          simp [intOf]
          have := HK.out
          omega
      · have dr : decide (rk < mm) = false := decide_eq_false hr
        have HN : Hid (mm = min mm rk) := by show _ = _; omega
        clear hr
        go_wp2
        go_roundw
        case rel => exact ⟨k + 1, mm, HK.out, by first | go_num | (rw [Int.natCast_succ]), rfl, by rw [HST.out]; exact HN.out, by first | rfl | trivial⟩
        case measure =>
          simp [intOf]
          have := HK.out
          omega
    · have e1 : decide ((k : Int) < (ln : Int)) = false := decide_eq_false (by omega)
      have e2 : decide (k < ln) = false := decide_eq_false hlt
      have HM : Hid (least L = mm) := by
        have h2 := HMM.out
        rw [show k = L.length by have := HLN.out; omega, List.take_length] at h2
        have h3 := least_le L _ (List.getElem_mem h1)
        rw [← HR0.out] at h3
        show _ = _
        omega
      clear hlt hk HMM
      have HMB : Hid (1 ≤ mm ∧ mm ≤ 60000) := by
        have := least_b L HG.out
        rw [HM.out] at this
        exact this
      go_wp2
      go_loopw [6, 7, 8, 9] (fun s b t i wr => ∃ (j : Nat), j ≤ ln ∧ i = .int .i64 j ∧ s = .int .u64 (sumA mm (L.take j)) ∧ b = .int .u64 (bestB mm (L.take j)) ∧ t = .int .u64 (tot (L.take j)) ∧ wr = w) (fun _ _ _ i _ => ln - (intOf i).toNat)
      case atStart => exact ⟨0, Nat.zero_le _, rfl, rfl, rfl, rfl, by first | rfl | trivial⟩
      case round =>
        obtain ⟨j, hj, rfl, rfl, rfl, rfl, hwr⟩ := hrel
        replace hwr := hwr.symm
        subst hwr
        by_cases hlt : j < ln
        · have hkl : j < L.length := by rw [← HLN.out]; exact hlt
          have l1 : (j : Int) < (ln : Int) := by omega
          have HJ := hid hlt
          have hj2 : (j : Int) ≤ 8 := by have := H8.out; have := HLN.out; omega
          have b0 := HR.out.cell (j * 4) _ (HC.out j hkl).1
          have b3 := HR.out.cell (j * 4 + 3) _ (HC.out j hkl).2.2.2
          have hcg := HG.out _ (List.getElem_mem hkl)
          have HS1 := hid (show sumA mm (L.take (j + 1)) = sumA mm (L.take j) + aOf mm L[j] by rw [take_snoc' L j hkl, sumA_snoc])
          have HS2 := hid (show bestB mm (L.take (j + 1)) = max (bestB mm (L.take j)) (bOf mm L[j]) by rw [take_snoc' L j hkl, bestB_snoc])
          have HS3 := hid (show tot (L.take (j + 1)) = tot (L.take j) + L[j].c by rw [take_snoc' L j hkl, tot_snoc])
          have hs := sumA_b HMB.out (L.take j) (cg_take HG.out j)
          have hbb := bestB_b HMB.out (L.take j) (cg_take HG.out j)
          have ht := tot_b (L.take j) (cg_take HG.out j)
          have hlen : (L.take j).length ≤ 8 := by have := List.length_take_le' j L; have := H8.out; omega
          obtain ⟨a0, a1, a2, a3⟩ := aOf_b HMB.out hcg
          obtain ⟨g0, g1, g2, g3⟩ := bOf_b HMB.out hcg
          obtain ⟨q0, q1⟩ := rr_b hcg
          have r1' := hcg.r1
          have k0 := hcg.1.c0
          have k1 := hcg.1.c1
          generalize L[j] = l at *
          obtain ⟨cx, tx, onx, rx⟩ := l
          simp only [aOf, bOf] at a0 a1 a2 a3 g0 g1 g2 g3 q0 q1 r1' k0 k1 HS1 HS2 HS3 b0 b3
          have uc : IntKind.u64.wrap cx = cx := by rw [IntKind.wrap_u64]; omega
          have e1 : IntKind.u64.wrap (cx * 16) = cx * 16 := by rw [IntKind.wrap_u64]; omega
          obtain ⟨A, hA⟩ : ∃ A, A = cx * 16 * mm := ⟨_, rfl⟩
          rw [← hA] at a0 a1 a2 a3 g0 g1 g2 g3 HS1 HS2
          have e2 : IntKind.u64.wrap (cx * 16 * mm) = A := by rw [← hA, IntKind.wrap_u64]; omega
          obtain ⟨A2, hA2⟩ : ∃ A2, A2 = A * mm := ⟨_, rfl⟩
          rw [← hA2] at g0 g1 g2 g3 HS2
          obtain ⟨R2, hR2⟩ : ∃ R2, R2 = rx * rx := ⟨_, rfl⟩
          rw [← hR2] at g2 g3 q0 q1 HS2
          have e3 : A.tdiv rx = A / rx := Int.tdiv_eq_ediv_of_nonneg a0
          have e4 : IntKind.u64.wrap (A / rx) = A / rx := by rw [IntKind.wrap_u64]; omega
          have e5 : IntKind.u64.wrap (A * mm) = A2 := by rw [← hA2, IntKind.wrap_u64]; omega
          have e6 : IntKind.u64.wrap (rx * rx) = R2 := by rw [← hR2, IntKind.wrap_u64]; omega
          have e7 : A2.tdiv R2 = A2 / R2 := Int.tdiv_eq_ediv_of_nonneg g0
          have e8 : IntKind.u64.wrap (A2 / R2) = A2 / R2 := by rw [IntKind.wrap_u64]; omega
          generalize sumA mm (L.take j) = s at *
          generalize bestB mm (L.take j) = b at *
          generalize tot (L.take j) = t at *
          have e9 : IntKind.u64.wrap (s + A / rx) = s + A / rx := by rw [IntKind.wrap_u64]; omega
          have e10 : IntKind.u64.wrap (t + cx) = t + cx := by rw [IntKind.wrap_u64]; omega
          have nz1 : ¬ rx = 0 := by omega
          have nz2 : ¬ R2 = 0 := by omega
          clear a0 a1 a2 a3 g0 g1 g2 g3 q0 q1 r1' k0 k1 hs hbb ht hlen hcg hA hA2 hR2 hj hlt hkl
          generalize A / rx = ar at *
          generalize A2 / R2 = br at *
          by_cases hbr : b < br
          · have db : decide (b < br) = true := decide_eq_true hbr
            have HN : Hid (br = max b br) := by show _ = _; omega
            clear hbr
            go_wp2
            go_roundw
            case rel => exact ⟨j + 1, HJ.out, by first | go_num | (rw [Int.natCast_succ]), by rw [HS1.out], by rw [HS2.out, ← HN.out], by rw [HS3.out], by first | rfl | trivial⟩
            case measure =>
              simp [intOf]
              have := HJ.out
              omega
          · have db : decide (b < br) = false := decide_eq_false hbr
            have HN : Hid (b = max b br) := by show _ = _; omega
            clear hbr
            go_wp2
            go_roundw
            case rel => exact ⟨j + 1, HJ.out, by first | go_num | (rw [Int.natCast_succ]), by rw [HS1.out], by rw [HS2.out, ← HN.out], by rw [HS3.out], by first | rfl | trivial⟩
            case measure =>
              simp [intOf]
              have := HJ.out
              omega
        · have e1' : decide ((j : Int) < (ln : Int)) = false := decide_eq_false (by omega)
          have e2' : decide (j < ln) = false := decide_eq_false hlt
          have ej : L.take j = L := by rw [show j = L.length by have := HLN.out; omega, List.take_length]
          rw [ej]
          obtain ⟨q0, q1, p0, p1⟩ := qp_b L HNE.out HG.out H8.out
          have s0 := sumA_ge L HNE.out HG.out
          have b0 := bestB_b HMB.out L HG.out
          have b1 := bestB_le HMB.out L HG.out (by rw [← HM.out]; exact least_le L)
          have t0 := tot_b L HG.out
          have h8 := H8.out
          have eq : qOf L = bestB mm L * 1048576 / sumA mm L := by unfold qOf; rw [HM.out]
          have ep : pOf L = tot L * 8192 / sumA mm L := by unfold pOf; rw [HM.out, show tot L * 16 * 512 = tot L * 8192 by omega]
          rw [HM.out] at s0
          rw [eq] at q0 q1
          rw [ep] at p0 p1
          have HE : Hid (qOf L * pOf L / 1048576 = (bestB mm L * 1048576 / sumA mm L) * (tot L * 8192 / sumA mm L) / 1048576) := by show _ = _; rw [eq, ep]
          generalize sumA mm L = S at *
          generalize bestB mm L = B at *
          generalize hT : tot L = T at *
          have HT := hid hT
          clear hT
          have z1 : IntKind.u64.wrap (B * 1048576) = B * 1048576 := by rw [IntKind.wrap_u64]; omega
          have z2 : (B * 1048576).tdiv S = B * 1048576 / S := Int.tdiv_eq_ediv_of_nonneg (by omega)
          have z4 : IntKind.u64.wrap (T * 8192) = T * 8192 := by rw [IntKind.wrap_u64]; omega
          have z5 : (T * 8192).tdiv S = T * 8192 / S := Int.tdiv_eq_ediv_of_nonneg (by omega)
          generalize B * 1048576 / S = qq at *
          generalize T * 8192 / S = pp at *
          have z6 : IntKind.u64.wrap qq = qq := by rw [IntKind.wrap_u64]; omega
          have z7 : IntKind.u64.wrap pp = pp := by rw [IntKind.wrap_u64]; omega
          obtain ⟨m0, m1⟩ := mul_b q0 p0 q1 p1
          have z8 : IntKind.u64.wrap (qq * pp) = qq * pp := by rw [IntKind.wrap_u64]; omega
          have z9 : (qq * pp).tdiv 1048576 = qq * pp / 1048576 := Int.tdiv_eq_ediv_of_nonneg m0
          have z10 : IntKind.u64.wrap (qq * pp / 1048576) = qq * pp / 1048576 := by rw [IntKind.wrap_u64]; omega
          have nz1 : ¬ S = 0 := by omega
          clear q0 q1 p0 p1 s0 b0 b1 t0 h8 m0 m1 eq ep ej hlt hj
          go_wp2
          go_ret2
          exact ⟨by rw [HE.out, HT.out]; rfl, rfl⟩
end Go.Proofs.Ytkcoabjeaoigdab
