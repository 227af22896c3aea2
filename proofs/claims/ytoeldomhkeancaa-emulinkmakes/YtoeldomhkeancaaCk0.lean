import Derived.Test.YtoeldomhkeancaaNl0
namespace Go.Proofs.Ytoeldomhkeancaa
open Go.RowKit Go.Maps
set_option maxRecDepth 100000

set_option maxHeartbeats 4000000 in
/-- The document's own look at a configuration says the same. -/
theorem check_any {w : World} {r d q : Int} {la ja : Option Addr} {ln lc jc : Nat} {jit : List Int} (hj : ElAt w ja (jit.map (Value.int .i64))) (hjl : jit.length ≤ 140737488355328) (hll : ln ≤ 140737488355328) :
    Calls Try.prog 41 #[.agg (confC r d q (.slice la ln lc) (.slice ja jit.length jc)).toArray] w fun e w' => e = .returned (.int .i64 (fitE r d q ln jit)) ∧ Below w.heap.size w w' := by
  have hb1 := below_new w (.cells #[.int .i64 r, .int .i64 d, .int .i64 q, .slice la ln lc, .slice ja jit.length jc] 28)
  have R := Row.new w [.int .i64 r, .int .i64 d, .int .i64 q, .slice la ln lc, .slice ja jit.length jc] 28
  have hj1 := hj.kept hb1
  have HB := hid hb1
  have x0 := R.cell 0 _ rfl
  have x1 := R.cell 1 _ rfl
  have x2 := R.cell 2 _ rfl
  have x3 := R.cell 3 _ rfl
  have x4 := R.cell 4 _ rfl
  have HJ := hid hj1
  have hji : (jit.length : Int) ≤ 140737488355328 := by omega
  have hli : (ln : Int) ≤ 140737488355328 := by omega
  clear hj hj1 hb1 R
  simp only [confC]
  go_enter Try.func41, Try.ntmps41
  go_upto_region 1 with fail
  revert HB x0 x1 x2 x3 x4 HJ
  generalize w.alloc (.cells #[.int .i64 r, .int .i64 d, .int .i64 q, .slice la ln lc, .slice ja jit.length jc] 28) = w1
  intro HB x0 x1 x2 x3 x4 HJ
  obtain ⟨b, hb⟩ : ∃ b, w.heap.size = b := ⟨_, rfl⟩
  rw [hb] at x0 x1 x2 x3 x4 ⊢
  clear hb
  by_cases r0 : r < 0
  · have HF : Hid (fitE r d q ln jit = 240) := by show _ = _; unfold fitE; rw [if_pos (.inl r0)]
    go_wp2_with fail
    go_ret
    exact ⟨by rw [HF.out]; rfl, HB.out⟩
  by_cases r1 : 1099511627776 < r
  · have HF : Hid (fitE r d q ln jit = 240) := by show _ = _; unfold fitE; rw [if_pos (.inr r1)]
    go_wp2_with fail
    go_ret
    exact ⟨by rw [HF.out]; rfl, HB.out⟩
  by_cases d0 : d < 0
  · have HF : Hid (fitE r d q ln jit = 241) := by show _ = _; unfold fitE; rw [if_neg (by omega), if_pos (.inl d0)]
    go_wp2_with fail
    go_ret
    exact ⟨by rw [HF.out]; rfl, HB.out⟩
  by_cases d1 : 1099511627776 < d
  · have HF : Hid (fitE r d q ln jit = 241) := by show _ = _; unfold fitE; rw [if_neg (by omega), if_pos (.inr d1)]
    go_wp2_with fail
    go_ret
    exact ⟨by rw [HF.out]; rfl, HB.out⟩
  by_cases q0 : q < 1
  · have HF : Hid (fitE r d q ln jit = 242) := by show _ = _; unfold fitE; rw [if_neg (by omega), if_neg (by omega), if_pos (.inl q0)]
    go_wp2_with fail
    go_ret
    exact ⟨by rw [HF.out]; rfl, HB.out⟩
  by_cases q1 : 1073741824 < q
  · have HF : Hid (fitE r d q ln jit = 242) := by show _ = _; unfold fitE; rw [if_neg (by omega), if_neg (by omega), if_pos (.inr q1)]
    go_wp2_with fail
    go_ret
    exact ⟨by rw [HF.out]; rfl, HB.out⟩
  by_cases l1 : 65536 < ln
  · have HF : Hid (fitE r d q ln jit = 243) := by show _ = _; unfold fitE; rw [if_neg (by omega), if_neg (by omega), if_neg (by omega), if_pos (.inl l1)]
    have l1i : 65536 < (ln : Int) := by omega
    go_wp2_with fail
    go_ret
    exact ⟨by rw [HF.out]; rfl, HB.out⟩
  have l1i : ¬ 65536 < (ln : Int) := by omega
  by_cases l2 : 65536 < jit.length
  · have HF : Hid (fitE r d q ln jit = 243) := by show _ = _; unfold fitE; rw [if_neg (by omega), if_neg (by omega), if_neg (by omega), if_pos (.inr (.inl l2))]
    have l2i : 65536 < (jit.length : Int) := by omega
    go_wp2_with fail
    go_ret
    exact ⟨by rw [HF.out]; rfl, HB.out⟩
  have l2i : ¬ 65536 < (jit.length : Int) := by omega
  have HG1 : Hid (jit.any badJ = true → fitE r d q ln jit = 243) := fun hbad => by
    unfold fitE; rw [if_neg (by omega), if_neg (by omega), if_neg (by omega), if_pos (.inr (.inr hbad))]
  have HG0 : Hid (jit.any badJ = false → fitE r d q ln jit = 0) := fun hbad => by
    unfold fitE
    rw [if_neg (by omega), if_neg (by omega), if_neg (by omega), if_neg (by rw [hbad]; simp; omega)]
  go_wp2_with fail
  go_loopw [3] (fun i wr => ∃ k : Nat, k ≤ jit.length ∧ i = .int .i64 k ∧ Hid ((jit.take k).any badJ = false) ∧ wr = w1) (fun i _ => jit.length - (intOf i).toNat)
  case atStart => exact ⟨0, Nat.zero_le _, by go_num, rfl, rfl⟩
  case round =>
    obtain ⟨k, hk, rfl, HA, rfl⟩ := hrel
    have hki : (k : Int) ≤ 140737488355328 := by omega
    by_cases hlt : k < jit.length
    · obtain ⟨g, o, rfl, c1⟩ := HJ.out k (.int .i64 jit[k]) (by simp [hlt])
      have HS := hid (show (jit.take (k + 1)).any badJ = ((jit.take k).any badJ || badJ jit[k]) by rw [List.take_succ_eq_append_getElem hlt, List.any_append]; simp)
      have HM := hid (List.getElem_mem hlt)
      have hlti : (k : Int) < (jit.length : Int) := by omega
      generalize jit[k] = x at *
      by_cases hx0 : x < 0
      · have HX : Hid (badJ x = true) := by show badJ x = true; unfold badJ; exact decide_eq_true (.inl hx0)
        go_wp2_with fail
        go_ret
        exact ⟨by rw [HG1.out (List.any_eq_true.2 ⟨x, HM.out, HX.out⟩)]; rfl, HB.out⟩
      · by_cases hx1 : 1099511627776 < x
        · have HX : Hid (badJ x = true) := by show badJ x = true; unfold badJ; exact decide_eq_true (.inr hx1)
          go_wp2_with fail
          go_ret
          exact ⟨by rw [HG1.out (List.any_eq_true.2 ⟨x, HM.out, HX.out⟩)]; rfl, HB.out⟩
        · have HX : Hid (badJ x = false) := by show badJ x = false; unfold badJ; exact decide_eq_false (by omega)
          go_wp2_with fail
          go_roundw
          case rel => exact ⟨k + 1, hlt, by go_num, by show _ = _; rw [HS.out, HA.out, HX.out]; rfl, trivial⟩
          case measure => simp [intOf]; omega
    · obtain rfl : k = jit.length := by omega
      have HA2 := hid HA.out
      rw [List.take_length] at HA2
      go_wp2_with fail
      go_ret
      exact ⟨by rw [HG0.out HA2.out]; rfl, HB.out⟩
end Go.Proofs.Ytoeldomhkeancaa
