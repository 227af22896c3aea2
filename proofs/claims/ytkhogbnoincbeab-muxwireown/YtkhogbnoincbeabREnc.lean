import Derived.Test.YtkhogbnoincbeabRef0
import Derived.Test.YtkhogbnoincbeabRText
namespace Go.Proofs.Ytkhogbnoincbeab
open Go.RowKit Go.Maps Go.Sort
set_option maxRecDepth 100000

theorem rtext_fit (w : World) (k s n c h : Int) (a : Option Addr) (bs : List (BitVec 8)) (L cap : Nat) (hB : BytesAt w a bs) (hL : bs.length = L) (hz : a = none → cap = 0) (hs0 : 0 ≤ s) (hn0 : 0 ≤ n) (hf : faultI k s n c h L = 0) :
    Calls Try.prog 46 #[.agg #[.int .i64 k, .int .u64 s, .int .u64 n, .int .i64 c, .int .i64 h, .slice a L cap]] w fun e w' => ∃ v, e = .returned v ∧ OwnBy w' w.heap.size v (encB k s n c h bs) ∧ Below w.heap.size w w' := by
  obtain ⟨⟨k0, k1⟩, hb, hl, hbn, hba⟩ := faultI_zero hf
  unfold Big at hb
  by_cases e1 : k = 1
  · have := hbn.1 e1
    unfold Cls Shr at this
    exact rtext_open w k s n c h a bs L cap hB hL hz k0 k1 hs0 (by omega) hn0 (by omega) hl e1 (by omega) (by omega) (by omega) (by omega)
  by_cases e2 : k = 2
  · exact rtext_bytes w k s n c h a bs L cap hB hL hz k0 k1 hs0 (by omega) hn0 (by omega) hl e2
  by_cases e4 : k = 4
  · exact rtext_end w k s n c h a bs L cap hB hL hz k0 k1 hs0 (by omega) hn0 (by omega) hl e4
  by_cases e7 : HasS k
  · exact rtext_both w k s n c h a bs L cap hB hL hz k0 k1 hs0 (by omega) hn0 (by omega) hl (by unfold HasS at e7; omega)
  · exact rtext_ping w k s n c h a bs L cap hB hL hz k0 k1 hs0 (by omega) hn0 (by omega) hl (by unfold HasS at e7; omega)
set_option maxHeartbeats 1000000 in
theorem rencode_any (w : World) (k s n c h : Int) (a : Option Addr) (bs : List (BitVec 8)) (L cap : Nat) (hB : BytesAt w a bs) (hL : bs.length = L) (hz : a = none → cap = 0) (hs0 : 0 ≤ s) (hn0 : 0 ≤ n) :
    Calls Try.prog 29 #[.agg #[.int .i64 k, .int .u64 s, .int .u64 n, .int .i64 c, .int .i64 h, .slice a L cap]] w (EncAns w k s n c h bs) := by
  have HF := hid (fun w => rbounded_any w k s n c h a L cap hs0)
  have HX := hid (below_new w (.cells #[.int .i64 k, .int .u64 s, .int .u64 n, .int .i64 c, .int .i64 h, .slice a L cap] 41))
  have HQ := hid (fat_new w k s n c h (.slice a L cap))
  have HFD : Hid (faultI k s n c h bs.length = if ¬ Known k then 170 else if Big s n then 171 else if 16384 < L then 173 else if ¬ (Bnd k s c h L ∧ Bare k s n c h L) then 172 else 0) := by rw [hL]; rfl
  by_cases hk : Known k
  · by_cases hbg : Big s n
    · have HE : Hid (faultI k s n c h bs.length = 171) := by show _ = _; rw [HFD.out, if_neg (by simpa using hk), if_pos hbg]
      clear HF HFD hB hL hz
      obtain ⟨k0, k1⟩ := hk
      have k2 : ¬ k < 1 := by omega
      have k3 : ¬ 9 < k := by omega
      by_cases hb2 : 4611686018427387904 < s
      · clear hbg
        go_enter Try.func29, Try.ntmps29
        go_wp2
        go_ret2
        exact EncAns.no HE.out (by decide) HX.out
      · have hb3 : 4611686018427387904 < n := by unfold Big at hbg; omega
        clear hbg
        go_enter Try.func29, Try.ntmps29
        go_wp2
        go_ret2
        exact EncAns.no HE.out (by decide) HX.out
    · obtain ⟨k0, k1⟩ := hk
      have k2 : ¬ k < 1 := by omega
      have k3 : ¬ 9 < k := by omega
      have b2 : ¬ 4611686018427387904 < s := by unfold Big at hbg; omega
      have b3 : ¬ 4611686018427387904 < n := by unfold Big at hbg; omega
      by_cases hl : 16384 < L
      · have HE : Hid (faultI k s n c h bs.length = 173) := by show _ = _; rw [HFD.out, if_neg (by unfold Known; omega), if_neg hbg, if_pos hl]
        clear HF HFD hB hL hz hbg
        go_enter Try.func29, Try.ntmps29
        go_wp2
        go_ret2
        exact EncAns.no HE.out (by decide) HX.out
      · by_cases hr : RB k s n c h L
        · have HE : Hid (faultI k s n c h bs.length = 0) := by show _ = _; rw [HFD.out, if_neg (by unfold Known; omega), if_neg hbg, if_neg hl, if_neg (by rw [← rb_iff ⟨k0, k1⟩ hs0]; simpa using hr)]
          have HL : Hid (∀ W, Below w.heap.size w W → Calls Try.prog 46 #[.agg #[.int .i64 k, .int .u64 s, .int .u64 n, .int .i64 c, .int .i64 h, .slice a L cap]] W fun e w' => ∃ v, e = .returned v ∧ OwnBy w' W.heap.size v (encB k s n c h bs) ∧ Below W.heap.size W w') := fun W hb => rtext_fit W k s n c h a bs L cap (hB.kept hb) hL hz hs0 hn0 (by rw [← hL]; exact HE.out)
          have hr2 : decide (RB k s n c h L) = true := decide_eq_true hr
          rw [hr2] at HF
          clear HFD hB hL hz hbg hr hr2
          go_enter Try.func29, Try.ntmps29
          go_wp2_with (first | (go_at_call 45; refine (HF.out _).mono ?_; rintro e w1 ⟨rfl, hb1⟩; have HB1 := hid (HX.out.trans (hb1.mono HX.out.size)); obtain ⟨a0, a1, a2, a3, a4, a5⟩ := HQ.out.kept hb1; clear hb1) | (go_at_call 46; refine (HL.out _ HB1.out).mono ?_; rintro e w2 ⟨v, rfl, ho, hb2⟩; have HB2 := hid (HB1.out.trans (hb2.mono HB1.out.size)); have HO := hid ho; clear hb2 ho))
          go_ret2
          exact EncAns.yes HE.out HO.out HB1.out.size HB2.out
        · have HE : Hid (faultI k s n c h bs.length = 172) := by show _ = _; rw [HFD.out, if_neg (by unfold Known; omega), if_neg hbg, if_neg hl, if_pos (by rw [← rb_iff ⟨k0, k1⟩ hs0]; exact hr)]
          have hr2 : decide (RB k s n c h L) = false := decide_eq_false hr
          rw [hr2] at HF
          clear HFD hB hL hz hbg hr hr2
          go_enter Try.func29, Try.ntmps29
          go_wp2_with (go_at_call 45; refine (HF.out _).mono ?_; rintro e w1 ⟨rfl, hb1⟩; have HB1 := hid (HX.out.trans (hb1.mono HX.out.size)); clear hb1)
          go_ret2
          exact EncAns.no HE.out (by decide) HB1.out
  · have HE : Hid (faultI k s n c h bs.length = 170) := by show _ = _; rw [HFD.out, if_pos hk]
    clear HF HFD hB hL hz
    by_cases k1 : k < 1
    · clear hk
      go_enter Try.func29, Try.ntmps29
      go_wp2
      go_ret2
      exact EncAns.no HE.out (by decide) HX.out
    · have k2 : 9 < k := by unfold Known at hk; omega
      clear hk
      go_enter Try.func29, Try.ntmps29
      go_wp2
      go_ret2
      exact EncAns.no HE.out (by decide) HX.out
/-- Are two frames the same? -/
def SameF (k s n c h k' s' n' c' h' : Int) (bs bs' : List (BitVec 8)) : Prop := k = k' ∧ s = s' ∧ n = n' ∧ c = c' ∧ h = h' ∧ bs = bs'
instance (k s n c h k' s' n' c' h' : Int) (bs bs' : List (BitVec 8)) : Decidable (SameF k s n c h k' s' n' c' h' bs bs') := by unfold SameF; exact inferInstance
set_option maxHeartbeats 2000000 in
theorem rsame_any (w : World) (k s n c h k' s' n' c' h' : Int) (a a' : Option Addr) (bs bs' : List (BitVec 8)) (L L' cap cap' : Nat) (hB : BytesAt w a bs) (hL : bs.length = L) (hB' : BytesAt w a' bs') (hL' : bs'.length = L') :
    Calls Try.prog 12 #[.agg #[.int .i64 k, .int .u64 s, .int .u64 n, .int .i64 c, .int .i64 h, .slice a L cap], .agg #[.int .i64 k', .int .u64 s', .int .u64 n', .int .i64 c', .int .i64 h', .slice a' L' cap']] w fun e w' => e = .returned (.bool (decide (SameF k s n c h k' s' n' c' h' bs bs'))) ∧ Below w.heap.size w w' := by
  have HX := hid ((below_new w (.cells #[.int .i64 k, .int .u64 s, .int .u64 n, .int .i64 c, .int .i64 h, .slice a L cap] 41)).alloc (by simp) (.cells #[.int .i64 k', .int .u64 s', .int .u64 n', .int .i64 c', .int .i64 h', .slice a' L' cap'] 41))
  have h1 := convert_any (cap := cap) (hB.kept HX.out) hL
  have h2 := convert_any (cap := cap') (hB'.kept HX.out) hL'
  have H3 := hid (strOf_eq bs bs')
  clear hB hB' hL hL'
  generalize strOf bs = sx at *
  generalize strOf bs' = sy at *
  by_cases e0 : k = k'
  · subst e0
    by_cases e1 : s = s'
    · subst e1
      by_cases e2 : n = n'
      · subst e2
        by_cases e3 : c = c'
        · subst e3
          by_cases e4 : h = h'
          · subst e4
            go_enter Try.func12, Try.ntmps12
            go_wp2
            go_ret
            refine ⟨ret_b ?_, HX.out⟩
            rw [H3.out]
            simp [SameF]
          · have e4' : (h == h') = false := by simpa using e4
            go_enter Try.func12, Try.ntmps12
            go_wp2
            go_ret
            exact ⟨ret_b (by simp [SameF, e4]), HX.out⟩
        · have e4' : (c == c') = false := by simpa using e3
          go_enter Try.func12, Try.ntmps12
          go_wp2
          go_ret
          exact ⟨ret_b (by simp [SameF, e3]), HX.out⟩
      · have e4' : (n == n') = false := by simpa using e2
        go_enter Try.func12, Try.ntmps12
        go_wp2
        go_ret
        exact ⟨ret_b (by simp [SameF, e2]), HX.out⟩
    · have e4' : (s == s') = false := by simpa using e1
      go_enter Try.func12, Try.ntmps12
      go_wp2
      go_ret
      exact ⟨ret_b (by simp [SameF, e1]), HX.out⟩
  · have e4' : (k == k') = false := by simpa using e0
    go_enter Try.func12, Try.ntmps12
    go_wp2
    go_ret
    exact ⟨ret_b (by simp [SameF, e0]), HX.out⟩
end Go.Proofs.Ytkhogbnoincbeab
