import Derived.Test.YtkcoabjeaoigdabRef0
namespace Go.Proofs.Ytkcoabjeaoigdab
open Go.RowKit
set_option maxRecDepth 100000

theorem rtake_any {w : World} {r q n : Nat} {D : Nat → Ln} (h : RAt w r q n D) (p : Int) (b : Bool) :
    Calls Try.prog 9 #[.pointer (some ⟨r, 0, none⟩), .int .i64 p, .bool b] w fun e w' => e = .returned (.tuple #[]) ∧ RAt w' r q n (takeD D n p b) ∧ Only [q] w w' := by
  by_cases hp : 0 ≤ p ∧ p < n
  · obtain ⟨k, rfl, hk, hkn⟩ := in_of hp
    have HE : Hid (takeD D n k b = upd D k { D k with on := b }) := by show _ = _; unfold takeD; rw [if_pos hp, hkn]
    have HL := hid (has_in h hk)
    obtain ⟨cap, c0⟩ := h.cell_hd
    have a2 := h.cell_on hk
    have f2 := h.frozen (k * 4 + 2)
    have H := hid h
    have HK := hid hk
    have l1 : (k : Int) < (n : Int) := by omega
    have HO : Hid (∀ j, j < n → (upd D k { D k with on := b } j).Ok) := ok_upd h.ok (by obtain ⟨a, b, c, d, e, f⟩ := h.ok k hk; exact ⟨a, b, c, d, e, f⟩)
    clear h hp hkn
    go_enter Try.func9, Try.ntmps9
    go_wp2_with (go_at_call 20; refine Calls.mono HL.out ?_; rintro e w2 ⟨rfl, rfl⟩)
    refine bodyPost_end (results_none Try.results9 _ _ _) rfl ?_
    refine ⟨rfl, ?_, (Only.refl _ _).setCell _ _ _ (.inl (by simp))⟩
    rw [HE.out]
    exact H.out.set_on HK.out b HO.out
  · have HE : Hid (takeD D n p b = D) := by show _ = _; unfold takeD; rw [if_neg hp]
    have HL := hid (has_out h (out_of hp))
    have H := hid h
    clear h hp
    go_enter Try.func9, Try.ntmps9
    go_wp2_with (go_at_call 20; refine Calls.mono HL.out ?_; rintro e w2 ⟨rfl, rfl⟩)
    refine bodyPost_end (results_none Try.results9 _ _ _) rfl ?_
    exact ⟨rfl, by rw [HE.out]; exact H.out, Only.refl _ _⟩
set_option maxHeartbeats 1000000 in
theorem rrtt_any {w : World} {r q n : Nat} {D : Nat → Ln} (h : RAt w r q n D) (p : Int) {ms : Int} (h0 : 0 ≤ ms) :
    Calls Try.prog 11 #[.pointer (some ⟨r, 0, none⟩), .int .i64 p, .int .u64 ms] w fun e w' => e = .returned (.tuple #[]) ∧ RAt w' r q n (rttD D n p ms) ∧ Only [q] w w' := by
  by_cases hp : 0 ≤ p ∧ p < n
  · obtain ⟨k, rfl, hk, hkn⟩ := in_of hp
    obtain ⟨m, hm⟩ : ∃ m, m = min (max ms 1) 60000 := ⟨_, rfl⟩
    have HE : Hid (rttD D n k ms = upd D k { D k with r := m }) := by show _ = _; unfold rttD; rw [if_pos hp, hkn, hm]
    have HL := hid (has_in h hk)
    obtain ⟨cap, c0⟩ := h.cell_hd
    have a2 := h.cell_r hk
    have f2 := h.frozen (k * 4 + 3)
    have H := hid h
    have HK := hid hk
    have l1 : (k : Int) < (n : Int) := by omega
    have HO : Hid (∀ j, j < n → (upd D k { D k with r := m } j).Ok) := ok_upd h.ok (by obtain ⟨a, b, c, d, e, f⟩ := h.ok k hk; exact ⟨a, b, c, d, by simp only; omega, by simp only; omega⟩)
    clear h hp hkn
    by_cases q1 : ms < 1
    · have e1 : decide (ms < 1) = true := decide_eq_true q1
      have em : m = 1 := by omega
      subst em
      clear hm q1
      go_enter Try.func11, Try.ntmps11
      go_wp2_with (go_at_call 20; refine Calls.mono HL.out ?_; rintro e w2 ⟨rfl, rfl⟩)
      refine bodyPost_end (results_none Try.results11 _ _ _) rfl ?_
      refine ⟨rfl, ?_, (Only.refl _ _).setCell _ _ _ (.inl (by simp))⟩
      rw [HE.out]
      exact H.out.set_r HK.out _ HO.out
    · have e1 : decide (ms < 1) = false := decide_eq_false q1
      by_cases q2 : 60000 < ms
      · have e2 : decide (60000 < ms) = true := decide_eq_true q2
        have em : m = 60000 := by omega
        subst em
        clear hm q1 q2
        go_enter Try.func11, Try.ntmps11
        go_wp2_with (go_at_call 20; refine Calls.mono HL.out ?_; rintro e w2 ⟨rfl, rfl⟩)
        refine bodyPost_end (results_none Try.results11 _ _ _) rfl ?_
        refine ⟨rfl, ?_, (Only.refl _ _).setCell _ _ _ (.inl (by simp))⟩
        rw [HE.out]
        exact H.out.set_r HK.out _ HO.out
      · have e2 : decide (60000 < ms) = false := decide_eq_false q2
        have em : m = ms := by omega
        subst em
        clear hm q1 q2
        go_enter Try.func11, Try.ntmps11
        go_wp2_with (go_at_call 20; refine Calls.mono HL.out ?_; rintro e w2 ⟨rfl, rfl⟩)
        refine bodyPost_end (results_none Try.results11 _ _ _) rfl ?_
        refine ⟨rfl, ?_, (Only.refl _ _).setCell _ _ _ (.inl (by simp))⟩
        rw [HE.out]
        exact H.out.set_r HK.out _ HO.out
  · have HE : Hid (rttD D n p ms = D) := by show _ = _; unfold rttD; rw [if_neg hp]
    have HL := hid (has_out h (out_of hp))
    have H := hid h
    clear h hp
    go_enter Try.func11, Try.ntmps11
    go_wp2_with (go_at_call 20; refine Calls.mono HL.out ?_; rintro e w2 ⟨rfl, rfl⟩)
    refine bodyPost_ret (results_none Try.results11 _ _ _) rfl ?_
    exact ⟨rfl, by rw [HE.out]; exact H.out, Only.refl _ _⟩
theorem rframes_any {w : World} {r q n : Nat} {D : Nat → Ln} (h : RAt w r q n D) (p : Int) :
    Calls Try.prog 26 #[.pointer (some ⟨r, 0, none⟩), .int .i64 p] w fun e w' => e = .returned (.int .i64 ((winD D n p).1 / 1024)) ∧ w' = w := by
  by_cases hp : 0 ≤ p ∧ p < n
  · obtain ⟨k, rfl, hk, hkn⟩ := in_of hp
    rw [winD_in hk]
    have HL := hid (has_in h hk)
    obtain ⟨cap, c0⟩ := h.cell_hd
    have a0 := h.cell_c hk
    have ok := h.ok k hk
    have k0 := ok.c0
    have k1 := ok.c1
    have l1 : (k : Int) < (n : Int) := by omega
    simp only
    have ed : (D k).c.tdiv 1024 = (D k).c / 1024 := Int.tdiv_eq_ediv_of_nonneg (by omega)
    have ew : wrap64 ((D k).c / 1024) = (D k).c / 1024 := by unfold wrap64; omega
    clear h hp hkn ok k0 k1
    generalize (D k).c = c at *
    go_enter Try.func26, Try.ntmps26
    go_wp2_with (go_at_call 20; refine Calls.mono HL.out ?_; rintro e w2 ⟨rfl, rfl⟩)
    go_ret
    exact ⟨by show Ending.returned (.int .i64 (wrap64 (c / 1024))) = _; rw [ew], rfl⟩
  · have HL := hid (has_out h (out_of hp))
    have HE : Hid ((winD D n p).1 / 1024 = 0) := by show _ = _; unfold winD; rw [if_neg hp]; rfl
    clear h hp
    go_enter Try.func26, Try.ntmps26
    go_wp2_with (go_at_call 20; refine Calls.mono HL.out ?_; rintro e w2 ⟨rfl, rfl⟩)
    go_ret
    exact ⟨by rw [HE.out]; rfl, rfl⟩
theorem low_any {w : World} {c : Int} (h0 : 0 ≤ c) (h1 : c ≤ 262144) :
    Calls Try.prog 24 #[.int .i64 c] w fun e w' => e = .returned (.int .i64 (half c)) ∧ w' = w := by
  have ed : c.tdiv 2 = c / 2 := Int.tdiv_eq_ediv_of_nonneg h0
  have ew : wrap64 (c / 2) = c / 2 := by unfold wrap64; omega
  by_cases hc : c / 2 < 2048
  · have d : decide (c / 2 < 2048) = true := decide_eq_true hc
    have HE : Hid (half c = 2048) := by show _ = _; unfold half; omega
    clear h0 h1 hc
    generalize c / 2 = x at *
    go_enter Try.func24, Try.ntmps24
    go_wp2
    go_ret
    exact ⟨by rw [HE.out]; rfl, rfl⟩
  · have d : decide (c / 2 < 2048) = false := decide_eq_false hc
    have HE : Hid (half c = c / 2) := by show _ = _; unfold half; omega
    clear h0 h1 hc
    generalize c / 2 = x at *
    go_enter Try.func24, Try.ntmps24
    go_wp2
    go_ret
    exact ⟨by rw [HE.out]; first | rfl | (show _ = Ending.returned (.int .i64 x); rw [ew]; rfl) | (show Ending.returned (.int .i64 (wrap64 x)) = _; rw [ew]), rfl⟩
end Go.Proofs.Ytkcoabjeaoigdab
