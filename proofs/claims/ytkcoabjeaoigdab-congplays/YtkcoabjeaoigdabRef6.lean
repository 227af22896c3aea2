import Derived.Test.YtkcoabjeaoigdabRef5
namespace Go.Proofs.Ytkcoabjeaoigdab
open Go.RowKit Go.Sort
set_option maxRecDepth 100000

set_option maxHeartbeats 1000000 in
theorem racked_in {w : World} {r q n k : Nat} {D : Nat → Ln} (h : RAt w r q n D) (hk : k < n) {F : Int} (hF : F ≤ 9223372036854775807) :
    Calls Try.prog 13 #[.pointer (some ⟨r, 0, none⟩), .int .i64 k, .int .i64 F] w fun e w' => e = .returned (.tuple #[]) ∧ RAt w' r q n (ackD n k F.toNat D) ∧ Only [q] w w' := by
  have HL := hid (has_in h hk)
  have HG := hid h
  have HK := hid hk
  have HF := hid hF
  have l1 : (k : Int) < (n : Int) := by omega
  clear h hF
  go_enter Try.func13, Try.ntmps13
  go_upto_region 2 with (go_at_call 20; refine Calls.mono HL.out ?_; clear HL; rintro e w2 ⟨rfl, rfl⟩)
  go_loopw [6] (fun i wr => ∃ (j : Nat) (D' : Nat → Ln), i = .int .i64 j ∧ ((j : Int) ≤ F ∨ j = 0) ∧ RAt wr r q n D' ∧ Only [q] w2 wr ∧ ackD n k F.toNat D = ackD n k (F.toNat - j) D') (fun i _ => F.toNat - (intOf i).toNat)
  case atStart => exact ⟨0, D, rfl, .inr rfl, HG.out, Only.refl _ _, rfl⟩
  case round =>
    obtain ⟨j, D', rfl, hj, hg, ho, he⟩ := hrel
    have HG' := hid hg
    have HO' := hid ho
    have HE := hid he
    have HJJ := hid hj
    clear hg ho he HG hj
    obtain ⟨cap, c0⟩ := HG'.out.cell_hd
    have a0 := HG'.out.cell_c hk
    have a1 := HG'.out.cell_t hk
    have f0 := HG'.out.frozen (k * 4)
    by_cases h0 : (j : Int) < F
    · have d0 : decide ((j : Int) < F) = true := decide_eq_true h0
      by_cases hc : (D' k).c < 262144
      · have d1 : decide ((D' k).c < 262144) = true := decide_eq_true hc
        have HST := hid (ackD_step (n := n) hc (F.toNat - (j + 1)))
        have ew : wrap64 ((j : Int) + 1) = (j : Int) + 1 := by have := HF.out; unfold wrap64; omega
        have HJ := hid h0
        have ok := HG'.out.ok k hk
        have HO1 : Hid (∀ i, i < n → (upd D' k { D' k with c := upc D' n k } i).Ok) := ok_upd HG'.out.ok (upc_ok ok)
        obtain ⟨k0, k1, k2, k3, _, _⟩ := ok
        have sb := stepD_b (n := n) (HG'.out.ok k hk)
        have ob := own_b k0 k1
        have HREL : Hid (∀ w' : World, RAt w' r q n (growD D' n k) → Only [q] wr w' → ∃ (j' : Nat) (D'' : Nat → Ln), Value.int .i64 ((j : Int) + 1) = Value.int .i64 j' ∧ ((j' : Int) ≤ F ∨ j' = 0) ∧ RAt w' r q n D'' ∧ Only [q] w2 w' ∧ ackD n k F.toNat D = ackD n k (F.toNat - j') D'') := by
          intro w' h1 h2
          have := HJ.out
          refine ⟨j + 1, _, by rw [Int.natCast_succ], .inl (by omega), h1, HO'.out.trans h2 (fun x hx => .inl hx), ?_⟩
          rw [HE.out, ← HST.out]
          congr 1
          omega
        by_cases hlt : (D' k).c < (D' k).t
        · have d2 : decide ((D' k).c < (D' k).t) = true := decide_eq_true hlt
          have HU : Hid (upc D' n k = min ((D' k).c + 1024) (D' k).t) := by show _ = _; unfold upc; rw [if_pos hlt]
          have e1 : wrap64 ((D' k).c + 1024) = (D' k).c + 1024 := by unfold wrap64; omega
          by_cases hgt : (D' k).t < (D' k).c + 1024
          · have d3 : decide ((D' k).t < (D' k).c + 1024) = true := decide_eq_true hgt
            have HV : Hid (upc D' n k = (D' k).t) := by show _ = _; rw [HU.out]; omega
            clear hc h0 hlt hgt k0 k1 k2 k3 sb ob
            generalize hcc : (D' k).c = c at *
            generalize htt : (D' k).t = t at *
            go_wp2
            go_roundw
            case rel =>
              rw [ew]
              refine HREL.out _ ?_ ((Only.refl _ _).setCell _ _ _ (.inl (by simp)))
              have := HG'.out.set_c hk _ HO1.out
              rw [HV.out] at this
              unfold growD
              rw [HV.out]
              exact this
            case measure =>
              rw [ew]
              simp only [intOf]
              have := HJ.out
              omega
          · have d3 : decide ((D' k).t < (D' k).c + 1024) = false := decide_eq_false hgt
            have HV : Hid (upc D' n k = (D' k).c + 1024) := by show _ = _; rw [HU.out]; omega
            clear hc h0 hlt hgt k0 k1 k2 k3 sb ob
            generalize hcc : (D' k).c = c at *
            generalize htt : (D' k).t = t at *
            go_wp2
            go_roundw
            case rel =>
              rw [ew]
              refine HREL.out _ ?_ ((Only.refl _ _).setCell _ _ _ (.inl (by simp)))
              have := HG'.out.set_c hk _ HO1.out
              rw [HV.out] at this
              unfold growD
              rw [HV.out]
              exact this
            case measure =>
              rw [ew]
              simp only [intOf]
              have := HJ.out
              omega
        · have d2 : decide ((D' k).c < (D' k).t) = false := decide_eq_false hlt
          have HU : Hid (upc D' n k = min ((D' k).c + stepD D' n k) 262144) := by show _ = _; unfold upc; rw [if_neg hlt]
          have HS := hid (rstep_any HG'.out hk)
          have e1 : wrap64 ((D' k).c + stepD D' n k) = (D' k).c + stepD D' n k := by unfold wrap64; omega
          by_cases hgt : 262144 < (D' k).c + stepD D' n k
          · have d3 : decide (262144 < (D' k).c + stepD D' n k) = true := decide_eq_true hgt
            have HV : Hid (upc D' n k = 262144) := by show _ = _; rw [HU.out]; omega
            clear hc h0 hlt hgt k0 k1 k2 k3 sb ob
            generalize hst : stepD D' n k = st at *
            generalize hcc : (D' k).c = c at *
            generalize htt : (D' k).t = t at *
            go_wp2_with (go_at_call 22; refine HS.out.mono ?_; clear HS c0 a0 a1 f0; rintro e w4 ⟨rfl, hb⟩; have HG4 := hid (HG'.out.kept hb); have HB4 := hid hb; obtain ⟨cap, c0⟩ := HG4.out.cell_hd; have a0 := HG4.out.cell_c hk; have f0 := HG4.out.frozen (k * 4); clear hb)
            go_roundw
            case rel =>
              rw [ew]
              refine HREL.out _ ?_ ((Only.of_below HB4.out (Nat.le_refl _)).setCell _ _ _ (.inl (by simp)))
              have := HG4.out.set_c hk _ HO1.out
              rw [HV.out] at this
              unfold growD
              rw [HV.out]
              exact this
            case measure =>
              rw [ew]
              simp only [intOf]
              have := HJ.out
              omega
          · have d3 : decide (262144 < (D' k).c + stepD D' n k) = false := decide_eq_false hgt
            have HV : Hid (upc D' n k = (D' k).c + stepD D' n k) := by show _ = _; rw [HU.out]; omega
            clear hc h0 hlt hgt k0 k1 k2 k3 sb ob
            generalize hst : stepD D' n k = st at *
            generalize hcc : (D' k).c = c at *
            generalize htt : (D' k).t = t at *
            go_wp2_with (go_at_call 22; refine HS.out.mono ?_; clear HS c0 a0 a1 f0; rintro e w4 ⟨rfl, hb⟩; have HG4 := hid (HG'.out.kept hb); have HB4 := hid hb; obtain ⟨cap, c0⟩ := HG4.out.cell_hd; have a0 := HG4.out.cell_c hk; have f0 := HG4.out.frozen (k * 4); clear hb)
            go_roundw
            case rel =>
              rw [ew]
              refine HREL.out _ ?_ ((Only.of_below HB4.out (Nat.le_refl _)).setCell _ _ _ (.inl (by simp)))
              have := HG4.out.set_c hk _ HO1.out
              rw [HV.out] at this
              unfold growD
              rw [HV.out]
              exact this
            case measure =>
              rw [ew]
              simp only [intOf]
              have := HJ.out
              omega
      · have d1 : decide ((D' k).c < 262144) = false := decide_eq_false hc
        have HST := hid (ackD_full (n := n) hc (F.toNat - j))
        clear h0 hc
        go_wp2
        refine bodyPost_end (results_none Try.results13 _ _ _) rfl ?_
        exact ⟨rfl, by rw [HE.out, HST.out]; exact HG'.out, HO'.out⟩
    · have d0 : decide ((j : Int) < F) = false := decide_eq_false h0
      have HZ : Hid (F.toNat - j = 0) := by show _ = _; omega
      clear h0
      go_wp2
      refine bodyPost_end (results_none Try.results13 _ _ _) rfl ?_
      exact ⟨rfl, by rw [HE.out, HZ.out]; exact HG'.out, HO'.out⟩
theorem racked_any {w : World} {r q n : Nat} {D : Nat → Ln} (h : RAt w r q n D) (p : Int) {F : Int} (hF : F ≤ 9223372036854775807) :
    Calls Try.prog 13 #[.pointer (some ⟨r, 0, none⟩), .int .i64 p, .int .i64 F] w fun e w' => e = .returned (.tuple #[]) ∧ RAt w' r q n (ackedD D n p F) ∧ Only [q] w w' := by
  by_cases hp : 0 ≤ p ∧ p < n
  · obtain ⟨k, rfl, hk, _⟩ := in_of hp
    rw [ackedD_in hk]
    exact racked_in h hk hF
  · have HE : Hid (ackedD D n p F = D) := by show _ = _; unfold ackedD; rw [if_neg hp]
    have HL := hid (has_out h (out_of hp))
    have H := hid h
    clear h hp
    go_enter Try.func13, Try.ntmps13
    go_wp2_with (go_at_call 20; refine Calls.mono HL.out ?_; rintro e w2 ⟨rfl, rfl⟩)
    refine bodyPost_ret (results_none Try.results13 _ _ _) rfl ?_
    exact ⟨rfl, by rw [HE.out]; exact H.out, Only.refl _ _⟩
end Go.Proofs.Ytkcoabjeaoigdab
