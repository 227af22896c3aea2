import Derived.Test.YtkcoabjeaoigdaaFair
namespace Go.Proofs.Ytkcoabjeaoigdaa
open Go.RowKit Go.Sort
set_option maxRecDepth 100000

/-- Two groups of one's own. -/
structure Duo (W w : World) (g h n m : Nat) (D E : Nat → Ln) : Prop where
  l : Own1 W w g n D
  r : Own1 W w h m E
  ne : g ≠ h
section
variable {W w w' : World} {g h n m : Nat} {D E D' E' : Nat → Ln}
theorem Duo.kept (d : Duo W w g h n m D E) (hb : Below w.heap.size w w') : Duo W w' g h n m D E := ⟨d.l.kept hb, d.r.kept hb, d.ne⟩
theorem Duo.toL (d : Duo W w g h n m D E) (ha : GAt w' g n D') (ho : Only [g] w w') : Duo W w' g h n m D' E := ⟨d.l.to ha ho, d.l.other d.r ho d.ne.symm, d.ne⟩
theorem Duo.toR (d : Duo W w g h n m D E) (ha : GAt w' h m E') (ho : Only [h] w w') : Duo W w' g h n m D E' := ⟨d.r.other d.l ho d.ne, d.r.to ha ho, d.ne⟩
end
theorem ackD_one (n k m : Nat) (E : Nat → Ln) : ackD n k (m + 1) E = ackD n k m (ackD n k 1 E) := by
  by_cases hc : (E k).c < 262144
  · rw [ackD_step hc, ackD_step hc]; rfl
  · rw [ackD_full hc, ackD_full hc, ackD_full hc]
theorem frames_of (z : Int) : ∃ f : Nat, f < 600 ∧ wrap64 ((IntKind.u64.wrap z).tmod 600) = f := by
  have h0 : 0 ≤ IntKind.u64.wrap z := by rw [IntKind.wrap_u64]; omega
  rw [Int.tmod_eq_emod_of_nonneg h0]
  have h : 0 ≤ IntKind.u64.wrap z % 600 ∧ IntKind.u64.wrap z % 600 < 600 := ⟨Int.emod_nonneg _ (by decide), Int.emod_lt_of_pos _ (by decide)⟩
  generalize IntKind.u64.wrap z % 600 = y at *
  refine ⟨y.toNat, by omega, ?_⟩
  unfold wrap64
  omega
set_option maxHeartbeats 1000000 in
theorem byone_any {w : World} {x y z : Int} {a : Option Addr} {ln cap : Nat} {S : List OpV} (hC : OpsAt w a S) (hn : S.length = ln) (hm : ln ≤ 140737488355328) :
    Calls Try.prog 7 #[.int .i64 x, .slice a ln cap, .int .i64 y, .int .i64 z] w fun e w' => e = .returned (.bool true) ∧ Below w.heap.size w w' := by
  have HC := hid hC
  have HN := hid hn
  obtain ⟨n, n1, n8, en⟩ := paths_of x
  clear hC hn
  go_enter Try.func7, Try.ntmps7
  go_upto_region 2 with (fail)
  rw [en]
  clear en
  have HNW := hid (own_new (Below.refl w.heap.size w) n1 n8)
  have H1 := hid n1
  have H8 := hid n8
  clear n1 n8
  go_upto_region 3 with (go_at_call 9; refine HNW.out.mono ?_; clear HNW; rintro e w1 ⟨rfl, h1, _⟩; have HO1 := hid h1; clear h1)
  obtain ⟨g, hg⟩ : ∃ g, g = w.heap.size := ⟨_, rfl⟩
  rw [← hg] at HO1
  rw [← hg]
  clear hg
  have HNW := hid (own_new HO1.out.bel H1.out H8.out)
  go_upto_region 4 with (go_at_call 9; refine HNW.out.mono ?_; clear HNW; rintro e w2 ⟨rfl, h1, h2⟩; have HD2 := hid (Duo.mk (HO1.out.kept h2) h1 (Nat.ne_of_lt HO1.out.at_.lt)); clear h1 h2)
  clear HO1
  obtain ⟨h, hh⟩ : ∃ h, h = w1.heap.size := ⟨_, rfl⟩
  rw [← hh] at HD2
  rw [← hh]
  clear hh
  go_wp2
  go_loopw [11] (fun i wr => ∃ (k : Nat) (D : Nat → Ln), k ≤ ln ∧ i = .int .i64 k ∧ Duo w wr g h n n D D) (fun i _ => ln - (intOf i).toNat)
  case atStart => exact ⟨0, _, Nat.zero_le _, rfl, HD2.out⟩
  case round =>
    obtain ⟨k, D, hk, rfl, ho⟩ := hrel
    have HO' := hid ho
    clear ho HD2
    by_cases hlt : k < ln
    · have hkc : k < S.length := by rw [HN.out]; exact hlt
      obtain ⟨ga, oa, rfl, c0, c1, c2, c3, c4, c5⟩ := HC.out.at_ k hkc
      have HOK := hid (HC.out.ok S[k] (List.getElem_mem hkc))
      have l1 : (k : Int) < (ln : Int) := by omega
      generalize S[k] = o at *
      have HC0 := hid c0
      have HC1 := hid c1
      have HC2 := hid c2
      have HC3 := hid c3
      have HC4 := hid c4
      have HC5 := hid c5
      have d0 := cell_kept HO'.out.l.bel c0
      have d1 := cell_kept HO'.out.l.bel c1
      have d2 := cell_kept HO'.out.l.bel c2
      have d3 := cell_kept HO'.out.l.bel c3
      have d4 := cell_kept HO'.out.l.bel c4
      have d5 := cell_kept HO'.out.l.bel c5
      have HK := hid hlt
      have hk2 : (k : Int) ≤ 140737488355328 := by omega
      clear c0 c1 c2 c3 c4 c5 hk hlt hkc
      have HA1 := hid (act_any HO'.out.l.at_ HOK.out)
      go_wp2_with (first
        | (go_at_call 16; refine HA1.out.mono ?_; clear HA1; clear d0 d1 d2 d3 d4 d5; rintro e w3 ⟨rfl, h1, h2⟩; have HO3 := hid (HO'.out.toL h1 h2); have d0 := cell_kept HO3.out.l.bel HC0.out; have d1 := cell_kept HO3.out.l.bel HC1.out; have d2 := cell_kept HO3.out.l.bel HC2.out; have d3 := cell_kept HO3.out.l.bel HC3.out; have d4 := cell_kept HO3.out.l.bel HC4.out; have d5 := cell_kept HO3.out.l.bel HC5.out; have HA2 := hid (act_any HO3.out.r.at_ HOK.out); clear h1 h2)
        | (go_at_call 16; refine HA2.out.mono ?_; clear HA2; clear d0 d1 d2 d3 d4 d5; rintro e w4 ⟨rfl, h1, h2⟩; have HO4 := hid (HO3.out.toR h1 h2); clear h1 h2))
      go_roundw
      case rel => exact ⟨k + 1, _, HK.out, by first | go_num | (rw [Int.natCast_succ]), HO4.out⟩
      case measure =>
        simp [intOf]
        have := HK.out
        omega
    · have e1 : decide ((k : Int) < (ln : Int)) = false := decide_eq_false (by omega)
      have e2 : decide (k < ln) = false := decide_eq_false hlt
      obtain ⟨j, hj, ej⟩ := path_of y H1.out H8.out
      obtain ⟨f, hf, ef⟩ := frames_of z
      have HJ := hid hj
      have HF := hid hf
      have nz : ¬ (n : Int) = 0 := by have := H1.out; omega
      have nz' : ¬ n = 0 := by have := H1.out; omega
      have uw : IntKind.u64.wrap (n : Int) = n := by have := H8.out; rw [IntKind.wrap_u64]; omega
      clear hlt hk hj hf
      go_upto_region 13 with (fail)
      rw [ej, ef]
      clear ej ef e1 e2 nz nz' uw
      have HA := hid (acked_in HO'.out.l.at_ HJ.out (F := f) (by have := HF.out; omega))
      rw [Int.toNat_natCast] at HA
      go_upto_region 14 with (go_at_call 14; refine HA.out.mono ?_; clear HA; rintro e w5 ⟨rfl, h1, h2⟩; have HD5 := hid (HO'.out.toL h1 h2); clear h1 h2)
      clear HO'
      go_wp2
      go_loopw [12] (fun i wr => ∃ (q : Nat) (E : Nat → Ln), q ≤ f ∧ i = .int .i64 q ∧ Duo w wr g h n n (ackD n j f D) E ∧ ackD n j f D = ackD n j (f - q) E) (fun i _ => f - (intOf i).toNat)
      case atStart => exact ⟨0, _, Nat.zero_le _, rfl, HD5.out, rfl⟩
      case round =>
        obtain ⟨q, E, hq, rfl, ho, he⟩ := hrel
        have HO6 := hid ho
        have HE6 := hid he
        clear ho he HD5
        by_cases hlt : q < f
        · have l2 : (q : Int) < (f : Int) := by omega
          have HQ := hid hlt
          have hq2 : (q : Int) ≤ 600 := by have := HF.out; omega
          have HA := hid (acked_in HO6.out.r.at_ HJ.out (F := 1) (by decide))
          clear hq hlt
          go_wp2_with (go_at_call 14; refine HA.out.mono ?_; clear HA; rintro e w7 ⟨rfl, h1, h2⟩; have HD7 := hid (HO6.out.toR h1 h2); clear h1 h2)
          go_roundw
          case rel =>
            refine ⟨q + 1, _, HQ.out, by first | go_num | (rw [Int.natCast_succ]), HD7.out, ?_⟩
            rw [HE6.out, show f - q = (f - (q + 1)) + 1 by have := HQ.out; omega]
            exact ackD_one _ _ _ _
          case measure =>
            simp [intOf]
            have := HQ.out
            omega
        · have e1 : decide ((q : Int) < (f : Int)) = false := decide_eq_false (by omega)
          have e2 : decide (q < f) = false := decide_eq_false hlt
          have HEE : Hid (ackD n j f D = E) := by
            have := HE6.out
            rw [show f - q = 0 by omega] at this
            exact this
          have HA := hid (alive_any wr)
          clear hq hlt
          go_wp2_with (first
            | (go_at_call 15; refine HA.out.mono ?_; clear HA; rintro e w8 ⟨rfl, hb⟩; have HO8 := hid (HO6.out.kept hb); have HWI := hid (window_any HO8.out.l.at_ j); rw [HEE.out] at HWI; rw [winD_in HJ.out] at HWI; simp only at HWI; clear hb)
            | (go_at_call 13; refine HWI.out.mono ?_; clear HWI; rintro e w9 ⟨rfl, hb⟩; have HO9 := hid (HO8.out.kept hb); have HWJ := hid (window_any HO9.out.r.at_ j); rw [winD_in HJ.out] at HWJ; simp only at HWJ; clear hb)
            | (go_at_call 13; refine HWJ.out.mono ?_; clear HWJ; rintro e w10 ⟨rfl, hb⟩; have HO10 := hid (HO9.out.kept hb); clear hb))
          go_ret
          exact ⟨rfl, HO10.out.l.bel⟩
end Go.Proofs.Ytkcoabjeaoigdaa
