import Derived.Test.YtkcoabjeaoigdaaByOne
namespace Go.Proofs.Ytkcoabjeaoigdaa
open Go.RowKit Go.Sort
set_option maxRecDepth 100000

/-- The one path of two groups: alike, but that the first counts. -/
def Pair (m : Int) (D E : Nat → Ln) : Prop := ∃ c t, D 0 = ⟨c, t, true, m⟩ ∧ E 0 = ⟨c, t, false, 0⟩
theorem coupled_one {c t m : Int} (hc : 1024 ≤ c) (hm : 1 ≤ m) (hm2 : m ≤ 60000) : coupled [⟨c, t, true, m⟩] = 1048576 / c := by
  have e1 : least [⟨c, t, true, m⟩] = m := by show min 60000 m = m; omega
  have e2 : c * 16 * m / m = c * 16 := Int.mul_ediv_cancel _ (by omega)
  have hmm : 1 ≤ m * m := by have := Int.mul_le_mul hm hm (by omega) (by omega : (0 : Int) ≤ m); omega
  have e3 : c * 16 * m * m / (m * m) = c * 16 := by rw [Int.mul_assoc]; exact Int.mul_ediv_cancel _ (by omega)
  have e4 : sumA m [⟨c, t, true, m⟩] = c * 16 := by show 0 + c * 16 * m / m = _; omega
  have e5 : bestB m [⟨c, t, true, m⟩] = c * 16 := by show max 0 (c * 16 * m * m / (m * m)) = _; omega
  have e6 : tot [⟨c, t, true, m⟩] = c := by show 0 + c = c; omega
  have e7 : qOf [⟨c, t, true, m⟩] = 1048576 := by
    unfold qOf
    rw [e1, e4, e5, Int.mul_comm]
    exact Int.mul_ediv_cancel _ (by omega)
  have e8 : pOf [⟨c, t, true, m⟩] = 512 := by
    unfold pOf
    rw [e1, e4, e6, Int.mul_comm]
    exact Int.mul_ediv_cancel _ (by omega)
  unfold coupled
  rw [e7, e8, e6]
  rfl
theorem pair_step {m : Int} {D E : Nat → Ln} (hm : 1 ≤ m) (hm2 : m ≤ 60000) (h : Pair m D E) (ok : (E 0).Ok) : upc D 1 0 = upc E 1 0 := by
  obtain ⟨c, t, hD, hE⟩ := h
  have c0 := ok.c0
  have c1 := ok.c1
  rw [hE] at c0 c1
  simp only at c0 c1
  have cn : (D 0).cnt = true := by rw [hD]; simp [Ln.cnt]; omega
  have cn' : (E 0).cnt = false := by rw [hE]; rfl
  have ecl : cl D 1 = [⟨c, t, true, m⟩] := by rw [cl_yes cn, cl_zero, hD]; rfl
  have ob := own_b c0 c1
  have s1 : stepD D 1 0 = 1048576 / c := by
    unfold stepD
    rw [cn, ecl, coupled_one c0 hm hm2, hD]
    simp only [if_true]
    omega
  have s2 : stepD E 1 0 = 1048576 / c := by
    unfold stepD
    rw [cn', hE]
    rfl
  unfold upc
  rw [s1, s2, hD, hE]
theorem pair_ack {m : Int} (hm : 1 ≤ m) (hm2 : m ≤ 60000) : ∀ (F : Nat) (D E : Nat → Ln), Pair m D E → (E 0).Ok → Pair m (ackD 1 0 F D) (ackD 1 0 F E)
  | 0, D, E, h, _ => h
  | F + 1, D, E, h, ok => by
    have hs := pair_step hm hm2 h ok
    have hc : (D 0).c = (E 0).c := by obtain ⟨c, t, hD, hE⟩ := h; rw [hD, hE]
    by_cases hf : (E 0).c < 262144
    · rw [ackD_step hf, ackD_step (by rw [hc]; exact hf)]
      refine pair_ack hm hm2 F _ _ ?_ (by rw [growD_at]; exact upc_ok ok)
      obtain ⟨c, t, hD, hE⟩ := h
      refine ⟨upc E 1 0, t, ?_, ?_⟩
      · rw [growD_at, hs, hD]
      · rw [growD_at, hE]
    · rw [ackD_full hf, ackD_full (by rw [hc]; exact hf)]
      exact h
theorem pair_lose {m : Int} {D E : Nat → Ln} (h : Pair m D E) (b : Bool) : Pair m (loseD D 1 0 b) (loseD E 1 0 b) := by
  obtain ⟨c, t, hD, hE⟩ := h
  have e1 : (loseD D 1 0 b) 0 = { D 0 with c := if b then 1024 else half (D 0).c, t := half (D 0).c } := by unfold loseD; rw [if_pos (by decide)]; exact upd_at _ _ _
  have e2 : (loseD E 1 0 b) 0 = { E 0 with c := if b then 1024 else half (E 0).c, t := half (E 0).c } := by unfold loseD; rw [if_pos (by decide)]; exact upd_at _ _ _
  rw [hD] at e1
  rw [hE] at e2
  exact ⟨_, _, e1, e2⟩
theorem pair_act {m : Int} {D E : Nat → Ln} (hm : 1 ≤ m) (hm2 : m ≤ 60000) (h : Pair m D E) (ok : (E 0).Ok) (o : OpV) (hp : o.path = 0) (k1 : o.kind ≠ 1) (k2 : o.kind ≠ 2) : Pair m (actD D 1 o) (actD E 1 o) := by
  unfold actD
  rw [if_neg k1, if_neg k2, if_neg k1, if_neg k2, hp]
  split
  · have e : ∀ X, ackedD X 1 0 o.n = ackD 1 0 o.n.toNat X := fun X => ackedD_in (by decide) _
    rw [e, e]
    exact pair_ack hm hm2 _ _ _ h ok
  · split
    · exact pair_lose h _
    · split
      · exact pair_lose h _
      · exact h
set_option maxHeartbeats 1000000 in
theorem one_any {w : World} {ms F : Int} {a : Option Addr} {ln cap : Nat} {S : List OpV} (hC : OpsAt w a S) (hn : S.length = ln) (hm : ln ≤ 140737488355328) (hF : F ≤ 9223372036854775807) :
    Calls Try.prog 6 #[.slice a ln cap, .int .u64 ms, .int .i64 F] w fun e w' => e = .returned (.bool true) ∧ Below w.heap.size w w' := by
  have HC := hid hC
  have HN := hid hn
  have HFF := hid hF
  have HM : Hid (1 ≤ min (max ms 1) 60000 ∧ min (max ms 1) 60000 ≤ 60000) := by show _ ∧ _; omega
  have HNW := hid (own_new (n := 1) (Below.refl w.heap.size w) (by decide) (by decide))
  clear hC hn hF
  go_enter Try.func6, Try.ntmps6
  go_upto_region 2 with (go_at_call 9; refine HNW.out.mono ?_; clear HNW; rintro e w1 ⟨rfl, h1, _⟩; have HO1 := hid h1; clear h1)
  obtain ⟨g, hg⟩ : ∃ g, g = w.heap.size := ⟨_, rfl⟩
  rw [← hg] at HO1
  rw [← hg]
  clear hg
  have HNW := hid (own_new (n := 1) HO1.out.bel (by decide) (by decide))
  go_upto_region 3 with (go_at_call 9; refine HNW.out.mono ?_; clear HNW; rintro e w2 ⟨rfl, h1, h2⟩; have HD2 := hid (Duo.mk (HO1.out.kept h2) h1 (Nat.ne_of_lt HO1.out.at_.lt)); clear h1 h2)
  clear HO1
  obtain ⟨h, hh⟩ : ∃ h, h = w1.heap.size := ⟨_, rfl⟩
  rw [← hh] at HD2
  rw [← hh]
  clear hh
  have HT := hid (take_any HD2.out.l.at_ 0 true)
  go_upto_region 6 with (go_at_call 10; refine HT.out.mono ?_; clear HT; rintro e w3 ⟨rfl, h1, h2⟩; have HD3 := hid (HD2.out.toL h1 h2); clear h1 h2)
  clear HD2
  have HT := hid (rtt_any HD3.out.l.at_ 0 ms)
  go_upto_region 7 with (go_at_call 11; refine HT.out.mono ?_; clear HT; rintro e w4 ⟨rfl, h1, h2⟩; have HD4 := hid (HD3.out.toL h1 h2); clear h1 h2)
  clear HD3
  obtain ⟨m, hmm⟩ : ∃ m, m = min (max ms 1) 60000 := ⟨_, rfl⟩
  rw [← hmm] at HM
  have HP0 : Hid (Pair m (rttD (takeD (newD 1) 1 0 true) 1 0 ms) (newD 1)) := by
    refine ⟨10240, 262144, ?_, rfl⟩
    unfold rttD
    rw [if_pos (by decide)]
    show upd _ 0 _ 0 = _
    rw [upd_at, hmm]
    unfold takeD
    rw [if_pos (by decide)]
    show (⟨(upd (newD 1) 0 _ 0).c, (upd (newD 1) 0 _ 0).t, (upd (newD 1) 0 _ 0).on, _⟩ : Ln) = _
    rw [upd_at]
    rfl
  clear hmm
  go_wp2
  go_loopw [9] (fun i wr => ∃ (k : Nat) (D E : Nat → Ln), k ≤ ln ∧ i = .int .i64 k ∧ Duo w wr g h 1 1 D E ∧ Pair m D E) (fun i _ => ln - (intOf i).toNat)
  case atStart => exact ⟨0, _, _, Nat.zero_le _, rfl, HD4.out, HP0.out⟩
  case round =>
    obtain ⟨k, D, E, hk, rfl, ho, hp⟩ := hrel
    have HO' := hid ho
    have HP := hid hp
    clear ho hp HD4 HP0
    by_cases hlt : k < ln
    · have hkc : k < S.length := by rw [HN.out]; exact hlt
      obtain ⟨ga, oa, rfl, c0, c1, c2, c3, c4, c5⟩ := HC.out.at_ k hkc
      have HOK := hid (HC.out.ok S[k] (List.getElem_mem hkc))
      have l1 : (k : Int) < (ln : Int) := by omega
      generalize S[k] = o at *
      have d0 := cell_kept HO'.out.l.bel c0
      have d1 := cell_kept HO'.out.l.bel c1
      have d2 := cell_kept HO'.out.l.bel c2
      have d3 := cell_kept HO'.out.l.bel c3
      have d4 := cell_kept HO'.out.l.bel c4
      have d5 := cell_kept HO'.out.l.bel c5
      have HK := hid hlt
      have hk2 : (k : Int) ≤ 140737488355328 := by omega
      clear c0 c1 c2 c3 c4 c5 hk hlt hkc
      obtain ⟨kd, sec, p, fn, on, mso⟩ := o
      simp only at d0 d1 d2 d3 d4 d5
      go_upto_region 11 with (fail)
      refine wp_world fun wb HW => ?_
      obtain ⟨b, hb⟩ : ∃ b, b = wr.heap.size := ⟨_, rfl⟩
      have HRb : Hid (Row wb b [.int .i64 kd, .bool sec, .int .i64 p, .int .i64 fn, .bool on, .int .u64 mso] 36) := by show Row _ _ _ _; rw [HW.out, hb]; exact Row.new _ _ _
      have HDb : Hid (Duo w wb g h 1 1 D E) := by show Duo _ _ _ _ _ _ _ _; rw [HW.out]; exact HO'.out.kept (below_grow (Below.refl _ _) _)
      have HGE : Hid (w.heap.size ≤ b) := by show _ ≤ _; rw [hb]; exact HO'.out.l.bel.size
      rw [← hb]
      clear hb HW HO' d0 d1 d2 d3 d4 d5
      have x2 := HRb.out.cell 2 _ rfl
      have f2 := HRb.out.frozen 2
      go_upto_region 12 with (fail)
      refine wp_world fun wc HW => ?_
      have HRc : Hid (Row wc b [.int .i64 kd, .bool sec, .int .i64 0, .int .i64 fn, .bool on, .int .u64 mso] 36) := by show Row _ _ _ _; rw [HW.out]; exact HRb.out.set 2 (.int .i64 0)
      have hob : Only [b] wb wc := by rw [HW.out]; exact (Only.refl _ _).setCell _ _ _ (.inl (by simp))
      have HDc : Hid (Duo w wc g h 1 1 D E) := by
        have hbb : Below w.heap.size w wc := HDb.out.l.bel.trans (hob.below HDb.out.l.bel.size (fun y hy => by rw [List.mem_singleton.1 hy]; exact HGE.out))
        have n1 := HDb.out.l.at_.ne HRb.out (by decide)
        have n2 := HDb.out.r.at_.ne HRb.out (by decide)
        exact ⟨⟨HDb.out.l.at_.other hob (by simpa using n1.symm), HDb.out.l.ge, hbb⟩, ⟨HDb.out.r.at_.other hob (by simpa using n2.symm), HDb.out.r.ge, hbb⟩, HDb.out.ne⟩
      clear hob HW HDb HRb x2 f2 HGE
      have x0 := HRc.out.cell 0 _ rfl
      by_cases k1 : kd = 1
      · subst k1
        go_wp2
        go_roundw
        case rel => exact ⟨k + 1, _, _, HK.out, by first | go_num | (rw [Int.natCast_succ]), HDc.out, HP.out⟩
        case measure =>
          simp [intOf]
          have := HK.out
          omega
      · by_cases k2 : kd = 2
        · subst k2
          go_wp2
          go_roundw
          case rel => exact ⟨k + 1, _, _, HK.out, by first | go_num | (rw [Int.natCast_succ]), HDc.out, HP.out⟩
          case measure =>
            simp [intOf]
            have := HK.out
            omega
        · have z1 : (kd == 1) = false := by simp [k1]
          have z2 : (kd == 2) = false := by simp [k2]
          have HOo : Hid (OpV.Ok ⟨kd, sec, 0, fn, on, mso⟩) := ⟨HOK.out.n1, HOK.out.m0⟩
          have HPN := hid (pair_act HM.out.1 HM.out.2 HP.out (HDc.out.r.at_.ok 0 (by decide)) ⟨kd, sec, 0, fn, on, mso⟩ rfl k1 k2)
          have HA1 := hid (act_any HDc.out.l.at_ HOo.out)
          simp only at HA1
          have x1 := HRc.out.cell 1 _ rfl
          have x2 := HRc.out.cell 2 _ rfl
          have x3 := HRc.out.cell 3 _ rfl
          have x4 := HRc.out.cell 4 _ rfl
          have x5 := HRc.out.cell 5 _ rfl
          clear k1 k2
          go_wp2_with (first
            | (go_at_call 16; refine HA1.out.mono ?_; clear HA1 x0 x1 x2 x3 x4 x5; rintro e wd ⟨rfl, h1, h2⟩; have HRd := hid (h2.row HRc.out (by simpa using HDc.out.l.at_.ne HRc.out (by decide))); have HDd := hid (HDc.out.toL h1 h2); have x0 := HRd.out.cell 0 _ rfl; have x1 := HRd.out.cell 1 _ rfl; have x2 := HRd.out.cell 2 _ rfl; have x3 := HRd.out.cell 3 _ rfl; have x4 := HRd.out.cell 4 _ rfl; have x5 := HRd.out.cell 5 _ rfl; have HA2 := hid (act_any HDd.out.r.at_ HOo.out); simp only at HA2; clear h1 h2)
            | (go_at_call 16; refine HA2.out.mono ?_; clear HA2 x0 x1 x2 x3 x4 x5; rintro e we ⟨rfl, h1, h2⟩; have HDe := hid (HDd.out.toR h1 h2); clear h1 h2))
          go_roundw
          case rel => exact ⟨k + 1, _, _, HK.out, by first | go_num | (rw [Int.natCast_succ]), HDe.out, HPN.out⟩
          case measure =>
            simp [intOf]
            have := HK.out
            omega
    · have e1 : decide ((k : Int) < (ln : Int)) = false := decide_eq_false (by omega)
      have e2 : decide (k < ln) = false := decide_eq_false hlt
      have HA1 := hid (acked_in HO'.out.l.at_ (show 0 < 1 by decide) HFF.out)
      clear hlt hk
      go_upto_region 16 with (go_at_call 14; refine HA1.out.mono ?_; clear HA1; rintro e w5 ⟨rfl, h1, h2⟩; have HD5 := hid (HO'.out.toL h1 h2); clear h1 h2)
      have HA2 := hid (acked_in HD5.out.r.at_ (show 0 < 1 by decide) HFF.out)
      go_upto_region 17 with (go_at_call 14; refine HA2.out.mono ?_; clear HA2; rintro e w6 ⟨rfl, h1, h2⟩; have HD6 := hid (HD5.out.toR h1 h2); clear h1 h2)
      have HPN := pair_ack HM.out.1 HM.out.2 F.toNat D E HP.out (HO'.out.r.at_.ok 0 (by decide))
      obtain ⟨c, t, hD, hE⟩ := HPN
      have HW1 : Hid (winD (ackD 1 0 F.toNat D) 1 0 = (c, t)) := by show _ = _; rw [show (0 : Int) = ((0 : Nat) : Int) from rfl, winD_in (by decide), hD]
      have HW2 : Hid (winD (ackD 1 0 F.toNat E) 1 0 = (c, t)) := by show _ = _; rw [show (0 : Int) = ((0 : Nat) : Int) from rfl, winD_in (by decide), hE]
      have HAL := hid (alive_any w6)
      clear hD hE e1 e2 HO' HD5 HP
      go_wp2_with (first
        | (go_at_call 15; refine HAL.out.mono ?_; clear HAL; rintro e w8 ⟨rfl, hb⟩; have HO8 := hid (HD6.out.kept hb); have HWI := hid (window_any HO8.out.l.at_ 0); rw [HW1.out] at HWI; simp only at HWI; clear hb)
        | (go_at_call 13; refine HWI.out.mono ?_; clear HWI; rintro e w9 ⟨rfl, hb⟩; have HO9 := hid (HO8.out.kept hb); have HWJ := hid (window_any HO9.out.r.at_ 0); rw [HW2.out] at HWJ; simp only at HWJ; clear hb)
        | (go_at_call 13; refine HWJ.out.mono ?_; clear HWJ; rintro e w10 ⟨rfl, hb⟩; have HO10 := hid (HO9.out.kept hb); clear hb))
      go_ret
      exact ⟨rfl, HO10.out.l.bel⟩
end Go.Proofs.Ytkcoabjeaoigdaa
