import Derived.Test.YtkcoabjeaoigdaaNo0
namespace Go.Proofs.Ytkcoabjeaoigdaa
open Go.RowKit Go.Sort
set_option maxRecDepth 100000

set_option maxHeartbeats 1000000 in
theorem do_emp {w : World} {v : Option Addr} {r : Nat} (hv : Nob w v) (hr : REmp w r) (o : OpV) :
    Calls Try.prog 18 #[.pointer v, .pointer (some ⟨r, 0, none⟩), .agg #[.int .i64 o.kind, .bool o.sec, .int .i64 o.path, .int .i64 o.n, .bool o.on, .int .u64 o.ms]] w fun e w' => e = .returned (.bool true) ∧ Below w.heap.size w w' := by
  obtain ⟨kd, sec, p, F, on, ms⟩ := o
  simp only
  have HB : Hid (Below w.heap.size w (w.alloc (.cells #[.int .i64 kd, .bool sec, .int .i64 p, .int .i64 F, .bool on, .int .u64 ms] 36))) := below_grow (Below.refl _ _) _
  have HR := hid (Row.new w [.int .i64 kd, .bool sec, .int .i64 p, .int .i64 F, .bool on, .int .u64 ms] 36)
  have HVa := hid (hv.kept HB.out)
  have HRa : Hid (REmp _ r) := Row.kept hr HB.out (Row.lt hr)
  have x0 := HR.out.cell 0 _ rfl
  have x2 := HR.out.cell 2 _ rfl
  have x3 := HR.out.cell 3 _ rfl
  have x4 := HR.out.cell 4 _ rfl
  have x5 := HR.out.cell 5 _ rfl
  clear hv hr HR
  by_cases k1 : kd = 1
  · subst k1
    have H1 := hid (take_no HVa.out (p := p) (b := on))
    have H2 := hid (rtake_emp HRa.out (p := p) (b := on))
    go_enter Try.func18, Try.ntmps18
    go_wp2_with (first
      | (go_at_call 10; refine H1.out.mono ?_; clear H1; rintro e w2 ⟨rfl, rfl⟩)
      | (go_at_call 24; refine H2.out.mono ?_; clear H2; rintro e w3 ⟨rfl, rfl⟩))
    go_ret
    exact ⟨rfl, HB.out⟩
  · have z1 : (kd == 1) = false := by simp [k1]
    by_cases k2 : kd = 2
    · subst k2
      have H1 := hid (rtt_no HVa.out (p := p) (ms := ms))
      have H2 := hid (rrtt_emp HRa.out (p := p) (ms := ms))
      go_enter Try.func18, Try.ntmps18
      go_wp2_with (first
        | (go_at_call 11; refine H1.out.mono ?_; clear H1; rintro e w2 ⟨rfl, rfl⟩)
        | (go_at_call 25; refine H2.out.mono ?_; clear H2; rintro e w3 ⟨rfl, rfl⟩))
      go_ret
      exact ⟨rfl, HB.out⟩
    · have z2 : (kd == 2) = false := by simp [k2]
      by_cases k3 : kd = 3
      · subst k3
        have H1 := hid (acked_no HVa.out (p := p) (F := F))
        have H2 := hid (racked_emp HRa.out (p := p) (F := F))
        go_enter Try.func18, Try.ntmps18
        go_wp2_with (first
          | (go_at_call 14; refine H1.out.mono ?_; clear H1; rintro e w2 ⟨rfl, rfl⟩)
          | (go_at_call 26; refine H2.out.mono ?_; clear H2; rintro e w3 ⟨rfl, rfl⟩))
        go_ret
        exact ⟨rfl, HB.out⟩
      · have z3 : (kd == 3) = false := by simp [k3]
        by_cases k4 : kd = 4
        · subst k4
          have H1 := hid (cut_no HVa.out (p := p))
          have H2 := hid (rcut_emp HRa.out (p := p))
          go_enter Try.func18, Try.ntmps18
          go_wp2_with (first
            | (go_at_call 12; refine H1.out.mono ?_; clear H1; rintro e w2 ⟨rfl, rfl⟩)
            | (go_at_call 27; refine H2.out.mono ?_; clear H2; rintro e w3 ⟨rfl, rfl⟩))
          go_ret
          exact ⟨rfl, HB.out⟩
        · have z4 : (kd == 4) = false := by simp [k4]
          by_cases k5 : kd = 5
          · subst k5
            have H1 := hid (timeout_no HVa.out (p := p))
            have H2 := hid (rtimeout_emp HRa.out (p := p))
            go_enter Try.func18, Try.ntmps18
            go_wp2_with (first
              | (go_at_call 23; refine H1.out.mono ?_; clear H1; rintro e w2 ⟨rfl, rfl⟩)
              | (go_at_call 28; refine H2.out.mono ?_; clear H2; rintro e w3 ⟨rfl, rfl⟩))
            go_ret
            exact ⟨rfl, HB.out⟩
          · have z5 : (kd == 5) = false := by simp [k5]
            by_cases k6 : kd = 6
            · subst k6
              have H1 := hid (look_emp HVa.out HRa.out (p := p))
              go_enter Try.func18, Try.ntmps18
              go_wp2_with (go_at_call 19; refine H1.out.mono ?_; clear H1; rintro e w2 ⟨rfl, hb⟩; have HB2 := hid (HB.out.trans (hb.mono HB.out.size)); clear hb)
              go_ret
              exact ⟨rfl, HB2.out⟩
            · have z6 : (kd == 6) = false := by simp [k6]
              go_enter Try.func18, Try.ntmps18
              go_wp2
              go_ret
              exact ⟨rfl, HB.out⟩
/-- What the law keeps: a group that nobody gave, and the document's empty one. -/
structure NoSt (W w : World) (v : Option Addr) (r : Nat) : Prop where
  v : Nob w v
  r : REmp w r
  bel : Below W.heap.size W w
theorem NoSt.kept {W w w' : World} {v : Option Addr} {r : Nat} (h : NoSt W w v r) (hb : Below w.heap.size w w') : NoSt W w' v r := ⟨h.v.kept hb, Row.kept h.r hb (Row.lt h.r), h.bel.trans (hb.mono h.bel.size)⟩
set_option maxHeartbeats 2000000 in
theorem nobody_any {w : World} {b : Bool} {a : Option Addr} {ln cap : Nat} {S : List OpV} (hC : OpsAt w a S) (hn : S.length = ln) (hm : ln ≤ 140737488355328) :
    Calls Try.prog 8 #[.bool b, .slice a ln cap] w fun e w' => e = .returned (.bool true) ∧ Below w.heap.size w w' := by
  cases b
  · have HC := hid hC
    have HN := hid hn
    clear hC hn
    go_enter Try.func8, Try.ntmps8
    go_upto_region 5 with (fail)
    refine wp_world fun w2 HW => ?_
    have HS : Hid (NoSt w w2 none w.heap.size) := by
      have hw : w2 = w.alloc (.cells #[.slice none 0 0] 52) := HW.out
      refine ⟨.inl rfl, ?_, by rw [hw]; exact below_grow (Below.refl _ _) _⟩
      rw [hw]
      exact Row.new' _ _ _ _ _ rfl rfl
    clear HW
    obtain ⟨r, hr⟩ : ∃ r, r = w.heap.size := ⟨_, rfl⟩
    rw [← hr] at HS
    rw [← hr]
    clear hr
    go_wp2
    go_loopw [7] (fun i wr => ∃ (k : Nat), k ≤ ln ∧ i = .int .i64 k ∧ NoSt w wr none r) (fun i _ => ln - (intOf i).toNat)
    case atStart => exact ⟨0, Nat.zero_le _, rfl, HS.out⟩
    case round =>
      obtain ⟨k, hk, rfl, ho⟩ := hrel
      have HO' := hid ho
      clear ho HS
      by_cases hlt : k < ln
      · have hkc : k < S.length := by rw [HN.out]; exact hlt
        obtain ⟨ga, oa, rfl, c0, c1, c2, c3, c4, c5⟩ := HC.out.at_ k hkc
        have l1 : (k : Int) < (ln : Int) := by omega
        generalize S[k] = o at *
        have HC2 := hid c2
        have d0 := cell_kept HO'.out.bel c0
        have d1 := cell_kept HO'.out.bel c1
        have d2 := cell_kept HO'.out.bel c2
        have d3 := cell_kept HO'.out.bel c3
        have d4 := cell_kept HO'.out.bel c4
        have d5 := cell_kept HO'.out.bel c5
        have HK := hid hlt
        have hk2 : (k : Int) ≤ 140737488355328 := by omega
        have HA := hid (do_emp HO'.out.v HO'.out.r o)
        clear c0 c1 c2 c3 c4 c5 hk hlt hkc
        go_wp2_with (first
          | (go_at_call 18; refine HA.out.mono ?_; clear HA d0 d1 d2 d3 d4 d5; rintro e w3 ⟨rfl, hb⟩; have HO3 := hid (HO'.out.kept hb); have d2 := cell_kept HO3.out.bel HC2.out; have HA2 := hid (look_emp HO3.out.v HO3.out.r (p := o.path)); clear hb)
          | (go_at_call 19; refine HA2.out.mono ?_; clear HA2 d2; rintro e w4 ⟨rfl, hb⟩; have HO4 := hid (HO3.out.kept hb); clear hb))
        go_roundw
        case rel => exact ⟨k + 1, HK.out, by first | go_num | (rw [Int.natCast_succ]), HO4.out⟩
        case measure =>
          simp [intOf]
          have := HK.out
          omega
      · have e1 : decide ((k : Int) < (ln : Int)) = false := decide_eq_false (by omega)
        have e2 : decide (k < ln) = false := decide_eq_false hlt
        have HNW := hid (own_new (n := 1) HO'.out.bel (by decide) (by decide))
        clear hlt hk
        go_upto_region 11 with (go_at_call 9; refine HNW.out.mono ?_; clear HNW; rintro e w5 ⟨rfl, h1, _⟩; have HO5 := hid h1; clear h1)
        have e0 : (winD (newD 1) 1 0).1 / 1024 = 10 := by decide +kernel
        have HF := hid (frames_any HO5.out.at_ 0)
        rw [e0] at HF
        clear e0
        go_wp2_with (go_at_call 17; refine HF.out.mono ?_; clear HF; rintro e w6 ⟨rfl, hb⟩; have HO6 := hid (HO5.out.kept hb); clear hb)
        go_ret
        exact ⟨rfl, HO6.out.bel⟩
  · have HC := hid hC
    have HN := hid hn
    clear hC hn
    go_enter Try.func8, Try.ntmps8
    go_upto_region 5 with (fail)
    refine wp_world fun w2 HW => ?_
    have g1 : GAt (w.alloc (.cells (z33 0).toArray 48)) w.heap.size 0 (newD 0) := ⟨⟨_, Row.new _ _ _, cells0 0⟩, by decide, fun k hk => by omega⟩
    have b1 : Below w.heap.size w (w.alloc (.cells (z33 0).toArray 48)) := below_grow (Below.refl _ _) _
    have HS : Hid (NoSt w w2 (some ⟨w.heap.size, 0, none⟩) (w.heap.size + 1)) := by
      have hw : w2 = (w.alloc (.cells (z33 0).toArray 48)).alloc (.cells #[.slice none 0 0] 52) := HW.out
      refine ⟨.inr ⟨_, _, rfl, by rw [hw]; exact g1.kept (below_grow (Below.refl _ _) _)⟩, ?_, by rw [hw]; exact b1.trans ((below_grow (Below.refl _ _) _).mono b1.size)⟩
      rw [hw]
      exact Row.new' _ _ _ _ _ (by simp) rfl
    clear HW g1 b1
    obtain ⟨r, hr⟩ : ∃ r, r = w.heap.size + 1 := ⟨_, rfl⟩
    rw [← hr] at HS
    rw [← hr]
    obtain ⟨g, hg⟩ : ∃ g, g = w.heap.size := ⟨_, rfl⟩
    rw [← hg] at HS
    rw [← hg]
    clear hr hg
    go_wp2
    go_loopw [7] (fun i wr => ∃ (k : Nat), k ≤ ln ∧ i = .int .i64 k ∧ NoSt w wr (some ⟨g, 0, none⟩) r) (fun i _ => ln - (intOf i).toNat)
    case atStart => exact ⟨0, Nat.zero_le _, rfl, HS.out⟩
    case round =>
      obtain ⟨k, hk, rfl, ho⟩ := hrel
      have HO' := hid ho
      clear ho HS
      by_cases hlt : k < ln
      · have hkc : k < S.length := by rw [HN.out]; exact hlt
        obtain ⟨ga, oa, rfl, c0, c1, c2, c3, c4, c5⟩ := HC.out.at_ k hkc
        have l1 : (k : Int) < (ln : Int) := by omega
        generalize S[k] = o at *
        have HC2 := hid c2
        have d0 := cell_kept HO'.out.bel c0
        have d1 := cell_kept HO'.out.bel c1
        have d2 := cell_kept HO'.out.bel c2
        have d3 := cell_kept HO'.out.bel c3
        have d4 := cell_kept HO'.out.bel c4
        have d5 := cell_kept HO'.out.bel c5
        have HK := hid hlt
        have hk2 : (k : Int) ≤ 140737488355328 := by omega
        have HA := hid (do_emp HO'.out.v HO'.out.r o)
        clear c0 c1 c2 c3 c4 c5 hk hlt hkc
        go_wp2_with (first
          | (go_at_call 18; refine HA.out.mono ?_; clear HA d0 d1 d2 d3 d4 d5; rintro e w3 ⟨rfl, hb⟩; have HO3 := hid (HO'.out.kept hb); have d2 := cell_kept HO3.out.bel HC2.out; have HA2 := hid (look_emp HO3.out.v HO3.out.r (p := o.path)); clear hb)
          | (go_at_call 19; refine HA2.out.mono ?_; clear HA2 d2; rintro e w4 ⟨rfl, hb⟩; have HO4 := hid (HO3.out.kept hb); clear hb))
        go_roundw
        case rel => exact ⟨k + 1, HK.out, by first | go_num | (rw [Int.natCast_succ]), HO4.out⟩
        case measure =>
          simp [intOf]
          have := HK.out
          omega
      · have e1 : decide ((k : Int) < (ln : Int)) = false := decide_eq_false (by omega)
        have e2 : decide (k < ln) = false := decide_eq_false hlt
        have HNW := hid (own_new (n := 1) HO'.out.bel (by decide) (by decide))
        clear hlt hk
        go_upto_region 11 with (go_at_call 9; refine HNW.out.mono ?_; clear HNW; rintro e w5 ⟨rfl, h1, _⟩; have HO5 := hid h1; clear h1)
        have e0 : (winD (newD 1) 1 0).1 / 1024 = 10 := by decide +kernel
        have HF := hid (frames_any HO5.out.at_ 0)
        rw [e0] at HF
        clear e0
        go_wp2_with (go_at_call 17; refine HF.out.mono ?_; clear HF; rintro e w6 ⟨rfl, hb⟩; have HO6 := hid (HO5.out.kept hb); clear hb)
        go_ret
        exact ⟨rfl, HO6.out.bel⟩
end Go.Proofs.Ytkcoabjeaoigdaa
