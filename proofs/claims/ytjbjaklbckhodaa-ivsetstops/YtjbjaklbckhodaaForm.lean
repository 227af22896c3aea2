import Derived.Test.YtjbjaklbckhodaaAwake
import Derived.Deep.CutRange
import Derived.Lib.QuietBelow
namespace Go.Proofs.Ytjbjaklbckhodaa
open Go.RowKit Go.Sort

/-- An Op of the script: its kind, the set that it names, its range, its number. -/
structure OpV where
  kind : Int
  other : Bool
  r : Rg
  x : Int
def OpV.cells (o : OpV) : List Value := [.int .i64 o.kind, .bool o.other, .int .u64 o.r.1, .int .u64 o.r.2, .int .u64 o.x]
/-- The script's cells. -/
structure OpsAt (w : World) (a : Option Addr) (S : List OpV) : Prop where
  row : ∀ i (h : i < S.length), ∃ b off, a = some ⟨b, off, none⟩ ∧ w.cell? ⟨b, off + i * 5, none⟩ = some (.int .i64 S[i].kind) ∧ w.cell? ⟨b, off + i * 5 + 1, none⟩ = some (.bool S[i].other) ∧ w.cell? ⟨b, off + i * 5 + 2, none⟩ = some (.int .u64 S[i].r.1) ∧ w.cell? ⟨b, off + i * 5 + 3, none⟩ = some (.int .u64 S[i].r.2) ∧ w.cell? ⟨b, off + i * 5 + 4, none⟩ = some (.int .u64 S[i].x)
  fit : ∀ o ∈ S, 0 ≤ o.r.1 ∧ o.r.2 ≤ 18446744073709551615

theorem cell_kept_below {w w' : World} (hb : Below w.heap.size w w') {ad : Addr} {v : Value} (h : w.cell? ad = some v) : w'.cell? ad = some v := cell_kept hb h

theorem bne_true {a b : Int} (h : a ≠ b) : (a != b) = true := by simp [h]
theorem bne_self (a : Int) : (a != a) = false := by simp

/-- The end of the last stretch ahead of place j. -/
def lastOf (L : List Rg) (j : Nat) : Int := if j = 0 then 0 else (nth L (j - 1)).2

set_option maxRecDepth 100000 in
set_option maxHeartbeats 1000000 in
theorem form_any (hSort : SortSaid) {w : World} {a : Option Addr} {cap : Nat} {S : List OpV} (O : OpsAt w a S) (hf : S.length * 40 ≤ 140737488355328) :
    Calls Try.prog 5 #[.slice a S.length cap] w fun e w' => e = .returned (.bool true) ∧ Below w.heap.size w w' := by
  have hN := new_any hSort (w := w) (a := none) (cap := 0) (L := []) ⟨fun h => absurd rfl h⟩ (by simp) (by simp)
  have HO : Hid _ := O
  clear O
  have HAW : Hid _ := fun w => awake_any hSort w
  go_enter Try.func5, Try.ntmps5
  go_wp2_with fail
  refine hN.mono ?_
  rintro e w1 ⟨p, rfl, v, L', hP, hO, hb1⟩
  obtain rfl : L' = [] := by simpa using hP
  have HO1 : Hid _ := hO
  have HB1 : Hid _ := hb1
  clear hP hO hb1 hN
  go_wp2_with fail
  refine Calls.mono (HAW.out w1) ?_
  rintro e w2 ⟨rfl, hb2⟩
  have HO2 : Hid _ := HO1.out.kept hb2
  have HB2 : Hid _ := HB1.out.trans (hb2.mono HB1.out.size)
  clear hb2 HO1 HB1 HAW
  go_wp2_with fail
  go_loopg [19] S.length (fun kx i wr => ∃ (k : Nat) (v : Value) (L : List Rg), k ≤ S.length ∧ S.length - k ≤ kx ∧ i = .int .i64 k ∧ Own w.heap.size wr p v L ∧ Fit L ∧ L.length ≤ k ∧ Below w.heap.size w wr)
  case atStart => exact ⟨0, v, [], Nat.zero_le _, by omega, rfl, HO2.out, ⟨by simp, by simp⟩, by simp, HB2.out⟩
  case round =>
    obtain ⟨k, v, L, hk, hkx, rfl, hO, hF, hL, hb⟩ := hrel
    have HOk : Hid _ := hO
    have HFk : Hid (Fit L) := hF
    have HBk : Hid _ := hb
    clear hO hF hb HO2 HB2
    by_cases hlt : k < S.length
    · obtain ⟨b, off, rfl, c0, c1, c2, c3, c4⟩ := HO.out.row k hlt
      have hr := HO.out.fit S[k] (List.getElem_mem hlt)
      have d0 := cell_kept_below HBk.out c0
      have d1 := cell_kept_below HBk.out c1
      have d2 := cell_kept_below HBk.out c2
      have d3 := cell_kept_below HBk.out c3
      have d4 := cell_kept_below HBk.out c4
      clear c0 c1 c2 c3 c4
      generalize S[k] = o at *
      obtain ⟨kd, ot, ⟨rl, rh⟩, x⟩ := o
      simp only at d0 d1 d2 d3 d4 hr
      have hki : (k : Int) < (S.length : Int) := by omega
      go_upto_if 26 with fail
      go_cut [] from 20 to 116 (fun wd => ∃ (v' : Value) (L' : List Rg), Own w.heap.size wd p v' L' ∧ Fit L' ∧ L'.length ≤ k + 1 ∧ Below w.heap.size w wd)
      case first =>
        have HBX : Hid _ := below_box wr (.cells #[.int .i64 kd, .bool ot, .int .u64 rl, .int .u64 rh, .int .u64 x] 47)
        have hA := add_any (HOk.out.kept HBX.out).set HFk.out (by omega) (rl, rh) hr.1 hr.2
        have hR := rem_any (HOk.out.kept HBX.out).set HFk.out (by omega) (rl, rh) hr.1 hr.2
        have HAF : Hid _ := And.intro (addL_fit HFk.out (rl, rh) hr.1 hr.2) (Nat.le_trans (addL_length HFk.out (rl, rh)) (Nat.succ_le_succ hL))
        have HRF : Hid _ := And.intro (remL_fit HFk.out (rl, rh) hr.1 hr.2) (Nat.le_trans (remL_length HFk.out (rl, rh)) (Nat.succ_le_succ hL))
        simp only at hA hR
        cases hb : (bits BinOp.and IntKind.i64 kd 1 == 1) with
        | true =>
          clear hR HRF
          go_wp2_with fail
          refine hA.mono ?_
          rintro e w5 ⟨rfl, v', hS5, hT5⟩
          have hX := (HOk.out.kept HBX.out).turned hS5 hT5
          have HX : Hid _ := hX
          clear hS5 hT5 hX hA
          go_wp2
          go_meet
          exact ⟨v', _, HX.out.1, HAF.out.1, HAF.out.2, HBk.out.trans ((HBX.out.mono HBk.out.size).trans HX.out.2)⟩
        | false =>
          clear hA HAF
          go_wp2_with fail
          refine hR.mono ?_
          rintro e w5 ⟨rfl, v', hS5, hT5⟩
          have hX := (HOk.out.kept HBX.out).turned hS5 hT5
          have HX : Hid _ := hX
          clear hS5 hT5 hX hR
          go_wp2
          go_meet
          exact ⟨v', _, HX.out.1, HRF.out.1, HRF.out.2, HBk.out.trans ((HBX.out.mono HBk.out.size).trans HX.out.2)⟩
      case rest =>
        obtain ⟨v', L', hO, hF, hL', hbc⟩ := hcut
        clear d0 d1 d2 d3 d4 HOk HFk HBk hL
        obtain ⟨a', cap', rfl, V⟩ := hO.set.view (by omega)
        have hRg := ranges_any V (by omega)
        have HV : Hid _ := V
        have HF : Hid (Fit L') := hF
        have HOc : Hid _ := hO
        have HBc : Hid _ := hbc
        clear V hF hO hbc
        go_wp2_with fail
        refine hRg.mono ?_
        rintro e w3 ⟨g, rfl, hg3, hr3, hb3⟩
        have HR3 : Hid _ := hr3
        have HB3 : Hid _ := hb3
        have HV3 : Hid _ := HV.out.kept hb3
        have HO3 : Hid _ := HOc.out.kept hb3
        have HBw : Hid _ := HBc.out.trans (hb3.mono HBc.out.size)
        clear hr3 hb3 hRg HV HOc HBc
        go_wp2_with fail
        obtain ⟨wo, hwo⟩ : ∃ wo : World, wo = wr := ⟨_, rfl⟩
        rw [← hwo]
        clear hwo
        go_loopg [6, 7, 38] L'.length (fun kx n la i wr => ∃ (j : Nat), j ≤ L'.length ∧ L'.length - j ≤ kx ∧ i = .int .i64 j ∧ n = .int .u64 (total (L'.take j)) ∧ la = .int .u64 (lastOf L' j) ∧ Below w3.heap.size w3 wr)
        case atStart => exact ⟨0, Nat.zero_le _, by omega, rfl, rfl, rfl, Below.refl _ _⟩
        case round =>
          obtain ⟨j, hj, hjx, rfl, rfl, rfl, hbj⟩ := hrel
          have HBj : Hid _ := hbj
          clear hbj
          by_cases hjl : j < L'.length
          · have hrow : wr.heap[g]? = some (.cells (flat L').toArray 29 (0, 0)) := by rw [HBj.out.block g (Array.getElem?_eq_some_iff.1 HR3.out).1]; exact HR3.out
            obtain ⟨c1, c2⟩ := row_pair hrow j hjl
            have hfr := HF.out.at j hjl
            have hg1 := gapOf_in HF.out j hjl L'[j].1 (Int.le_refl _) hfr.2.1
            have hg2 := gapOf_in HF.out j hjl (L'[j].2 - 1) (by omega) (by omega)
            have hg3' := gapOf_end HF.out j hjl
            have hts := total_snoc L' j hjl
            have htb := total_bd L' HF.out j hj
            have htb2 := total_bd L' HF.out (j + 1) hjl
            have hlast : j = 0 ∨ lastOf L' j < L'[j].1 := by
              by_cases h0 : j = 0
              · exact .inl h0
              · refine .inr ?_
                unfold lastOf
                rw [if_neg h0, nth_eq (by omega)]
                exact HF.out.lt (j - 1) j (by omega) hjl
            have hlast2 : lastOf L' (j + 1) = L'[j].2 := by
              unfold lastOf
              rw [if_neg (by omega), Nat.add_sub_cancel, nth_eq hjl]
            have HVr : Hid _ := HV3.out.kept HBj.out
            rw [hts] at htb2
            clear hrow
            generalize L'[j] = r at *
            obtain ⟨rl, rh⟩ := r
            simp only at c1 c2 hfr hg1 hg2 hg3' hts htb2 hlast hlast2
            have HTS : Hid _ := hts
            have HL2 : Hid _ := hlast2
            clear hts hlast2
            have hb0 : Below wr.heap.size wr (wr.alloc (.cells #[.int .u64 rl, .int .u64 rh] 29)) := below_box _ _
            have hbx := box_cells wr (.int .u64 rl) (.int .u64 rh)
            have HV0 : Hid _ := HVr.out.kept hb0
            have H1 : Hid (∀ d os, Calls Try.prog 21 #[.pointer (some ⟨p, 0, none⟩), .int .u64 rl] (grow (redrawn (wr.alloc (.cells #[.int .u64 rl, .int .u64 rh] 29)) d) os) fun e w'' => e = .returned (.bool true) ∧ ∃ q : Regrown, w'' = grow (redrawn (wr.alloc (.cells #[.int .u64 rl, .int .u64 rh] 29)) q.d) q.os) :=
              fun d os => Calls.regrown_of ((has_any rl (HV0.out.kept (below_regrown _ d os)) HF.out).mono fun e w' ⟨he, hb⟩ => ⟨by rw [he, hg1, bne_true (by omega)], hb⟩)
            have H2 : Hid (∀ d os, Calls Try.prog 21 #[.pointer (some ⟨p, 0, none⟩), .int .u64 (rh - 1)] (grow (redrawn (wr.alloc (.cells #[.int .u64 rl, .int .u64 rh] 29)) d) os) fun e w'' => e = .returned (.bool true) ∧ ∃ q : Regrown, w'' = grow (redrawn (wr.alloc (.cells #[.int .u64 rl, .int .u64 rh] 29)) q.d) q.os) :=
              fun d os => Calls.regrown_of ((has_any (rh - 1) (HV0.out.kept (below_regrown _ d os)) HF.out).mono fun e w' ⟨he, hb⟩ => ⟨by rw [he, hg2, bne_true (by omega)], hb⟩)
            have H3 : Hid (∀ d os, Calls Try.prog 21 #[.pointer (some ⟨p, 0, none⟩), .int .u64 rh] (grow (redrawn (wr.alloc (.cells #[.int .u64 rl, .int .u64 rh] 29)) d) os) fun e w'' => e = .returned (.bool false) ∧ ∃ q : Regrown, w'' = grow (redrawn (wr.alloc (.cells #[.int .u64 rl, .int .u64 rh] 29)) q.d) q.os) :=
              fun d os => Calls.regrown_of ((has_any rh (HV0.out.kept (below_regrown _ d os)) HF.out).mono fun e w' ⟨he, hb⟩ => ⟨by rw [he, hg3', bne_self], hb⟩)
            have H4 : Hid (∀ d os, Calls Try.prog 22 #[.pointer (some ⟨p, 0, none⟩), .agg #[.int .u64 rl, .int .u64 rh]] (grow (redrawn (wr.alloc (.cells #[.int .u64 rl, .int .u64 rh] 29)) d) os) fun e w'' => e = .returned (.bool true) ∧ ∃ q : Regrown, w'' = grow (redrawn (wr.alloc (.cells #[.int .u64 rl, .int .u64 rh] 29)) q.d) q.os) :=
              fun d os => Calls.regrown_of ((covers_any (rl, rh) (HV0.out.kept (below_regrown _ d os)) HF.out).mono fun e w' ⟨he, hb⟩ => ⟨by rw [he, hg1]; simp, hb⟩)
            have H5 : Hid (∀ d os, Calls Try.prog 23 #[.pointer (some ⟨p, 0, none⟩), .int .u64 rl] (grow (redrawn (wr.alloc (.cells #[.int .u64 rl, .int .u64 rh] 29)) d) os) fun e w'' => e = .returned (.int .u64 rh) ∧ ∃ q : Regrown, w'' = grow (redrawn (wr.alloc (.cells #[.int .u64 rl, .int .u64 rh] 29)) q.d) q.os) :=
              fun d os => Calls.regrown_of ((gap_any rl (HV0.out.kept (below_regrown _ d os)) HF.out).mono fun e w' ⟨he, hb⟩ => ⟨by rw [he, hg1], hb⟩)
            have hjl' : (j : Int) < (L'.length : Int) := by omega
            have HB0 : Hid _ := hb0
            have HBX : Hid _ := hbx
            clear hg1 hg2 hg3' hb0 hbx HV0 HVr
            go_upto_region 15 with fail
            go_cut [93] from 39 to 103 (fun t wd => t = .bool false ∧ Below (wr.alloc (.cells #[.int .u64 rl, .int .u64 rh] 29)).heap.size (wr.alloc (.cells #[.int .u64 rl, .int .u64 rh] 29)) wd)
            case first =>
              have hle : decide (rh ≤ rl) = false := by simp; omega
              have hw1 : IntKind.u64.wrap (rh - 1) = rh - 1 := by rw [IntKind.wrap_u64]; omega
              have k0 := cell_regrown HBX.out.1
              have k1 := cell_regrown HBX.out.2
              generalize wr.alloc (.cells #[.int .u64 rl, .int .u64 rh] 29) = W0 at *
              by_cases hj0 : 0 < j
              · have hjd : decide ((0 : Int) < (j : Int)) = true := by simp; omega
                have hlr : decide (rl ≤ lastOf L' j) = false := by simp; omega
                have hji : (0 : Int) < (j : Int) := by omega
                generalize lastOf L' j = z at *
                refine wp_region_quiet_below (by kernel_rfl) (by kernel_rfl) ?_
                repeat (quiet_step (first | (go_at_call_of 21 (Value.int IntKind.u64 rl); exact H1.out _ _) | (go_at_call_of 21 (Value.int IntKind.u64 rh); exact H3.out _ _) | (go_at_call 21; exact H2.out _ _) | (go_at_call 22; exact H4.out _ _) | (go_at_call 23; exact H5.out _ _)))
                refine wpQuiet_nil ?_
                intro _ hw'
                obtain ⟨⟨dq, osq⟩, hw''⟩ := hw'
                subst hw''
                go_wp2_with fail
                go_meet
                exact ⟨rfl, below_regrown W0 dq osq⟩
              · obtain rfl : j = 0 := by omega
                have hjd : decide ((0 : Int) < ((0 : Nat) : Int)) = false := by simp
                refine wp_region_quiet_below (by kernel_rfl) (by kernel_rfl) ?_
                repeat (quiet_step (first | (go_at_call_of 21 (Value.int IntKind.u64 rl); exact H1.out _ _) | (go_at_call_of 21 (Value.int IntKind.u64 rh); exact H3.out _ _) | (go_at_call 21; exact H2.out _ _) | (go_at_call 22; exact H4.out _ _) | (go_at_call 23; exact H5.out _ _)))
                refine wpQuiet_nil ?_
                intro _ hw'
                obtain ⟨⟨dq, osq⟩, hw''⟩ := hw'
                subst hw''
                go_wp2_with fail
                go_meet
                exact ⟨rfl, below_regrown W0 dq osq⟩
            case rest =>
              obtain ⟨rfl, hbd⟩ := hcut
              have c90 := cell_kept hbd HBX.out.1
              have c91 := cell_kept hbd HBX.out.2
              have HBD : Hid _ := HBj.out.trans (((HB0.out.trans (hbd.mono HB0.out.size))).mono HBj.out.size)
              clear hbd H1 H2 H3 H4 H5 HB0 HBX hlast
              generalize total (L'.take j) = t at *
              go_wp2
              go_roundg (L'.length - (j + 1))
              case measure => omega
              case rel => exact ⟨j + 1, hjl, Nat.le_refl _, by go_num, by rw [HTS.out], by rw [HL2.out], HBD.out⟩
          · have e : j = L'.length := by omega
            subst e
            have hjl' : ¬ (L'.length : Int) < (L'.length : Int) := by omega
            rw [List.take_length]
            have HV4 : Hid _ := HV3.out.kept HBj.out
            have HO4 : Hid _ := HO3.out.kept HBj.out
            have HB4 : Hid _ := HBw.out.trans (HBj.out.mono HBw.out.size)
            clear HV3 HO3 HBw HBj
            go_wp2_with fail
            refine (count_any HV4.out HF.out).mono ?_
            rintro e w5 ⟨rfl, hb5⟩
            have HV5 : Hid _ := HV4.out.kept hb5
            have HO5 : Hid _ := HO4.out.kept hb5
            have HB5 : Hid _ := HB4.out.trans (hb5.mono HB4.out.size)
            clear hb5 HV4 HO4 HB4
            generalize total L' = t at *
            have htt : (t != t) = false := bne_self t
            go_wp2_with fail
            refine (ranges_any HV5.out (by omega)).mono ?_
            rintro e w6 ⟨g6, rfl, _, _, hb6⟩
            have HV6 : Hid _ := HV5.out.kept hb6
            have HO6 : Hid _ := HO5.out.kept hb6
            have HB6 : Hid _ := HB5.out.trans (hb6.mono HB5.out.size)
            clear hb6 HV5 HO5 HB5
            go_wp2_with fail
            refine (len_any HV6.out).mono ?_
            rintro e w7 ⟨rfl, rfl⟩
            have hll : ((L'.length : Int) != (L'.length : Int)) = false := bne_self _
            go_wp2
            go_roundg (S.length - (k + 1))
            case measure => omega
            case rel => exact ⟨k + 1, _, L', hlt, Nat.le_refl _, by go_num, HO6.out, HF.out, hL', HB6.out⟩
    · have hki : ¬ (k : Int) < (S.length : Int) := by omega
      go_wp2
      go_ret
      exact ⟨rfl, HBk.out⟩

end Go.Proofs.Ytjbjaklbckhodaa
