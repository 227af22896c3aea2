import Derived.Test.YtfhjiggaacgncaaDoorJr2
import Derived.Test.YtfhjiggaacgncaaDoorJd6
namespace Go.Proofs.YtfhjiggaacgncaaDoor
open Go.RowKit Go.Maps Go.Sort
set_option maxRecDepth 100000

theorem Row.result2 {P : Program} {w : World} {g : Nat} {c : List Value} {t : TypeId} {fn : Func} {p u : Tmp} {ty : TypeId} (h : Row w g c t) (hr : fn.results = #[.cell p ty, .tmp u]) (tmps : Array Value) (hp : tmps.getD p undef = .pointer (some ⟨g, 0, none⟩)) (d : TypeDesc)
    (hu : P.underlying ty = some d) (hd : (match d with | .struct _ | .array _ _ => true | _ => false) = true) (hi : (P.info? ty).map (·.size) = some c.length) : (results fn tmps).run P w = .ok (.tuple #[.agg c.toArray, tmps.getD u undef]) w := by
  have hp' : tmps[p]?.getD undef = .pointer (some ⟨g, 0, none⟩) := by simpa using hp
  simp [results, hr, hp', asAddr, run_loadVar_row w g t ty c.toArray (0, 0) d h.at_ hu hd (by simpa using hi)]
theorem i41 : (Tryd.prog.info? 41).map (·.size) = some 3 := by kernel_rfl
/-- The right record at the front. -/
def rightP (l : List (BitVec 8)) (num : Nat) : Option (BitVec 8 × List (BitVec 8)) :=
  match reachP l with
  | none => none
  | some n => if l[12]?.getD 0#8 ≠ 0#8 ∧ recL num (l[12]?.getD 0#8) ((l.drop 13).take (n - 18)) = l.take n then some (l[12]?.getD 0#8, (l.drop 13).take (n - 18)) else none
theorem reachP_bd {l : List (BitVec 8)} {n : Nat} (h : reachP l = some n) : 18 ≤ n ∧ n ≤ l.length ∧ n ≤ 65554 := by
  unfold reachP at h
  split at h
  · cases h
  · split at h
    · cases h
    · injection h with h
      omega
def rec0 : Value := .agg #[.int .u64 0, .int .u8 0, .slice none 0 0]
def RightAns (w : World) (num : Nat) (o : Option (BitVec 8 × List (BitVec 8))) (e : Ending) (w' : World) : Prop := Below w.heap.size w w' ∧
  match o with
  | none => e = .returned (.tuple #[.agg #[.int .u64 0, .int .u8 0, .slice none 0 0], .bool false])
  | some (k, b) => ∃ v, e = .returned (.tuple #[.agg #[.int .u64 num, .int .u8 (ub k), v], .bool true]) ∧ OwnBy w' w.heap.size v b
set_option maxHeartbeats 4000000 in
theorem right_any {w : World} {a : Option Addr} {l : List (BitVec 8)} {L cap num : Nat} (hB : BytesAt w a l) (hL : l.length = L) (hc : L ≤ cap) (hm : cap ≤ maxLen) (hl : L ≤ 16777216) (hu : num < 18446744073709551616) (hT : CrcTab w) :
    Calls Tryd.prog 61 #[.slice a L cap, .int .u64 num] w (RightAns w num (rightP l num)) := by
  have b1 := below_new w (.cells #[.int .u64 0, .int .u8 0, .slice none 0 0] 41)
  have R1 := Row.new w [.int .u64 0, .int .u8 0, .slice none 0 0] 41
  have HR := hid (reach_any (hB.kept b1) hL hc hm hl)
  have hB1 := hB.kept b1
  have hT1 := hT.kept b1
  cases hr : reachP l with
  | none =>
    have HP : Hid (rightP l num = none) := by show _ = _; unfold rightP; rw [hr]
    rw [HP.out]
    rw [hr] at HR
    unfold reachV at HR
    have HB1 := hid b1
    clear hB hB1 hT hT1 b1 HP hm hc
    go_enter Tryd.func61, Tryd.ntmps61
    go_upto_region 1 with fail
    revert R1 HR HB1
    generalize w.alloc (.cells #[.int .u64 0, .int .u8 0, .slice none 0 0] 41) = w1
    intro R1 HR HB1
    have HRR := hid R1
    have f0 := R1.frozen 0
    have f1 := R1.frozen 1
    have f2 := R1.frozen 2
    have d0 := R1.cell 0 _ rfl
    have d1 := R1.cell 1 _ rfl
    have d2 := R1.cell 2 _ rfl
    clear R1
    go_wp2_with (go_at_call 71; refine HR.out.mono ?_; rintro e w2 ⟨rfl, rfl⟩)
    have RR := ((HRR.out.set 0 (.int .u64 0)).set 1 (.int .u8 0)).set 2 (.slice none 0 0)
    refine bodyPost_ret (RR.result2 Tryd.results61 _ rfl _ Tryd.underlying41 rfl i41) rfl ?_
    refine ⟨?_, rfl⟩
    exact HB1.out.trans (((((Fr.refl (fun x => x = w.heap.size) w2).setCell _ 0 _ (.inl rfl)).setCell _ 1 _ (.inl rfl)).setCell _ 2 _ (.inl rfl)).below (fun x e => by omega) HB1.out.size)
  | some n =>
    obtain ⟨n1, n2, n3⟩ := reachP_bd hr
    obtain ⟨g, o, rfl, -⟩ := hB 0 (by omega)
    rw [hr] at HR
    have HR2 : Hid (Calls Tryd.prog 71 #[.slice (some ⟨g, o, none⟩) L cap] (w.alloc (.cells #[.int .u64 0, .int .u8 0, .slice none 0 0] 41)) fun e w' => e = .returned (.tuple #[.int .i64 (n : Int), .bool true]) ∧ w' = w.alloc (.cells #[.int .u64 0, .int .u8 0, .slice none 0 0] 41)) := HR.out
    clear HR
    have HP : Hid (rightP l num = if l[12]?.getD 0#8 ≠ 0#8 ∧ recL num (l[12]?.getD 0#8) ((l.drop 13).take (n - 18)) = l.take n then some (l[12]?.getD 0#8, (l.drop 13).take (n - 18)) else none) := by show _ = _; unfold rightP; rw [hr]
    obtain ⟨m, rfl⟩ : ∃ m, n = m + 18 := ⟨n - 18, by omega⟩
    rw [Nat.add_sub_cancel] at HP
    have hk12 : ∃ k, l[12]?.getD 0#8 = k := ⟨_, rfl⟩
    obtain ⟨k, hk⟩ := hk12
    have hb12 : ((l.drop 13).take m).length = m := by simp; omega
    have hsub := hB1.sub 13 m
    obtain ⟨b, hbb⟩ : ∃ b, (l.drop 13).take m = b := ⟨_, rfl⟩
    obtain ⟨g', o', e', c12⟩ := hB1 12 (by omega)
    cases e'
    have h12 : l[12]'(by omega) = k := by rw [← hk, List.getElem?_eq_getElem (by omega)]; rfl
    rw [h12] at c12
    rw [hbb] at hb12 hsub HP
    rw [hk] at HP
    have hfr := hB1.front (m + 18)
    have HFL := hid (show (l.take (m + 18)).length = m + 18 by simp; omega)
    obtain ⟨N, hN⟩ : ∃ N, m + 18 = N := ⟨_, rfl⟩
    obtain ⟨t1, ht1⟩ : ∃ t, m + 14 = t := ⟨_, rfl⟩
    obtain ⟨t2, ht2⟩ : ∃ t, m + 13 = t := ⟨_, rfl⟩
    rw [hN] at HR2 hfr HFL HP
    unfold maxLen at hm
    have i1 : (N : Int) ≤ L := by omega
    have i2 : (N : Int) ≤ cap := by omega
    have i3 : (cap : Int) ≤ 9223372036854775807 := by omega
    have i4 : (N : Int) - 4 = t1 := by omega
    have i5 : IntKind.i64.wrap (t1 : Int) = t1 := by rw [IntKind.wrap_i64]; omega
    have i6 : (t1 : Int) - 1 = t2 := by omega
    have i7 : IntKind.i64.wrap (t2 : Int) = t2 := by rw [IntKind.wrap_i64]; omega
    have i8 : (13 : Int) ≤ t2 := by omega
    have i9 : (t2 : Int) ≤ N := by omega
    have i10 : (12 : Int) < N := by omega
    have i11 : ¬ N = 13 := by omega
    have HM := hid (show t2 - 13 = m by omega)
    have HML := hid (show m ≤ 65536 by omega)
    have HB1 := hid b1
    have HSUB := hid hsub
    have HFR := hid hfr
    have HBL := hid hb12
    have HTT := hid hT1
    have HU := hid hu
    generalize l.take N = lN at *
    generalize rightP l num = RP at *
    clear hB hB1 hT hT1 b1 hsub hfr hk h12 hbb hb12 hN ht1 ht2 n1 n2 n3 hm hc hL hl hu hr
    go_enter Tryd.func61, Tryd.ntmps61
    go_upto_region 1 with fail
    have hall := And.intro R1 (And.intro HR2 (And.intro c12 (And.intro HB1 (And.intro HSUB (And.intro HFR HTT)))))
    clear R1 HR2 c12 HB1 HSUB HFR HTT
    revert hall
    generalize w.alloc (.cells #[.int .u64 0, .int .u8 0, .slice none 0 0] 41) = w1
    rintro ⟨R1, HR2, c12, HB1, HSUB, HFR, HTT⟩
    have HRR := hid R1
    clear R1
    go_upto_region 5 with (go_at_call 71; refine HR2.out.mono ?_; rintro e w2 ⟨rfl, rfl⟩)
    have HCL : Hid (∀ w3, Below w2.heap.size w2 w3 → Calls Tryd.prog 35 #[.slice (some ⟨g, o + 13, none⟩) (t2 - 13) (N - 13)] w3 fun e w' => ∃ v, e = .returned v ∧ OwnBy w' w2.heap.size v b ∧ Below w3.heap.size w3 w') := fun w3 hb3 => by
      refine (clone_any (HSUB.out.kept hb3) (by rw [HBL.out, HM.out]) (by have := HM.out; have := HML.out; omega)).mono ?_
      rintro e w' ⟨v, rfl, hO, hb⟩
      exact ⟨v, rfl, own_less hO hb3.size, hb⟩
    clear HR2
    have HCA := hid (HCL.out _ (below_drewN (Below.refl w2.heap.size w2) 1))
    have HCB := hid (HCL.out _ (below_drewN (below_new w2 (.cells #[.int .u64 0, .int .u8 0, .slice none 0 0] 41)) 1))
    have c12b := cell_kept (below_new w2 (.cells #[.int .u64 0, .int .u8 0, .slice none 0 0] 41)) c12
    have HZB := hid (below_new w2 (.cells #[.int .u64 0, .int .u8 0, .slice none 0 0] 41))
    have HZR := hid (Row.new w2 [.int .u64 0, .int .u8 0, .slice none 0 0] 41)
    have HZS := hid (show w2.heap.size < (w2.alloc (.cells #[.int .u64 0, .int .u8 0, .slice none 0 0] 41)).heap.size by simp)
    clear HCL
    go_cut [9] from 22 to 32 (fun r9 wx => ∃ bx v, r9 = pt bx 0 ∧ Hid (Row wx bx [.int .u64 num, .int .u8 (ub k), v] 41) ∧ Hid (OwnBy wx w2.heap.size v b) ∧ Hid (Below w2.heap.size w2 wx) ∧ Hid (w2.heap.size ≤ bx))
    case first =>
      go_region_with (first | (go_at_call 35; refine HCA.out.mono ?_; rintro e w4 ⟨v, rfl, hO, hb⟩; obtain ⟨a4, c4, e4, -⟩ := own_len hO; subst e4; have c12c := cell_kept hb (cell_drewN (m := 1) c12); have c12d := cell_kept (below_new w4 (.cells #[.int .u64 0, .int .u8 0, .slice none 0 0] 41)) c12c; have HX := hid (And.intro hO hb); have HA : Hid True := trivial; clear hO hb) | (go_at_call 35; refine HCB.out.mono ?_; rintro e w4 ⟨v, rfl, hO, hb⟩; obtain ⟨a4, c4, e4, -⟩ := own_len hO; subst e4; have RX := (HZR.out.drew 1).kept hb HZS.out; have HRX := hid RX; have d0 := RX.cell 0 _ rfl; have d1 := RX.cell 1 _ rfl; have d2 := RX.cell 2 _ rfl; have f0 := RX.frozen 0; have f1 := RX.frozen 1; have f2 := RX.frozen 2; have c12c := cell_kept hb (cell_drewN (m := 1) c12b); have HX := hid (And.intro hO hb); clear hO hb RX))
      all_goals (go_wp2_with fail; go_meet)
      all_goals first
        | exact ⟨w4.heap.size, _, rfl, Row.new' w4 _ _ 41 _ rfl rfl, own_below HX.out.1 (below_new w4 _), below_two ((below_drewN (Below.refl _ _) 1).trans HX.out.2) (below_new w4 _) (Nat.le_refl _), (((below_drewN (Below.refl w2.heap.size w2) 1).trans HX.out.2).size : w2.heap.size ≤ w4.heap.size)⟩
        | (have F4 := (((Fr.refl (fun x => x = w2.heap.size) w4).setCell w2.heap.size 0 (.int .u64 num) (.inl rfl)).setCell w2.heap.size 1 (.int .u8 (ub k)) (.inl rfl)).setCell w2.heap.size 2 (.slice a4 b.length c4) (.inl rfl)
           have hb4 : Below w2.heap.size w2 w4 := (below_drewN HZB.out 1).trans (HX.out.2.mono (Nat.le_of_lt HZS.out))
           exact ⟨w2.heap.size, _, rfl, ((HRX.out.set 0 _).set 1 _).set 2 _, F4.own HX.out.1 (fun x e e' => by
             obtain ⟨cur, hg⟩ := own_blk HX.out.1 e
             subst e'
             exact absurd (cells_type HRX.out.at_ hg) (by decide)), hb4.trans (F4.below (fun x e => Nat.le_of_eq e.symm) hb4.size), Nat.le_refl _⟩)
    case rest =>
      obtain ⟨bx, v, rfl, HRW, HOV, HBL4, HBX⟩ := hcut
      have q0 := HRW.out.cell 0 _ rfl
      have q1 := HRW.out.cell 1 _ rfl
      have q2 := HRW.out.cell 2 _ rfl
      obtain ⟨a4, c4, e4, hlc4, hcm4, hz4⟩ := own_len HOV.out
      subst e4
      have RT := HRR.out.kept HBL4.out HRR.out.lt
      have HRT := hid RT
      have f0 := RT.frozen 0
      have f1 := RT.frozen 1
      have f2 := RT.frozen 2
      have d0 := RT.cell 0 _ rfl
      have d1 := RT.cell 1 _ rfl
      have d2 := RT.cell 2 _ rfl
      obtain ⟨av, cv, ev, hBv, _⟩ := ownBy_shape HOV.out
      cases ev
      have HLD := hid (laid_any wc num k hBv rfl hz4 (by rw [HBL.out]; have := HML.out; omega) HU.out (HTT.out.kept HBL4.out))
      clear RT HCA HCB HZB HZR HZS c12 c12b i1 i2 i3 i4 i5 i6 i7 i8 i9 i10 i11
      by_cases hk0 : k = 0#8
      · have HP2 : Hid (RP = none) := HP.out.trans (if_neg (fun h => h.1 hk0))
        have hk00 : ub k = 0 := by rw [hk0]; decide
        rw [hk00] at q1
        clear hk0 hk00 HP HLD
        go_wp2
        have RR := ((HRT.out.set 0 (.int .u64 0)).set 1 (.int .u8 0)).set 2 (.slice none 0 0)
        refine bodyPost_ret (RR.result2 Tryd.results61 _ rfl _ Tryd.underlying41 rfl i41) rfl ?_
        rw [HP2.out]
        refine ⟨?_, rfl⟩
        exact (below_two HB1.out HBL4.out (Nat.le_refl _)).trans (((((Fr.refl (fun x => x = w.heap.size) wc).setCell _ 0 _ (.inl rfl)).setCell _ 1 _ (.inl rfl)).setCell _ 2 _ (.inl rfl)).below (fun x e => by omega) (Nat.le_trans HB1.out.size HBL4.out.size))
      · have hku : ¬ ub k = 0 := fun e => hk0 (ub_inj (by rw [e]; decide))
        have HK0 := hid hk0
        clear hk0 d0 d1 d2 f0 f1 f2
        have HFRx := hid (HFR.out.kept HBL4.out)
        have HEQ : Hid (∀ w5 v5, OwnBy w5 wc.heap.size v5 (recL num k b) → Below wc.heap.size wc w5 → ∃ a5 n5 c5, v5 = .slice a5 n5 c5 ∧ Calls Tryd.prog 72 #[.slice a5 n5 c5, .slice (some ⟨g, o, none⟩) N N] w5 fun e w' => e = .returned (.bool (decide (recL num k b = lN))) ∧ w' = w5) := fun w5 v5 hO hb => by
          obtain ⟨a5, c5, e5, hB5, _⟩ := ownBy_shape hO
          exact ⟨a5, _, c5, e5, equal_any hB5 rfl (HFRx.out.kept hb) HFL.out⟩
        clear HFRx HFR HTT HSUB
        by_cases hq : recL num k b = lN
        · have HP2 : Hid (RP = some (k, b)) := HP.out.trans (if_pos ⟨HK0.out, hq⟩)
          have hdq : decide (recL num k b = lN) = true := decide_eq_true hq
          rw [hdq] at HEQ
          clear hq hdq HP
          go_wp2_with (first | (go_at_call 38; refine HLD.out.mono ?_; rintro e w5 ⟨v5, rfl, hO5, hb5⟩; obtain ⟨a5, n5, c5, rfl, hq5⟩ := HEQ.out w5 v5 hO5 hb5; have HQ5 := hid hq5; have HB5 := hid hb5; have RT5 := HRT.out.kept hb5 HRT.out.lt; have HRT5 := hid RT5; have RW5 := HRW.out.kept hb5 HRW.out.lt; have f0 := RT5.frozen 0; have f1 := RT5.frozen 1; have f2 := RT5.frozen 2; have d0 := RT5.cell 0 _ rfl; have d1 := RT5.cell 1 _ rfl; have d2 := RT5.cell 2 _ rfl; have z0 := RW5.cell 0 _ rfl; have z1 := RW5.cell 1 _ rfl; have z2 := RW5.cell 2 _ rfl; clear hO5 hb5 hq5 RT5 RW5) | (go_at_call 72; refine HQ5.out.mono ?_; rintro e w6 ⟨rfl, rfl⟩))
          have RR := ((HRT5.out.set 0 (.int .u64 num)).set 1 (.int .u8 (ub k))).set 2 (.slice a4 b.length c4)
          refine bodyPost_ret (RR.result2 Tryd.results61 _ rfl _ Tryd.underlying41 rfl i41) rfl ?_
          rw [HP2.out]
          have F5 := (((Fr.refl (fun x => x = w.heap.size) w6).setCell w.heap.size 0 (.int .u64 num) (.inl rfl)).setCell w.heap.size 1 (.int .u8 (ub k)) (.inl rfl)).setCell w.heap.size 2 (.slice a4 b.length c4) (.inl rfl)
          have hB5 := below_two (below_two HB1.out HBL4.out (Nat.le_refl _)) HB5.out (Nat.le_refl _)
          refine ⟨hB5.trans (F5.below (fun x e => by omega) hB5.size), _, rfl, ?_⟩
          exact own_less (F5.own (own_below HOV.out HB5.out) (fun x e e' => by have h1 := own_ge HOV.out e; have h2 := HRR.out.lt; omega)) HB1.out.size
        · have HP2 : Hid (RP = none) := HP.out.trans (if_neg (fun h => hq h.2))
          have hdq : decide (recL num k b = lN) = false := decide_eq_false hq
          rw [hdq] at HEQ
          clear hq hdq HP
          go_wp2_with (first | (go_at_call 38; refine HLD.out.mono ?_; rintro e w5 ⟨v5, rfl, hO5, hb5⟩; obtain ⟨a5, n5, c5, rfl, hq5⟩ := HEQ.out w5 v5 hO5 hb5; have HQ5 := hid hq5; have HB5 := hid hb5; have RT5 := HRT.out.kept hb5 HRT.out.lt; have HRT5 := hid RT5; have f0 := RT5.frozen 0; have f1 := RT5.frozen 1; have f2 := RT5.frozen 2; have d0 := RT5.cell 0 _ rfl; have d1 := RT5.cell 1 _ rfl; have d2 := RT5.cell 2 _ rfl; clear hO5 hb5 hq5 RT5) | (go_at_call 72; refine HQ5.out.mono ?_; rintro e w6 ⟨rfl, rfl⟩))
          have RR := ((HRT5.out.set 0 (.int .u64 0)).set 1 (.int .u8 0)).set 2 (.slice none 0 0)
          refine bodyPost_ret (RR.result2 Tryd.results61 _ rfl _ Tryd.underlying41 rfl i41) rfl ?_
          rw [HP2.out]
          have F5 := (((Fr.refl (fun x => x = w.heap.size) w6).setCell w.heap.size 0 (.int .u64 0) (.inl rfl)).setCell w.heap.size 1 (.int .u8 0) (.inl rfl)).setCell w.heap.size 2 (.slice none 0 0) (.inl rfl)
          have hB5 := below_two (below_two HB1.out HBL4.out (Nat.le_refl _)) HB5.out (Nat.le_refl _)
          exact ⟨hB5.trans (F5.below (fun x e => by omega) hB5.size), rfl⟩
end Go.Proofs.YtfhjiggaacgncaaDoor
