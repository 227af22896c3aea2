import Derived.Test.YtjpllcliehgnfaaDoorSha1
import Derived.Deep.CutRange
namespace Go.Proofs.YtjpllcliehgnfaaDoor
open Go.RowKit
set_option maxRecDepth 100000

set_option maxHeartbeats 1500000 in
theorem mixed_any {w : World} (s : St) (b : List (BitVec 8)) (hb : b.length = 64) (hK : KTab w) :
    Calls Tryd.prog 66 #[.agg (wcells s.l).toArray, .agg (bcells b).toArray] w fun e w' => e = .returned (.agg (wcells (mix s b).l).toArray) ∧ Below w.heap.size w w' := by
  have HL : Hid _ := hb
  have HK : Hid _ := hK
  have hlen : (wordsOf b 48).length = 64 := wordsOf_len b 48
  have HL2 : Hid _ := hlen
  have i66 : (Tryd.prog.info? 99).map (·.size) = some 64 := by kernel_rfl
  have I66 : Hid _ := i66
  have i36 : (Tryd.prog.info? 92).map (·.size) = some 64 := by kernel_rfl
  have I36 : Hid _ := i36
  clear hb hK hlen i66 i36
  go_enter Tryd.func66, Tryd.ntmps66
  go_upto_region 1 with (fail)
  obtain ⟨wa, hwa⟩ : ∃ wa : World, wa = (((w.alloc (.cells (wcells s.l).toArray 90)).alloc (.cells (bcells b).toArray 92)).alloc (.cells #[.int .u32 0, .int .u32 0, .int .u32 0, .int .u32 0, .int .u32 0, .int .u32 0, .int .u32 0, .int .u32 0] 90)) := ⟨_, rfl⟩
  rw [← hwa]
  have R0 : Row wa w.heap.size (wcells s.l) 90 := by rw [hwa]; exact ((Row.new w _ _).alloc _).alloc _
  have R3 : Row wa (w.heap.size + 1) (bcells b) 92 := by rw [hwa]; exact (Row.new' _ _ _ _ _ (by simp) rfl).alloc _
  have R4 : Row wa (w.heap.size + 1 + 1) (wcells [0#32, 0#32, 0#32, 0#32, 0#32, 0#32, 0#32, 0#32]) 90 := by rw [hwa]; exact Row.new' _ _ _ _ _ (by simp) rfl
  have HBa : Hid (Below w.heap.size w wa) := by
    rw [hwa]; exact (((Below.refl _ _).alloc (Nat.le_refl _) _).alloc (by simp) _).alloc (by simp; omega) _
  have HR0 : Hid _ := R0
  have HR3 : Hid _ := R3
  have HR4 : Hid _ := R4
  clear R0 R3 R4 hwa
  go_wp2_with (first
    | (show wpList _ _ _ (Oper.mk (some 20) (.load 92 (.tmp 3)) _ _ _ _ :: _) _ _; refine HR3.out.wpLoad 92 (.tmp 3) rfl rfl rfl _ Tryd.underlying92 rfl (by rw [bcells_len, HL.out]; exact I36.out) ?_)
    | (go_at_call 74; refine (schedule_any b HL.out).mono ?_; rintro e w1 ⟨rfl, hb1⟩; have HB1 : Hid _ := hb1; clear hb1)
    | (show wpList _ _ _ (Oper.mk none (.store 99 (.tmp 5) (.tmp 21)) _ _ _ _ :: _) _ _; refine (Row.new' _ _ (wcells (filled [])) 99 _ rfl rfl).wpStore' 99 (.tmp 5) (.tmp 21) (wcells (wordsOf b 48)) rfl rfl rfl rfl (by rw [wcells_len, wcells_len, HL2.out]; rfl) (wcells_one _) (by rw [wcells_len, HL2.out]; exact I66.out) ?_; intro wx HX))
  have hN : wa.heap.size ≤ w1.heap.size := HB1.out.size
  have Q0 : Row wx w.heap.size (wcells s.l) 90 := by
    rw [HX.out]; exact ((HR0.out.kept HB1.out HR0.out.lt).alloc _).rowOther (by have := HR0.out.lt; omega) _
  have Q4 : Row wx (w.heap.size + 1 + 1) (wcells [0#32, 0#32, 0#32, 0#32, 0#32, 0#32, 0#32, 0#32]) 90 := by
    rw [HX.out]; exact ((HR4.out.kept HB1.out HR4.out.lt).alloc _).rowOther (by have := HR4.out.lt; omega) _
  have Q5 : Row wx w1.heap.size (wcells (wordsOf b 48)) 99 := by rw [HX.out]; exact (Row.new w1 _ 99).row _
  have QB : Below w.heap.size w wx := by
    have hs := HBa.out.size
    rw [HX.out]; exact Go.below_setRow ((HBa.out.trans (HB1.out.mono hs)).alloc (by omega) _) (by omega) _
  have c0 := Q0.cell 0 _ (show (wcells s.l)[0]? = some (.int .u32 (u s.a)) from rfl)
  have c1 := Q0.cell 1 _ (show (wcells s.l)[1]? = some (.int .u32 (u s.b)) from rfl)
  have c2 := Q0.cell 2 _ (show (wcells s.l)[2]? = some (.int .u32 (u s.c)) from rfl)
  have c3 := Q0.cell 3 _ (show (wcells s.l)[3]? = some (.int .u32 (u s.d)) from rfl)
  have c4 := Q0.cell 4 _ (show (wcells s.l)[4]? = some (.int .u32 (u s.e)) from rfl)
  have c5 := Q0.cell 5 _ (show (wcells s.l)[5]? = some (.int .u32 (u s.f)) from rfl)
  have c6 := Q0.cell 6 _ (show (wcells s.l)[6]? = some (.int .u32 (u s.g)) from rfl)
  have c7 := Q0.cell 7 _ (show (wcells s.l)[7]? = some (.int .u32 (u s.h)) from rfl)
  generalize w1.heap.size = N at *
  have HQ0 : Hid _ := Q0
  have HQ4 : Hid _ := Q4
  have HQ5 : Hid _ := Q5
  have HQB : Hid _ := QB
  clear Q0 Q4 Q5 QB HX HB1 HR0 HR3 HR4 HBa hN
  refine wp_region_still_lit (by kernel_rfl) (by kernel_rfl) ?_
  replace c0 := cell_drawn (wx.drawn + 1) c0
  replace c1 := cell_drawn (wx.drawn + 1) c1
  replace c2 := cell_drawn (wx.drawn + 1) c2
  replace c3 := cell_drawn (wx.drawn + 1) c3
  replace c4 := cell_drawn (wx.drawn + 1) c4
  replace c5 := cell_drawn (wx.drawn + 1) c5
  replace c6 := cell_drawn (wx.drawn + 1) c6
  replace c7 := cell_drawn (wx.drawn + 1) c7
  replace HQ0 : Hid _ := HQ0.out.drawn (wx.drawn + 1)
  replace HQ4 : Hid _ := HQ4.out.drawn (wx.drawn + 1)
  replace HQ5 : Hid _ := HQ5.out.drawn (wx.drawn + 1)
  replace HQB : Hid _ := below_drawn HQB.out (wx.drawn + 1)
  generalize ({ wx with drawn := wx.drawn + 1 } : World) = wq at *
  repeat still_step
  refine wpStill_nil ?_
  go_wp2_with (first
    | (show wpList _ _ _ (Oper.mk (some 38) (.load 99 (.tmp 5)) _ _ _ _ :: _) _ _; refine HQ5.out.wpLoad 99 (.tmp 5) rfl rfl rfl _ Tryd.underlying99 rfl (by rw [wcells_len, HL2.out]; exact I66.out) ?_))
  clear c0 c1 c2 c3 c4 c5 c6 c7
  go_loopw [6, 7, 8, 9, 10, 11, 12, 13, 39] (fun va vb vc vd ve vf vg vh i wr => ∃ n : Nat, n ≤ 64 ∧ i = .int .i64 n ∧ va = .int .u32 (u (rnds s (wordsOf b 48) n).a) ∧ vb = .int .u32 (u (rnds s (wordsOf b 48) n).b) ∧ vc = .int .u32 (u (rnds s (wordsOf b 48) n).c) ∧ vd = .int .u32 (u (rnds s (wordsOf b 48) n).d) ∧ ve = .int .u32 (u (rnds s (wordsOf b 48) n).e) ∧ vf = .int .u32 (u (rnds s (wordsOf b 48) n).f) ∧ vg = .int .u32 (u (rnds s (wordsOf b 48) n).g) ∧ vh = .int .u32 (u (rnds s (wordsOf b 48) n).h) ∧
    Row wr w.heap.size (wcells s.l) 90 ∧ Row wr (w.heap.size + 1 + 1) (wcells [0#32, 0#32, 0#32, 0#32, 0#32, 0#32, 0#32, 0#32]) 90 ∧ Below w.heap.size w wr) (fun _ _ _ _ _ _ _ _ i _ => 64 - (intOf i).toNat)
  case atStart => exact ⟨0, by omega, rfl, rfl, rfl, rfl, rfl, rfl, rfl, rfl, rfl, HQ0.out, HQ4.out, HQB.out⟩
  case round =>
    clear HQ0 HQ4 HQ5 HQB
    obtain ⟨n, hn, rfl, rfl, rfl, rfl, rfl, rfl, rfl, rfl, rfl, Q0, Q4, QB⟩ := hrel
    by_cases hlt : n < 64
    · have hlt' : (n : Int) < 64 := by omega
      have kc := cell_kept QB (HK.out n hlt)
      have ix := run_index_words 99 64 Tryd.underlying99 (wordsOf b 48) HL2.out n hlt
      have hS : Hid (rnds s (wordsOf b 48) (n + 1) = rnd (rnds s (wordsOf b 48) n) (kT.getD n 0) ((wordsOf b 48).getD n 0)) := rfl
      generalize kT.getD n 0 = kk at *
      generalize (wordsOf b 48).getD n 0 = ww at *
      generalize rnds s (wordsOf b 48) n = S at *
      obtain ⟨A, B, C, D, E, F, G, H⟩ := S
      simp only at hS ⊢
      have HQ0 : Hid _ := Q0
      have HQ4 : Hid _ := Q4
      have HQB : Hid _ := QB
      clear Q0 Q4 QB
      go_wp2
      refine wp_region_still_lit (by kernel_rfl) (by kernel_rfl) ?_
      replace kc := cell_drawn (wr.drawn + 1) kc
      replace HQ0 : Hid _ := HQ0.out.drawn (wr.drawn + 1)
      replace HQ4 : Hid _ := HQ4.out.drawn (wr.drawn + 1)
      replace HQB : Hid _ := below_drawn HQB.out (wr.drawn + 1)
      generalize ({ wr with drawn := wr.drawn + 1 } : World) = wq at *
      still_step
      still_step
      still_call (turned6 _ _)
      still_step
      still_call (turned11 _ _)
      still_step
      still_step
      still_call (turned25 _ _)
      repeat still_step
      refine wpStill_nil ?_
      have HX : Hid (St.x ⟨A, B, C, D, E, F, G, H⟩ kk ww = H + (rotr E 6 ^^^ rotr E 11 ^^^ rotr E 25) + (E &&& F ^^^ ~~~E &&& G) + kk + ww) := rfl
      generalize H + (rotr E 6 ^^^ rotr E 11 ^^^ rotr E 25) + (E &&& F ^^^ ~~~E &&& G) + kk + ww = X at *
      go_wp2_with (first | (go_at_call_of 75 (Value.int IntKind.i64 2); refine (turned2 _ _).mono ?_; rintro e w' ⟨rfl, rfl⟩) | (go_at_call_of 75 (Value.int IntKind.i64 13); refine (turned13 _ _).mono ?_; rintro e w' ⟨rfl, rfl⟩) | (go_at_call_of 75 (Value.int IntKind.i64 22); refine (turned22 _ _).mono ?_; rintro e w' ⟨rfl, rfl⟩))
      go_roundw
      case rel =>
        refine ⟨n + 1, hlt, by go_num, ?_, ?_, ?_, ?_, ?_, ?_, ?_, ?_, HQ0.out, HQ4.out, HQB.out⟩
        all_goals (rw [hS.out]; simp only [rnd, HX.out, St.y])
      case measure => simp [intOf]; omega
    · have en : n = 64 := by omega
      subst en
      have HT : Hid (mix s b = s.add (rnds s (wordsOf b 48) 64)) := rfl
      generalize rnds s (wordsOf b 48) 64 = T at *
      obtain ⟨A, B, C, D, E, F, G, H⟩ := T
      simp only at HT ⊢
      have HQ0 : Hid (Row wr w.heap.size (wcells (addN s.l [A, B, C, D, E, F, G, H] 0)) 90) := Q0
      have HQ4 : Hid _ := Q4
      have HQB : Hid _ := QB
      clear Q0 Q4 QB
      obtain ⟨wo, hwo⟩ : ∃ wo, wo = wr := ⟨_, rfl⟩
      subst hwo
      go_wp2
      go_loopw [110] (fun i wr => ∃ n : Nat, n ≤ 8 ∧ i = .int .i64 n ∧ Row wr w.heap.size (wcells (addN s.l [A, B, C, D, E, F, G, H] n)) 90 ∧ Row wr (w.heap.size + 1 + 1) (wcells [0#32, 0#32, 0#32, 0#32, 0#32, 0#32, 0#32, 0#32]) 90 ∧ Below w.heap.size w wr) (fun i _ => 8 - (intOf i).toNat)
      case atStart => exact ⟨0, by omega, rfl, HQ0.out, HQ4.out, HQB.out⟩
      case round =>
        clear HQ0 HQ4 HQB
        obtain ⟨n, hn, rfl, Q0, Q4, QB⟩ := hrel
        by_cases hlt : n < 8
        · have hlt' : (n : Int) < 8 := by omega
          have c1 := Q0.cell n _ (addN_get s.l [A, B, C, D, E, F, G, H] n rfl hlt)
          have f1 := Q0.frozen n
          have ix : ∀ w, (Instr.index 90 (.agg #[.int .u32 (u A), .int .u32 (u B), .int .u32 (u C), .int .u32 (u D), .int .u32 (u E), .int .u32 (u F), .int .u32 (u G), .int .u32 (u H)]) (.int .i64 (n : Int))).run Tryd.prog w = .ok (.int .u32 (u ([A, B, C, D, E, F, G, H].getD n 0))) w :=
            fun w => run_index_words 90 8 Tryd.underlying90 [A, B, C, D, E, F, G, H] rfl n hlt w
          have hset : Hid _ := addN_set s.l [A, B, C, D, E, F, G, H] n rfl hlt
          generalize [A, B, C, D, E, F, G, H].getD n 0 = tn at *
          generalize s.l.getD n 0 = sn at *
          have HQ0 : Hid _ := Q0
          have HQ4 : Hid _ := Q4
          have HQB : Hid _ := QB
          clear Q0 Q4 QB
          go_wp2
          go_roundw
          case rel =>
            refine ⟨n + 1, hlt, by go_num, ?_, HQ4.out.setOther _ (show w.heap.size + 1 + 1 ≠ w.heap.size by omega) _, HQB.out.setCell (Nat.le_refl _) _⟩
            have hr := HQ0.out.set n (.int .u32 (u (sn + tn)))
            rw [wcells_set, hset.out] at hr
            exact hr
          case measure => simp [intOf]; omega
        · have en : n = 8 := by omega
          subst en
          have hm : addN s.l [A, B, C, D, E, F, G, H] 8 = (mix s b).l := by rw [HT.out]; rfl
          rw [hm] at Q0
          have HQ0 : Hid _ := Q0
          have HQ4 : Hid _ := Q4
          have HQB : Hid _ := QB
          clear Q0 Q4 QB hm HT
          have i34 : (Tryd.prog.info? 90).map (·.size) = some 8 := by kernel_rfl
          have I34 : Hid _ := i34
          have hl8 : Hid ((mix s b).l.length = 8) := rfl
          clear i34
          generalize hM : (mix s b).l = M at *
          have HM : Hid _ := hM
          clear hM
          go_wp2_with (first
            | (show wpList _ _ _ (Oper.mk (some 121) (.load 90 (.tmp 2)) _ _ _ _ :: _) _ _; refine HQ0.out.wpLoad 90 (.tmp 2) rfl rfl rfl _ Tryd.underlying90 rfl (by rw [wcells_len, hl8.out]; exact I34.out) ?_)
            | (show wpList _ _ _ (Oper.mk none (.store 90 (.tmp 4) (.tmp 121)) _ _ _ _ :: _) _ _; refine HQ4.out.wpStore' 90 (.tmp 4) (.tmp 121) (wcells M) rfl rfl rfl rfl (by rw [wcells_len, wcells_len, hl8.out]; rfl) (wcells_one _) (by rw [wcells_len, hl8.out]; exact I34.out) ?_; intro wz HZ))
          have R : Row wz (w.heap.size + 1 + 1) (wcells M) 90 := by rw [HZ.out]; exact HQ4.out.row _
          have hB : Below w.heap.size w wz := by rw [HZ.out]; exact Go.below_setRow HQB.out (by omega) _
          exact bodyPost_ret (v := .agg (wcells M).toArray) (R.result Tryd.results66 _ rfl _ Tryd.underlying90 rfl (by rw [wcells_len, hl8.out]; exact I34.out)) rfl ⟨by rw [HM.out], hB⟩
end Go.Proofs.YtjpllcliehgnfaaDoor
