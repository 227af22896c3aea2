import Derived.Test.YtaklbofbhanjgaaDoorSha1
import Derived.Deep.CutRange
import Derived.Great.Frames
namespace Go.Proofs.YtaklbofbhanjgaaDoor
open Go.RowKit
set_option maxRecDepth 100000

set_option maxHeartbeats 1500000 in
theorem mixed_any {w : World} (s : St) (b : List (BitVec 8)) (hb : b.length = 64) (hK : KTab w) :
    Calls Tryd.prog 87 #[.agg (wcells s.l).toArray, .agg (bcells b).toArray] w fun e w' => e = .returned (.agg (wcells (mix s b).l).toArray) ∧ Below w.heap.size w w' := by
  have HL : Hid _ := hb
  have HK : Hid _ := hK
  have hlen : (wordsOf b 48).length = 64 := wordsOf_len b 48
  have HL2 : Hid _ := hlen
  have i66 : (Tryd.prog.info? 113).map (·.size) = some 64 := by kernel_rfl
  have I66 : Hid _ := i66
  have i36 : (Tryd.prog.info? 106).map (·.size) = some 64 := by kernel_rfl
  have I36 : Hid _ := i36
  clear hb hK hlen i66 i36
  go_enter Tryd.func87, Tryd.ntmps87
  go_upto_region 1 with (fail)
  obtain ⟨wa, hwa⟩ : ∃ wa : World, wa = (((w.alloc (.cells (wcells s.l).toArray 104)).alloc (.cells (bcells b).toArray 106)).alloc (.cells #[.int .u32 0, .int .u32 0, .int .u32 0, .int .u32 0, .int .u32 0, .int .u32 0, .int .u32 0, .int .u32 0] 104)) := ⟨_, rfl⟩
  rw [← hwa]
  have R0 : Row wa w.heap.size (wcells s.l) 104 := by rw [hwa]; exact ((Row.new w _ _).alloc _).alloc _
  have R3 : Row wa (w.heap.size + 1) (bcells b) 106 := by rw [hwa]; exact (Row.new' _ _ _ _ _ (by simp) rfl).alloc _
  have R4 : Row wa (w.heap.size + 1 + 1) (wcells [0#32, 0#32, 0#32, 0#32, 0#32, 0#32, 0#32, 0#32]) 104 := by rw [hwa]; exact Row.new' _ _ _ _ _ (by simp) rfl
  have HBa : Hid (Below w.heap.size w wa) := by
    rw [hwa]; exact (((Below.refl _ _).alloc (Nat.le_refl _) _).alloc (by simp) _).alloc (by simp; omega) _
  have HR0 : Hid _ := R0
  have HR3 : Hid _ := R3
  have HR4 : Hid _ := R4
  clear R0 R3 R4 hwa
  go_wp2_with (first
    | (show wpList _ _ _ (Oper.mk (some 20) (.load 106 (.tmp 3)) _ _ _ _ :: _) _ _; refine HR3.out.wpLoad 106 (.tmp 3) rfl rfl rfl _ Tryd.underlying106 rfl (by rw [bcells_len, HL.out]; exact I36.out) ?_)
    | (go_at_call 108; refine (schedule_any b HL.out).mono ?_; rintro e w1 ⟨rfl, hb1⟩; have HB1 : Hid _ := hb1; clear hb1)
    | (show wpList _ _ _ (Oper.mk none (.store 113 (.tmp 5) (.tmp 21)) _ _ _ _ :: _) _ _; refine (Row.new' _ _ (wcells (filled [])) 113 _ rfl rfl).wpStore' 113 (.tmp 5) (.tmp 21) (wcells (wordsOf b 48)) rfl rfl rfl rfl (by rw [wcells_len, wcells_len, HL2.out]; rfl) (wcells_one _) (by rw [wcells_len, HL2.out]; exact I66.out) ?_; intro wx HX))
  have hN : wa.heap.size ≤ w1.heap.size := HB1.out.size
  have Q0 : Row wx w.heap.size (wcells s.l) 104 := by
    rw [HX.out]; exact ((HR0.out.kept HB1.out HR0.out.lt).alloc _).rowOther (by have := HR0.out.lt; omega) _
  have Q4 : Row wx (w.heap.size + 1 + 1) (wcells [0#32, 0#32, 0#32, 0#32, 0#32, 0#32, 0#32, 0#32]) 104 := by
    rw [HX.out]; exact ((HR4.out.kept HB1.out HR4.out.lt).alloc _).rowOther (by have := HR4.out.lt; omega) _
  have Q5 : Row wx w1.heap.size (wcells (wordsOf b 48)) 113 := by rw [HX.out]; exact (Row.new w1 _ 113).row _
  have QB : Below w.heap.size w wx := by
    have hs := HBa.out.size
    rw [HX.out]; exact Go.below_setRow ((HBa.out.trans (HB1.out.mono hs)).alloc (by omega) _) (by omega) _
  have c0 := Q0.cell 0 _ (show (wcells s.l)[0]? = some (.int .u32 (u s.a)) from rfl)
  have c1 := Q0.cell 1 _ (show (wcells s.l)[1]? = some (.int .u32 (u s.b)) from rfl)
  have c2 := Q0.cell 2 _ (show (wcells s.l)[2]? = some (.int .u32 (u s.c)) from rfl)
  have c3 := Q0.cell 3 _ (show (wcells s.l)[3]? = some (.int .u32 (u s.d)) from rfl)
  have c4 := Q0.cell 4 _ (show (wcells s.l)[4]? = some (.int .u32 (u s.e)) from rfl)
  have c5 := Q0.cell 5 _ (show (wcells s.l)[5]? = some (.int .u32 (u s.f)) from rfl)
  have c6 := Q0.cell 6 _ (show (wcells s.l)[6]? = some (.int .u32 (u s.g)) from rfl)
  have c7 := Q0.cell 7 _ (show (wcells s.l)[7]? = some (.int .u32 (u s.h)) from rfl)
  generalize w1.heap.size = N at *
  have HQ0 : Hid _ := Q0
  have HQ4 : Hid _ := Q4
  have HQ5 : Hid _ := Q5
  have HQB : Hid _ := QB
  clear Q0 Q4 Q5 QB HX HB1 HR0 HR3 HR4 HBa hN
  refine wp_region_still_lit (by kernel_rfl) (by kernel_rfl) ?_
  replace c0 := cell_drawn (wx.drawn + 1) c0
  replace c1 := cell_drawn (wx.drawn + 1) c1
  replace c2 := cell_drawn (wx.drawn + 1) c2
  replace c3 := cell_drawn (wx.drawn + 1) c3
  replace c4 := cell_drawn (wx.drawn + 1) c4
  replace c5 := cell_drawn (wx.drawn + 1) c5
  replace c6 := cell_drawn (wx.drawn + 1) c6
  replace c7 := cell_drawn (wx.drawn + 1) c7
  replace HQ0 : Hid _ := HQ0.out.drawn (wx.drawn + 1)
  replace HQ4 : Hid _ := HQ4.out.drawn (wx.drawn + 1)
  replace HQ5 : Hid _ := HQ5.out.drawn (wx.drawn + 1)
  replace HQB : Hid _ := below_drawn HQB.out (wx.drawn + 1)
  generalize ({ wx with drawn := wx.drawn + 1 } : World) = wq at *
  repeat still_step
  refine wpStill_nil ?_
  go_wp2_with (first
    | (show wpList _ _ _ (Oper.mk (some 38) (.load 113 (.tmp 5)) _ _ _ _ :: _) _ _; refine HQ5.out.wpLoad 113 (.tmp 5) rfl rfl rfl _ Tryd.underlying113 rfl (by rw [wcells_len, HL2.out]; exact I66.out) ?_))
  clear c0 c1 c2 c3 c4 c5 c6 c7
  go_loopw [6, 7, 8, 9, 10, 11, 12, 13, 39] (fun va vb vc vd ve vf vg vh i wr => ∃ n : Nat, n ≤ 64 ∧ i = .int .i64 n ∧ va = .int .u32 (u (rnds s (wordsOf b 48) n).a) ∧ vb = .int .u32 (u (rnds s (wordsOf b 48) n).b) ∧ vc = .int .u32 (u (rnds s (wordsOf b 48) n).c) ∧ vd = .int .u32 (u (rnds s (wordsOf b 48) n).d) ∧ ve = .int .u32 (u (rnds s (wordsOf b 48) n).e) ∧ vf = .int .u32 (u (rnds s (wordsOf b 48) n).f) ∧ vg = .int .u32 (u (rnds s (wordsOf b 48) n).g) ∧ vh = .int .u32 (u (rnds s (wordsOf b 48) n).h) ∧
    Row wr w.heap.size (wcells s.l) 104 ∧ Row wr (w.heap.size + 1 + 1) (wcells [0#32, 0#32, 0#32, 0#32, 0#32, 0#32, 0#32, 0#32]) 104 ∧ Below w.heap.size w wr) (fun _ _ _ _ _ _ _ _ i _ => 64 - (intOf i).toNat)
  case atStart => exact ⟨0, by omega, rfl, rfl, rfl, rfl, rfl, rfl, rfl, rfl, rfl, HQ0.out, HQ4.out, HQB.out⟩
  case round =>
    clear HQ0 HQ4 HQ5 HQB
    obtain ⟨n, hn, rfl, rfl, rfl, rfl, rfl, rfl, rfl, rfl, rfl, Q0, Q4, QB⟩ := hrel
    by_cases hlt : n < 64
    · have hlt' : (n : Int) < 64 := by omega
      have kc := cell_kept QB (HK.out n hlt)
      have ix := run_index_words 113 64 Tryd.underlying113 (wordsOf b 48) HL2.out n hlt
      have hS : Hid (rnds s (wordsOf b 48) (n + 1) = rnd (rnds s (wordsOf b 48) n) (kT.getD n 0) ((wordsOf b 48).getD n 0)) := rfl
      generalize kT.getD n 0 = kk at *
      generalize (wordsOf b 48).getD n 0 = ww at *
      generalize rnds s (wordsOf b 48) n = S at *
      obtain ⟨A, B, C, D, E, F, G, H⟩ := S
      simp only at hS ⊢
      have HQ0 : Hid _ := Q0
      have HQ4 : Hid _ := Q4
      have HQB : Hid _ := QB
      clear Q0 Q4 QB
      go_wp2
      refine wp_region_still_lit (by kernel_rfl) (by kernel_rfl) ?_
      replace kc := cell_drawn (wr.drawn + 1) kc
      replace HQ0 : Hid _ := HQ0.out.drawn (wr.drawn + 1)
      replace HQ4 : Hid _ := HQ4.out.drawn (wr.drawn + 1)
      replace HQB : Hid _ := below_drawn HQB.out (wr.drawn + 1)
      generalize ({ wr with drawn := wr.drawn + 1 } : World) = wq at *
      still_step
      still_step
      still_call (turned6 _ _)
      still_step
      still_call (turned11 _ _)
      still_step
      still_step
      still_call (turned25 _ _)
      repeat still_step
      refine wpStill_nil ?_
      have HX : Hid (St.x ⟨A, B, C, D, E, F, G, H⟩ kk ww = H + (rotr E 6 ^^^ rotr E 11 ^^^ rotr E 25) + (E &&& F ^^^ ~~~E &&& G) + kk + ww) := rfl
      generalize H + (rotr E 6 ^^^ rotr E 11 ^^^ rotr E 25) + (E &&& F ^^^ ~~~E &&& G) + kk + ww = X at *
      go_wp2_with (first | (go_at_call_of 109 (Value.int IntKind.i64 2); refine (turned2 _ _).mono ?_; rintro e w' ⟨rfl, rfl⟩) | (go_at_call_of 109 (Value.int IntKind.i64 13); refine (turned13 _ _).mono ?_; rintro e w' ⟨rfl, rfl⟩) | (go_at_call_of 109 (Value.int IntKind.i64 22); refine (turned22 _ _).mono ?_; rintro e w' ⟨rfl, rfl⟩))
      go_roundw
      case rel =>
        refine ⟨n + 1, hlt, by go_num, ?_, ?_, ?_, ?_, ?_, ?_, ?_, ?_, HQ0.out, HQ4.out, HQB.out⟩
        all_goals (rw [hS.out]; simp only [rnd, HX.out, St.y])
      case measure => simp [intOf]; omega
    · have en : n = 64 := by omega
      subst en
      have HT : Hid (mix s b = s.add (rnds s (wordsOf b 48) 64)) := rfl
      generalize rnds s (wordsOf b 48) 64 = T at *
      obtain ⟨A, B, C, D, E, F, G, H⟩ := T
      simp only at HT ⊢
      have HQ0 : Hid (Row wr w.heap.size (wcells (addN s.l [A, B, C, D, E, F, G, H] 0)) 104) := Q0
      have HQ4 : Hid _ := Q4
      have HQB : Hid _ := QB
      clear Q0 Q4 QB
      obtain ⟨wo, hwo⟩ : ∃ wo, wo = wr := ⟨_, rfl⟩
      subst hwo
      go_wp2
      go_loopw [110] (fun i wr => ∃ n : Nat, n ≤ 8 ∧ i = .int .i64 n ∧ Row wr w.heap.size (wcells (addN s.l [A, B, C, D, E, F, G, H] n)) 104 ∧ Row wr (w.heap.size + 1 + 1) (wcells [0#32, 0#32, 0#32, 0#32, 0#32, 0#32, 0#32, 0#32]) 104 ∧ Below w.heap.size w wr) (fun i _ => 8 - (intOf i).toNat)
      case atStart => exact ⟨0, by omega, rfl, HQ0.out, HQ4.out, HQB.out⟩
      case round =>
        clear HQ0 HQ4 HQB
        obtain ⟨n, hn, rfl, Q0, Q4, QB⟩ := hrel
        by_cases hlt : n < 8
        · have hlt' : (n : Int) < 8 := by omega
          have c1 := Q0.cell n _ (addN_get s.l [A, B, C, D, E, F, G, H] n rfl hlt)
          have f1 := Q0.frozen n
          have ix : ∀ w, (Instr.index 104 (.agg #[.int .u32 (u A), .int .u32 (u B), .int .u32 (u C), .int .u32 (u D), .int .u32 (u E), .int .u32 (u F), .int .u32 (u G), .int .u32 (u H)]) (.int .i64 (n : Int))).run Tryd.prog w = .ok (.int .u32 (u ([A, B, C, D, E, F, G, H].getD n 0))) w :=
            fun w => run_index_words 104 8 Tryd.underlying104 [A, B, C, D, E, F, G, H] rfl n hlt w
          have hset : Hid _ := addN_set s.l [A, B, C, D, E, F, G, H] n rfl hlt
          generalize [A, B, C, D, E, F, G, H].getD n 0 = tn at *
          generalize s.l.getD n 0 = sn at *
          have HQ0 : Hid _ := Q0
          have HQ4 : Hid _ := Q4
          have HQB : Hid _ := QB
          clear Q0 Q4 QB
          go_wp2
          go_roundw
          case rel =>
            refine ⟨n + 1, hlt, by go_num, ?_, HQ4.out.setOther _ (show w.heap.size + 1 + 1 ≠ w.heap.size by omega) _, HQB.out.setCell (Nat.le_refl _) _⟩
            have hr := HQ0.out.set n (.int .u32 (u (sn + tn)))
            rw [wcells_set, hset.out] at hr
            exact hr
          case measure => simp [intOf]; omega
        · have en : n = 8 := by omega
          subst en
          have hm : addN s.l [A, B, C, D, E, F, G, H] 8 = (mix s b).l := by rw [HT.out]; rfl
          rw [hm] at Q0
          have HQ0 : Hid _ := Q0
          have HQ4 : Hid _ := Q4
          have HQB : Hid _ := QB
          clear Q0 Q4 QB hm HT
          have i34 : (Tryd.prog.info? 104).map (·.size) = some 8 := by kernel_rfl
          have I34 : Hid _ := i34
          have hl8 : Hid ((mix s b).l.length = 8) := rfl
          clear i34
          generalize hM : (mix s b).l = M at *
          have HM : Hid _ := hM
          clear hM
          go_wp2_with (first
            | (show wpList _ _ _ (Oper.mk (some 121) (.load 104 (.tmp 2)) _ _ _ _ :: _) _ _; refine HQ0.out.wpLoad 104 (.tmp 2) rfl rfl rfl _ Tryd.underlying104 rfl (by rw [wcells_len, hl8.out]; exact I34.out) ?_)
            | (show wpList _ _ _ (Oper.mk none (.store 104 (.tmp 4) (.tmp 121)) _ _ _ _ :: _) _ _; refine HQ4.out.wpStore' 104 (.tmp 4) (.tmp 121) (wcells M) rfl rfl rfl rfl (by rw [wcells_len, wcells_len, hl8.out]; rfl) (wcells_one _) (by rw [wcells_len, hl8.out]; exact I34.out) ?_; intro wz HZ))
          have R : Row wz (w.heap.size + 1 + 1) (wcells M) 104 := by rw [HZ.out]; exact HQ4.out.row _
          have hB : Below w.heap.size w wz := by rw [HZ.out]; exact Go.below_setRow HQB.out (by omega) _
          exact bodyPost_ret (v := .agg (wcells M).toArray) (R.result Tryd.results87 _ rfl _ Tryd.underlying104 rfl (by rw [wcells_len, hl8.out]; exact I34.out)) rfl ⟨by rw [HM.out], hB⟩
end Go.Proofs.YtaklbofbhanjgaaDoor
namespace Go.Proofs.YtaklbofbhanjgaaDoor
open Go.RowKit

/-- Of the blocks that were there, block p alone may have turned. -/
structure Only (p : Nat) (w w' : World) : Prop where
  os : w'.os = w.os
  tape : w'.tape = w.tape
  output : w'.output = w.output
  size : w.heap.size ≤ w'.heap.size
  block : ∀ k, k < w.heap.size → k ≠ p → w'.heap[k]? = w.heap[k]?
section
variable {p : Nat} {w w' w'' : World}
theorem Only.refl (p : Nat) (w : World) : Only p w w := ⟨rfl, rfl, rfl, Nat.le_refl _, fun _ _ _ => rfl⟩
theorem Only.trans (h : Only p w w') (k : Only p w' w'') : Only p w w'' :=
  ⟨k.os.trans h.os, k.tape.trans h.tape, k.output.trans h.output, Nat.le_trans h.size k.size, fun i hi hp => (k.block i (Nat.lt_of_lt_of_le hi h.size) hp).trans (h.block i hi hp)⟩
theorem Only.of_below {B : Nat} (h : Below B w w') (hB : w.heap.size ≤ B) : Only p w w' := ⟨h.os, h.tape, h.output, h.size, fun k hk _ => h.block k (by omega)⟩
theorem Only.setRow (h : Only p w w') (cs : Array Value) : Only p w (w'.setRow p cs) :=
  ⟨h.os, h.tape, h.output, by rw [setRow_size]; exact h.size, fun k hk hp => (setRow_other w' p k cs hp).trans (h.block k hk hp)⟩
theorem Only.setCell (h : Only p w w') (o : Nat) (v : Value) : Only p w (w'.setCell ⟨p, o, none⟩ v) :=
  ⟨h.os, h.tape, h.output, by simp [World.setCell]; exact h.size, fun k hk hp => (Below.heap_setCell w' ⟨p, o, none⟩ v k hp).trans (h.block k hk hp)⟩
theorem Only.drawn (h : Only p w w') (n : Nat) : Only p w { w' with drawn := n } := ⟨h.os, h.tape, h.output, h.size, h.block⟩
theorem Only.below {B : Nat} (h : Only p w w') (hB : B ≤ w.heap.size) (hp : B ≤ p) : Below B w w' := ⟨h.os, h.tape, h.output, h.size, fun k hk => h.block k (by omega) (by omega)⟩
theorem Only.cell (h : Only p w w') {a : Addr} {v : Value} (hc : w.cell? a = some v) (hp : a.block ≠ p) : w'.cell? a = some v :=
  (World.cell?_of_block (w := w) (h.block a.block (World.block_lt_of_cell? w a hc) hp)).trans hc
theorem Only.row {g : Nat} {c : List Value} {t : TypeId} (h : Only p w w') (R : Row w g c t) (hg : g ≠ p) : Row w' g c t := R.of_block (h.block g R.lt hg)
theorem KTab.only (K : KTab w) (h : Only p w w') (hp : 2 ≤ p) : KTab w' := fun j hj => h.cell (K j hj) (show 1 ≠ p by omega)
end

/-- The bytes lie from a on, outside block p. -/
def BytesOff (p : Nat) (w : World) (a : Option Addr) (bs : List (BitVec 8)) : Prop :=
  ∀ k (h : k < bs.length), ∃ g o, a = some ⟨g, o, none⟩ ∧ g ≠ p ∧ w.cell? ⟨g, o + k, none⟩ = some (.int .u8 (ub bs[k]))
theorem BytesOff.only {p : Nat} {w w' : World} {a : Option Addr} {bs : List (BitVec 8)} (h : BytesOff p w a bs) (o : Only p w w') : BytesOff p w' a bs :=
  fun k hk => by obtain ⟨g, of, e, hg, c⟩ := h k hk; exact ⟨g, of, e, hg, o.cell c hg⟩

/-- A Hash's cells. -/
def hcells (s : St) (left : List (BitVec 8)) (n : Nat) : List Value := .bool true :: (wcells s.l ++ (bcells left ++ [.int .u64 (n : Int)]))
theorem hcells_len (s : St) (left : List (BitVec 8)) (n : Nat) (h : left.length = 64) : (hcells s left n).length = 74 := by
  simp [hcells, wcells_len, bcells_len, h, St.l]
theorem hcells_st (s : St) (left : List (BitVec 8)) (n : Nat) (j : Nat) (v : Value) (hv : (wcells s.l)[j]? = some v) : (hcells s left n)[1 + j]? = some v := by
  have hj : j < (wcells s.l).length := (List.getElem?_eq_some_iff.1 hv).1
  rw [Nat.add_comm]
  show (wcells s.l ++ _)[j]? = _
  rw [List.getElem?_append_left hj]; exact hv
theorem hcells_left (s : St) (left : List (BitVec 8)) (n : Nat) (j : Nat) (v : Value) (hv : (bcells left)[j]? = some v) : (hcells s left n)[9 + j]? = some v := by
  have hj : j < (bcells left).length := (List.getElem?_eq_some_iff.1 hv).1
  rw [show 9 + j = (8 + j) + 1 by omega]
  show (wcells s.l ++ _)[8 + j]? = _
  rw [List.getElem?_append_right (by simp [wcells_len, St.l]), show 8 + j - (wcells s.l).length = j by simp [wcells_len, St.l], List.getElem?_append_left hj]; exact hv
theorem hcells_size (s : St) (left : List (BitVec 8)) (n : Nat) (h : left.length = 64) : (hcells s left n)[73]? = some (.int .u64 (n : Int)) := by
  show (wcells s.l ++ _)[72]? = _
  rw [List.getElem?_append_right (by simp [wcells_len, St.l]), show 72 - (wcells s.l).length = 64 by simp [wcells_len, St.l], List.getElem?_append_right (by simp [bcells_len, h])]
  simp [bcells_len, h]
theorem hcells_setSize (s : St) (left : List (BitVec 8)) (n m : Nat) (h : left.length = 64) : (hcells s left n).set 73 (.int .u64 (m : Int)) = hcells s left m := by
  show _ :: (wcells s.l ++ _).set 72 _ = _
  rw [List.set_append_right _ _ (by simp [wcells_len, St.l]), show 72 - (wcells s.l).length = 64 by simp [wcells_len, St.l], List.set_append_right _ _ (by simp [bcells_len, h])]
  simp [bcells_len, h, hcells]
/-- Bytes laid into left from place k on. -/
def laidIn (left : List (BitVec 8)) (k : Nat) (bs : List (BitVec 8)) : List (BitVec 8) := left.take k ++ bs ++ left.drop (k + bs.length)
theorem laidIn_len (left : List (BitVec 8)) (k : Nat) (bs : List (BitVec 8)) (h : k + bs.length ≤ left.length) : (laidIn left k bs).length = left.length := by
  simp [laidIn]; omega
theorem hcells_laid (s : St) (left : List (BitVec 8)) (n k : Nat) (bs : List (BitVec 8)) (h : left.length = 64) (hk : k + bs.length ≤ 64) :
    (hcells s left n).take (9 + k) ++ bcells bs ++ (hcells s left n).drop (9 + k + bs.length) = hcells s (laidIn left k bs) n := by
  have hw : (wcells s.l).length = 8 := by simp [wcells_len, St.l]
  have e1 : (hcells s left n).take (9 + k) = .bool true :: (wcells s.l ++ bcells (left.take k)) := by
    rw [show 9 + k = (8 + k) + 1 by omega]
    show (.bool true :: (wcells s.l ++ _)).take (8 + k + 1) = _
    rw [List.take_succ_cons, List.take_append, hw, show 8 + k - 8 = k by omega, List.take_of_length_le (by omega), List.take_append, bcells_len, h, show k - 64 = 0 by omega]
    simp [bcells, List.map_take]
  have e2 : (hcells s left n).drop (9 + k + bs.length) = bcells (left.drop (k + bs.length)) ++ [.int .u64 (n : Int)] := by
    rw [show 9 + k + bs.length = (8 + (k + bs.length)) + 1 by omega]
    show (.bool true :: (wcells s.l ++ _)).drop (8 + (k + bs.length) + 1) = _
    rw [List.drop_succ_cons, List.drop_append, hw, show 8 + (k + bs.length) - 8 = k + bs.length by omega, List.drop_eq_nil_of_le (by omega), List.nil_append, List.drop_append, bcells_len, h, show k + bs.length - 64 = 0 by omega]
    simp [bcells, List.map_drop]
  rw [e1, e2]
  simp [hcells, laidIn, bcells]
theorem hcells_setSt (s t : St) (left : List (BitVec 8)) (n : Nat) :
    (hcells s left n).take 1 ++ wcells t.l ++ (hcells s left n).drop (1 + (wcells t.l).length) = hcells t left n := by
  simp [hcells, St.l, wcells]
end Go.Proofs.YtaklbofbhanjgaaDoor
namespace Go.Proofs.YtaklbofbhanjgaaDoor
open Go.RowKit

/-- The n-th block of a text. -/
def chunk (t : List (BitVec 8)) (n : Nat) : List (BitVec 8) := (t.drop (64 * n)).take 64
def st0 : St := ⟨1779033703#32, 3144134277#32, 1013904242#32, 2773480762#32, 1359893119#32, 2600822924#32, 528734635#32, 1541459225#32⟩
/-- The state behind n blocks of a text. -/
def stAt (t : List (BitVec 8)) : Nat → St
  | 0 => st0
  | n + 1 => mix (stAt t n) (chunk t n)
theorem chunk_append (t v : List (BitVec 8)) (n : Nat) (h : 64 * (n + 1) ≤ t.length) : chunk (t ++ v) n = chunk t n := by
  unfold chunk
  rw [List.drop_append_of_le_length (by omega), List.take_append_of_le_length (by simp; omega)]
theorem stAt_append (t v : List (BitVec 8)) (n : Nat) (h : 64 * n ≤ t.length) : stAt (t ++ v) n = stAt t n := by
  induction n with
  | zero => rfl
  | succ n ih => simp only [stAt]; rw [ih (by omega), chunk_append t v n h]

/-- The state and what is left of a block belong to the text c. -/
structure Took (c : List (BitVec 8)) (s : St) (left : List (BitVec 8)) : Prop where
  st : s = stAt c (c.length / 64)
  len : left.length = 64
  rest : left.take (c.length % 64) = c.drop (64 * (c.length / 64))

section
variable {c : List (BitVec 8)} {s : St} {left : List (BitVec 8)}
theorem Took.less (h : Took c s left) (v : List (BitVec 8)) (hv : c.length % 64 + v.length < 64) : Took (c ++ v) s (laidIn left (c.length % 64) v) := by
  have hl : (c ++ v).length = c.length + v.length := by simp
  have hd : (c ++ v).length / 64 = c.length / 64 := by omega
  have hm : (c ++ v).length % 64 = c.length % 64 + v.length := by omega
  refine ⟨?_, by rw [laidIn_len _ _ _ (by rw [h.len]; omega), h.len], ?_⟩
  · rw [hd, stAt_append _ _ _ (by omega)]; exact h.st
  · rw [hd, hm, List.drop_append_of_le_length (by omega), ← h.rest]
    have hlen := h.len
    unfold laidIn
    rw [List.take_append_of_le_length (by simp; omega), List.take_of_length_le (by simp; omega)]
theorem Took.full (h : Took c s left) (v : List (BitVec 8)) (hv : c.length % 64 + v.length = 64) : Took (c ++ v) (mix s (laidIn left (c.length % 64) v)) (laidIn left (c.length % 64) v) := by
  have hl : (c ++ v).length = c.length + v.length := by simp
  have hd : (c ++ v).length / 64 = c.length / 64 + 1 := by omega
  have hm : (c ++ v).length % 64 = 0 := by omega
  have hlen := h.len
  have he : laidIn left (c.length % 64) v = left.take (c.length % 64) ++ v := by
    unfold laidIn
    rw [List.drop_eq_nil_of_le (by omega), List.append_nil]
  have hch : chunk (c ++ v) (c.length / 64) = laidIn left (c.length % 64) v := by
    unfold chunk
    rw [he, h.rest, List.drop_append_of_le_length (by omega), List.take_of_length_le (by simp; omega)]
  refine ⟨?_, by rw [laidIn_len _ _ _ (by omega), h.len], ?_⟩
  · rw [hd]; simp only [stAt]; rw [hch, stAt_append _ _ _ (by omega), ← h.st]
  · rw [hm, List.take_zero, List.drop_eq_nil_of_le (by omega)]
theorem Took.nil (l : List (BitVec 8)) (h : l.length = 64) : Took [] st0 l := ⟨rfl, h, by simp⟩
end
end Go.Proofs.YtaklbofbhanjgaaDoor
namespace Go.Proofs.YtaklbofbhanjgaaDoor
open Go.RowKit
set_option maxRecDepth 100000
section
variable {ops : Array Oper} {o : Oper} {a : Act} {w : World} {K : Act → World → Prop} {Q : Exit → Act → World → Prop}
/-- A load of many cells as one step of a region that draws. -/
theorem step_load {p : Nat} {cur : List Value} {t : TypeId} (R : Row w p cur t) (off : Nat) (ty : TypeId) (x : Operand) (ho : o.op = .load ty x) (hx : a.eval x = .pointer (some ⟨p, off, none⟩)) (cs : List Value) (d : TypeDesc)
    (hcs : ∀ j v, cs[j]? = some v → cur[off + j]? = some v) (hu : Tryd.prog.underlying ty = some d) (hd : d.isRow = true) (hi : (Tryd.prog.info? ty).map (·.size) = some cs.length)
    (h : K (a.put o.dst (.agg cs.toArray)) w) : Oper.wp Tryd.prog o a w K Q := by
  exact wp_load_mid ty x ho p off hx cs d (R.range off cs hcs) hu hd hi h
theorem step_store {p : Nat} {cur : List Value} {t : TypeId} (R : Row w p cur t) (off : Nat) (ty : TypeId) (x y : Operand) (ho : o.op = .store ty x y) (hx : a.eval x = .pointer (some ⟨p, off, none⟩)) (cs : List Value) (hy : a.eval y = .agg cs.toArray)
    (hl : off + cs.length ≤ cur.length) (h1 : ∀ v ∈ cs, v.oneCell' = true) (hi : (Tryd.prog.info? ty).map (·.size) = some cs.length)
    (h : ∀ w', Hid (w' = w.setRow p (cur.take off ++ cs ++ cur.drop (off + cs.length)).toArray) → K (a.put o.dst undef) w') : Oper.wp Tryd.prog o a w K Q := by
  have hst := run_storeCells_at Tryd.prog p off t cs 0 cur.toArray w R.at_ (by simpa using hl) h1
  cases hq : Tryd.prog.info? ty with
  | none => simp [hq] at hi
  | some i =>
    have hs : i.size = cs.length := by simpa [hq] using hi
    simp only [Nat.add_zero] at hst
    unfold Oper.wp execOp
    simp [ho, hx, hy, Instr.storeAt, Instr.sureAddr, storeVar, sizeOf, typeInfo, hq, hs, Value.cells, hst]
    rw [Oper.upon_skip]
    exact h _ (show w.setRow p _ = w.setRow p _ by simp)
theorem step_call31 {x y : Operand} {vx vy v : Value} {G : World → Prop} (ho : o.op = .call { callee := .value (.func 87), args := #[x, y], argTypes := #[104, 106] }) (hx : a.eval x = vx) (hy : a.eval y = vy)
    (hc : Calls Tryd.prog 87 #[vx, vy] w fun e w' => e = .returned v ∧ G w') (h : ∀ w', G w' → K (a.put o.dst v) w') : Oper.wp Tryd.prog o a w K Q := by
  subst hx hy
  have e : (execOp a.eval o).run Tryd.prog w = .ok (.enter 87 #[a.eval x, a.eval y]) w := by
    simp [execOp, ho, resolve, invoke, go_sem]
  unfold Oper.wp
  rw [e, Oper.upon_enter]
  refine Calls.mono hc ?_
  rintro e w' ⟨rfl, hg⟩
  exact h w' hg
theorem wp_act {code : Code} (h : ∀ a0, Hid (a0 = a) → code.wp Tryd.prog Q a0 w) : code.wp Tryd.prog Q a w := h a rfl
/-- What a copy, a check for nil and a field's address yield, in whatever world. -/
theorem yields_move (x : Operand) (v : Value) (hgd : o.guard = none) (ho : o.op = .move x) (hx : a.eval x = v) : Yields Tryd.prog ops o v a :=
  Or.inl ⟨by simp [Region.wanted, hgd], fun w => by subst hx; simp [execOp, ho]⟩
theorem yields_nilCheck (x : Operand) (ad : Addr) (hgd : o.guard = none) (ho : o.op = .nilCheck x) (hx : a.eval x = .pointer (some ad)) : Yields Tryd.prog ops o (.pointer (some ad)) a :=
  Or.inl ⟨by simp [Region.wanted, hgd], fun w => by simp only [execOp, ho, hx]; rfl⟩
theorem yields_field (x : Operand) (b i off : Nat) (hgd : o.guard = none) (ho : o.op = .fieldAddr 108 x i) (hx : a.eval x = .pointer (some ⟨b, 0, none⟩))
    (hf : ∀ w b, (Instr.fieldAt 108 (.pointer (some ⟨b, 0, none⟩)) i).run Tryd.prog w = .ok (.pointer (some ⟨b, off, none⟩)) w) : Yields Tryd.prog ops o (.pointer (some ⟨b, off, none⟩)) a :=
  Or.inl ⟨by simp [Region.wanted, hgd], fun w => by simp [execOp, ho, hx, hf]⟩
end
end Go.Proofs.YtaklbofbhanjgaaDoor
namespace Go.Proofs.YtaklbofbhanjgaaDoor
open Go.RowKit
set_option maxRecDepth 100000

theorem wpAny_act {md : Region.Mode} {ops : Array Oper} {Q : Exit → Act → World → Prop} {fuel : Nat} {listed : Array Bool} {a : Act} {w : World} (h : ∀ A, Hid (A = a) → wpAny Tryd.prog md ops Q fuel listed A w) : wpAny Tryd.prog md ops Q fuel listed a w := h a rfl
theorem ready_one {md : Region.Mode} {ops : Array Oper} {Q : Exit → Act → World → Prop} {fuel : Nat} {listed : Array Bool} {a : Act} {w : World} {i : Nat} {o : Oper} {rs : List Nat} (ho : ops[i]? = some o) (hgd : o.guard = none)
    (h : ∀ K' : Act → World → Prop, (∀ a w, wpAny Tryd.prog md ops Q fuel (listed.setIfInBounds i true) a w → K' a w) → Oper.wp Tryd.prog o a w K' Q) (hs : AllReady Tryd.prog md ops Q fuel listed a w rs) : AllReady Tryd.prog md ops Q fuel listed a w (i :: rs) :=
  AllReady.cons ho (fun K hK => by rw [if_pos (by simp [Region.wanted, hgd])]; exact h K hK) hs
theorem last_one {md : Region.Mode} {ops : Array Oper} {Q : Exit → Act → World → Prop} {fuel : Nat} {listed : Array Bool} {a : Act} {w : World} {i : Nat} {o : Oper} (hr : Region.ready md ops listed = [i]) (ho : ops[i]? = some o) (hgd : o.guard = none)
    (hd : Region.ready md ops (listed.setIfInBounds i true) = []) (h : ∀ K' : Act → World → Prop, (∀ a w, Q .normal a w → K' a w) → Oper.wp Tryd.prog o a w K' Q) : wpAny Tryd.prog md ops Q (fuel + 1) listed a w :=
  wpAny_ready hr (by simp) (ready_one ho hgd (fun K hK => h K (fun a w hq => hK a w (wpAny_done hd hq fuel))) AllReady.nil)
theorem last_store {md : Region.Mode} {ops : Array Oper} {Q : Exit → Act → World → Prop} {fuel : Nat} {listed : Array Bool} {a : Act} {w : World} {i : Nat} {o : Oper} (hr : Region.ready md ops listed = [i]) (ho : ops[i]? = some o) (hgd : o.guard = none)
    (hd : Region.ready md ops (listed.setIfInBounds i true) = []) {p : Nat} {cur : List Value} {t : TypeId} (R : Row w p cur t) (off : Nat) (ty : TypeId) (x y : Operand) (hop : o.op = .store ty x y) (hdst : o.dst = none) (hx : a.eval x = .pointer (some ⟨p, off, none⟩)) (cs : List Value) (hy : a.eval y = .agg cs.toArray)
    (hl : off + cs.length ≤ cur.length) (h1 : ∀ v ∈ cs, v.oneCell' = true) (hi : (Tryd.prog.info? ty).map (·.size) = some cs.length)
    (h : ∀ w', w' = w.setRow p (cur.take off ++ cs ++ cur.drop (off + cs.length)).toArray → Q .normal a w') : wpAny Tryd.prog md ops Q (fuel + 1) listed a w :=
  last_one hr ho hgd hd (fun K hK => step_store R off ty x y hop hx cs hy hl h1 hi (fun w' h' => hK _ _ (by rw [hdst]; exact h w' h'.out)))
def fin7 (a : Act) (p : Nat) (s' : St) (L : List (BitVec 8)) : Act := ((((((((((((a.put (some 40) (.pointer (some ⟨p, 0, none⟩))).put (some 41) (.pointer (some ⟨p, 0, none⟩))).put (some 42) (.pointer (some ⟨p, 0, none⟩))).put (some 43) (.pointer (some ⟨p, 1, none⟩))).put (some 45) (.pointer (some ⟨p, 0, none⟩))).put (some 46) (.pointer (some ⟨p, 0, none⟩))).put (some 47) (.pointer (some ⟨p, 9, none⟩))).put (some 44) (.agg (wcells s'.l).toArray)).put (some 48) (.agg (bcells L).toArray)).put (some 49) (.agg (wcells (mix s' L).l).toArray)).put (some 50) (.pointer (some ⟨p, 0, none⟩))).put (some 51) (.pointer (some ⟨p, 1, none⟩)))
def op12 (q : String) : Oper := { dst := none, op := Op.store 104 (Operand.tmp 51) (Operand.tmp 49), type := 0, pos := q, after := #[{ on := 11, ground := Ground.data }, { on := 9, ground := Ground.data }, { on := 9, ground := Ground.chain }, { on := 0, ground := Ground.phase }, { on := 1, ground := Ground.phase }, { on := 2, ground := Ground.phase }, { on := 3, ground := Ground.phase }, { on := 4, ground := Ground.phase }, { on := 5, ground := Ground.phase }, { on := 6, ground := Ground.phase }, { on := 7, ground := Ground.phase }, { on := 8, ground := Ground.phase }, { on := 9, ground := Ground.phase }], guard := none }
def ops7 (q : String) : List Oper := [{ dst := some 40, op := Op.move (Operand.tmp 0), type := 130, pos := q, after := #[], guard := none }, { dst := some 41, op := Op.move (Operand.tmp 0), type := 130, pos := q, after := #[], guard := none }, { dst := some 42, op := Op.nilCheck (Operand.tmp 41), type := 0, pos := q, after := #[{ on := 1, ground := Ground.data }], guard := none }, { dst := some 43, op := Op.fieldAddr 108 (Operand.tmp 42) 1, type := 0, pos := q, after := #[{ on := 2, ground := Ground.data }], guard := none }, { dst := some 44, op := Op.load 104 (Operand.tmp 43), type := 104, pos := q, after := #[{ on := 3, ground := Ground.data }], guard := none }, { dst := some 45, op := Op.move (Operand.tmp 0), type := 130, pos := q, after := #[], guard := none }, { dst := some 46, op := Op.nilCheck (Operand.tmp 45), type := 0, pos := q, after := #[{ on := 5, ground := Ground.data }], guard := none }, { dst := some 47, op := Op.fieldAddr 108 (Operand.tmp 46) 2, type := 0, pos := q, after := #[{ on := 6, ground := Ground.data }], guard := none }, { dst := some 48, op := Op.load 106 (Operand.tmp 47), type := 106, pos := q, after := #[{ on := 7, ground := Ground.data }], guard := none }, { dst := some 49, op := Op.call { callee := Callee.value (Operand.func 87), args := #[Operand.tmp 44, Operand.tmp 48], argTypes := #[104, 106] }, type := 104, pos := q, after := #[{ on := 4, ground := Ground.data }, { on := 8, ground := Ground.data }], guard := none }, { dst := some 50, op := Op.nilCheck (Operand.tmp 40), type := 0, pos := q, after := #[{ on := 0, ground := Ground.data }, { on := 0, ground := Ground.phase }, { on := 1, ground := Ground.phase }, { on := 2, ground := Ground.phase }, { on := 3, ground := Ground.phase }, { on := 4, ground := Ground.phase }, { on := 5, ground := Ground.phase }, { on := 6, ground := Ground.phase }, { on := 7, ground := Ground.phase }, { on := 8, ground := Ground.phase }, { on := 9, ground := Ground.phase }], guard := none }, { dst := some 51, op := Op.fieldAddr 108 (Operand.tmp 50) 1, type := 0, pos := q, after := #[{ on := 10, ground := Ground.data }, { on := 0, ground := Ground.phase }, { on := 1, ground := Ground.phase }, { on := 2, ground := Ground.phase }, { on := 3, ground := Ground.phase }, { on := 4, ground := Ground.phase }, { on := 5, ground := Ground.phase }, { on := 6, ground := Ground.phase }, { on := 7, ground := Ground.phase }, { on := 8, ground := Ground.phase }, { on := 9, ground := Ground.phase }], guard := none }, op12 q]
theorem at12 (q : String) : (ops7 q).toArray[12]? = some (op12 q) := by kernel_rfl

set_option maxHeartbeats 2000000 in
/-- The statement that mixes a full block into the state, in whatever order its operations come up. -/
theorem region7 {Q : Exit → Act → World → Prop} (a : Act) {w : World} {q : String} {p : Nat} {s' : St} {L : List (BitVec 8)} {M : Nat} (SZ : a.tmps.size = 52) (E0 : a.eval (.tmp 0) = .pointer (some ⟨p, 0, none⟩))
    (hQ : ∀ c (d : Nat) v a w, Q (.panic c) (a.put (some d) v) w → Q (.panic c) a w) (R0 : Row w p (hcells s' L M) 108) (hL : L.length = 64) (hK0 : KTab w)
    (hk0 : ∀ w8, Row w8 p (hcells (mix s' L) L M) 108 → Only p w w8 → Q .normal (fin7 a p s' L) w8) : (Code.region 7 (ops7 q).toArray true).wp Tryd.prog Q a w := by
  have i34 : (Tryd.prog.info? 104).map (·.size) = some 8 := by kernel_rfl
  have i36 : (Tryd.prog.info? 106).map (·.size) = some 64 := by kernel_rfl
  refine wp_region_any (by kernel_rfl) ?_
  have R := R0.drawn (w.drawn + 1)
  have hK1 : KTab { w with drawn := w.drawn + 1 } := hK0
  have hk : ∀ w8, Row w8 p (hcells (mix s' L) L M) 108 → Only p { w with drawn := w.drawn + 1 } w8 → Q .normal (fin7 a p s' L) w8 :=
    fun w8 r o => hk0 w8 r ⟨o.os, o.tape, o.output, o.size, o.block⟩
  generalize ({ w with drawn := w.drawn + 1 } : World) = w at *
  clear R0 hK0 hk0
  refine wpAny_take (i := 0) (oi := ⟨some 40, .move (.tmp 0), _, _, _, none⟩) (v := _) rfl (by kernel_rfl) (by kernel_rfl) (by kernel_rfl) (fun _ _ _ h => hQ _ _ _ _ _ h) (yields_move (.tmp 0) _ rfl rfl (E0)) ?_
  refine wpAny_take (i := 1) (oi := ⟨some 41, .move (.tmp 0), _, _, _, none⟩) (v := _) rfl (by kernel_rfl) (by kernel_rfl) (by kernel_rfl) (fun _ _ _ h => hQ _ _ _ _ _ h) (yields_move (.tmp 0) _ rfl rfl ((Act.eval_put_ne _ _ _ _ (by decide)).trans (E0))) ?_
  refine wpAny_take (i := 2) (oi := ⟨some 42, .nilCheck (.tmp 41), _, _, _, none⟩) (v := _) rfl (by kernel_rfl) (by kernel_rfl) (by kernel_rfl) (fun _ _ _ h => hQ _ _ _ _ _ h) (yields_nilCheck (.tmp 41) _ rfl rfl (Act.eval_put_same _ _ _ (by (try simp only [Act.size_put]); rw [SZ]; decide))) ?_
  refine wpAny_take (i := 3) (oi := ⟨some 43, .fieldAddr 108 (.tmp 42) 1, _, _, _, none⟩) (v := _) rfl (by kernel_rfl) (by kernel_rfl) (by kernel_rfl) (fun _ _ _ h => hQ _ _ _ _ _ h) (yields_field (.tmp 42) p 1 1 rfl rfl (Act.eval_put_same _ _ _ (by (try simp only [Act.size_put]); rw [SZ]; decide)) (fun _ _ => by kernel_rfl)) ?_
  refine wpAny_take (i := 5) (oi := ⟨some 45, .move (.tmp 0), _, _, _, none⟩) (v := _) rfl (by kernel_rfl) (by kernel_rfl) (by kernel_rfl) (fun _ _ _ h => hQ _ _ _ _ _ h) (yields_move (.tmp 0) _ rfl rfl ((Act.eval_put_ne _ _ _ _ (by decide)).trans ((Act.eval_put_ne _ _ _ _ (by decide)).trans ((Act.eval_put_ne _ _ _ _ (by decide)).trans ((Act.eval_put_ne _ _ _ _ (by decide)).trans (E0)))))) ?_
  refine wpAny_take (i := 6) (oi := ⟨some 46, .nilCheck (.tmp 45), _, _, _, none⟩) (v := _) rfl (by kernel_rfl) (by kernel_rfl) (by kernel_rfl) (fun _ _ _ h => hQ _ _ _ _ _ h) (yields_nilCheck (.tmp 45) _ rfl rfl (Act.eval_put_same _ _ _ (by (try simp only [Act.size_put]); rw [SZ]; decide))) ?_
  refine wpAny_take (i := 7) (oi := ⟨some 47, .fieldAddr 108 (.tmp 46) 2, _, _, _, none⟩) (v := _) rfl (by kernel_rfl) (by kernel_rfl) (by kernel_rfl) (fun _ _ _ h => hQ _ _ _ _ _ h) (yields_field (.tmp 46) p 2 9 rfl rfl (Act.eval_put_same _ _ _ (by (try simp only [Act.size_put]); rw [SZ]; decide)) (fun _ _ => by kernel_rfl)) ?_
  refine wpAny_act fun A HA => ?_
  have e40 : A.eval (.tmp 40) = .pointer (some ⟨p, 0, none⟩) := by rw [HA.out]; exact (Act.eval_put_ne _ _ _ _ (by decide)).trans ((Act.eval_put_ne _ _ _ _ (by decide)).trans ((Act.eval_put_ne _ _ _ _ (by decide)).trans ((Act.eval_put_ne _ _ _ _ (by decide)).trans ((Act.eval_put_ne _ _ _ _ (by decide)).trans ((Act.eval_put_ne _ _ _ _ (by decide)).trans (Act.eval_put_same _ _ _ (by (try simp only [Act.size_put]); rw [SZ]; decide)))))))
  have e43 : A.eval (.tmp 43) = .pointer (some ⟨p, 1, none⟩) := by rw [HA.out]; exact (Act.eval_put_ne _ _ _ _ (by decide)).trans ((Act.eval_put_ne _ _ _ _ (by decide)).trans ((Act.eval_put_ne _ _ _ _ (by decide)).trans (Act.eval_put_same _ _ _ (by (try simp only [Act.size_put]); rw [SZ]; decide))))
  have e47 : A.eval (.tmp 47) = .pointer (some ⟨p, 9, none⟩) := by rw [HA.out]; exact Act.eval_put_same _ _ _ (by (try simp only [Act.size_put]); rw [SZ]; decide)
  replace SZ : A.tmps.size = 52 := by rw [HA.out]; simp only [Act.size_put]; exact SZ
  refine wpAny_ready (rs := [4, 8]) (by kernel_rfl) (by simp) ?_
  refine ready_one (o := ⟨some 44, .load 104 (.tmp 43), _, _, _, none⟩) rfl rfl (fun K hK => ?_) (ready_one (o := ⟨some 48, .load 106 (.tmp 47), _, _, _, none⟩) rfl rfl (fun K hK => ?_) AllReady.nil)
  · refine step_load (w := w) (p := p) (cur := hcells s' L M) (t := 108) ?r1 1 104 (.tmp 43) rfl ?e1 (wcells s'.l) (.array 8 85) ?hcs1 Tryd.underlying104 rfl ?hi1 ?hk1
    case r1 => exact R
    case e1 => exact e43
    case hcs1 => exact hcells_st _ _ _
    case hi1 => exact i34
    refine hK _ _ ?_
    clear hK K
    refine wpAny_ready (rs := [8]) (by kernel_rfl) (by simp) (ready_one (o := ⟨some 48, .load 106 (.tmp 47), _, _, _, none⟩) rfl rfl (fun K hK => ?_) AllReady.nil)
    refine step_load (w := w) (p := p) (cur := hcells s' L M) (t := 108) ?r2 9 106 (.tmp 47) rfl ?e2 (bcells L) (.array 64 5) ?hcs2 Tryd.underlying106 rfl ?hi2 ?hk2
    case r2 => exact R
    case e2 => exact (Act.eval_put_ne _ _ _ _ (by decide)).trans (e47)
    case hcs2 => exact hcells_left _ _ _
    case hi2 => rw [bcells_len, hL]; exact i36
    refine hK _ _ ?_
    clear hK K
    refine wpAny_ready (rs := [9]) (by kernel_rfl) (by simp) (ready_one (o := ⟨some 49, .call { callee := .value (.func 87), args := #[.tmp 44, .tmp 48], argTypes := #[104, 106] }, _, _, _, none⟩) rfl rfl (fun K hK => ?_) AllReady.nil)
    refine step_call31 (x := .tmp 44) (y := .tmp 48) (vx := .agg (wcells s'.l).toArray) (vy := .agg (bcells L).toArray) (v := .agg (wcells (mix s' L).l).toArray) (G := Below w.heap.size w) rfl ?ea3 ?eb3 (mixed_any s' L hL hK1) ?hc3
    case ea3 => exact ((Act.eval_put_ne _ _ _ _ (by decide)).trans (Act.eval_put_same _ _ _ (by (try simp only [Act.size_put]); rw [SZ]; decide)))
    case eb3 => exact (Act.eval_put_same _ _ _ (by (try simp only [Act.size_put]); rw [SZ]; decide))
    intro w7 hb7
    refine hK _ _ ?_
    clear hK K
    refine wpAny_take (i := 10) (oi := ⟨some 50, .nilCheck (.tmp 40), _, _, _, none⟩) (v := _) rfl (by kernel_rfl) (by kernel_rfl) (by kernel_rfl) (fun _ _ _ h => hQ _ _ _ _ _ h) (yields_nilCheck (.tmp 40) _ rfl rfl ((Act.eval_put_ne _ _ _ _ (by decide)).trans ((Act.eval_put_ne _ _ _ _ (by decide)).trans ((Act.eval_put_ne _ _ _ _ (by decide)).trans (e40))))) ?_
    refine wpAny_take (i := 11) (oi := ⟨some 51, .fieldAddr 108 (.tmp 50) 1, _, _, _, none⟩) (v := _) rfl (by kernel_rfl) (by kernel_rfl) (by kernel_rfl) (fun _ _ _ h => hQ _ _ _ _ _ h) (yields_field (.tmp 50) p 1 1 rfl rfl (Act.eval_put_same _ _ _ (by (try simp only [Act.size_put]); rw [SZ]; decide)) (fun _ _ => by kernel_rfl)) ?_
    refine last_store (i := 12) (o := op12 q) ?zz1 (at12 q) rfl ?yy1 (w := w7) (p := p) (cur := hcells s' L M) (t := 108) ?rr1 1 104 (.tmp 51) (.tmp 49) rfl rfl ?sa1 (wcells (mix s' L).l) ?sb1 ?sl1 (wcells_one _) ?si1 ?sk1
    case zz1 => kernel_rfl
    case yy1 => kernel_rfl
    case rr1 => exact R.kept hb7 R.lt
    case sa1 => exact (Act.eval_put_same _ _ _ (by (try simp only [Act.size_put]); rw [SZ]; decide))
    case sb1 => exact ((Act.eval_put_ne _ _ _ _ (by decide)).trans ((Act.eval_put_ne _ _ _ _ (by decide)).trans (Act.eval_put_same _ _ _ (by (try simp only [Act.size_put]); rw [SZ]; decide))))
    case sl1 => rw [hcells_len _ _ _ hL]; show 9 ≤ 74; decide
    case si1 => exact i34
    intro w8 H8
    have R8 : Row w8 p (hcells (mix s' L) L M) 108 := by
      have := (R.kept hb7 R.lt).row ((hcells s' L M).take 1 ++ wcells (mix s' L).l ++ (hcells s' L M).drop (1 + (wcells (mix s' L).l).length))
      rw [← H8, hcells_setSt] at this
      exact this
    have O8 : Only p w w8 := by
      rw [H8]
      exact ((Only.refl p w).trans (Only.of_below hb7 (Nat.le_refl _))).setRow _
    have := hk w8 R8 O8
    unfold fin7 at this
    rw [← HA.out] at this
    exact this
  · refine step_load (w := w) (p := p) (cur := hcells s' L M) (t := 108) ?r5 9 106 (.tmp 47) rfl ?e5 (bcells L) (.array 64 5) ?hcs5 Tryd.underlying106 rfl ?hi5 ?hk5
    case r5 => exact R
    case e5 => exact e47
    case hcs5 => exact hcells_left _ _ _
    case hi5 => rw [bcells_len, hL]; exact i36
    refine hK _ _ ?_
    clear hK K
    refine wpAny_ready (rs := [4]) (by kernel_rfl) (by simp) (ready_one (o := ⟨some 44, .load 104 (.tmp 43), _, _, _, none⟩) rfl rfl (fun K hK => ?_) AllReady.nil)
    refine step_load (w := w) (p := p) (cur := hcells s' L M) (t := 108) ?r6 1 104 (.tmp 43) rfl ?e6 (wcells s'.l) (.array 8 85) ?hcs6 Tryd.underlying104 rfl ?hi6 ?hk6
    case r6 => exact R
    case e6 => exact (Act.eval_put_ne _ _ _ _ (by decide)).trans (e43)
    case hcs6 => exact hcells_st _ _ _
    case hi6 => exact i34
    refine hK _ _ ?_
    clear hK K
    refine wpAny_ready (rs := [9]) (by kernel_rfl) (by simp) (ready_one (o := ⟨some 49, .call { callee := .value (.func 87), args := #[.tmp 44, .tmp 48], argTypes := #[104, 106] }, _, _, _, none⟩) rfl rfl (fun K hK => ?_) AllReady.nil)
    refine step_call31 (x := .tmp 44) (y := .tmp 48) (vx := .agg (wcells s'.l).toArray) (vy := .agg (bcells L).toArray) (v := .agg (wcells (mix s' L).l).toArray) (G := Below w.heap.size w) rfl ?ea7 ?eb7 (mixed_any s' L hL hK1) ?hc7
    case ea7 => exact (Act.eval_put_same _ _ _ (by (try simp only [Act.size_put]); rw [SZ]; decide))
    case eb7 => exact ((Act.eval_put_ne _ _ _ _ (by decide)).trans (Act.eval_put_same _ _ _ (by (try simp only [Act.size_put]); rw [SZ]; decide)))
    intro w7 hb7
    refine hK _ _ ?_
    clear hK K
    refine wpAny_take (i := 10) (oi := ⟨some 50, .nilCheck (.tmp 40), _, _, _, none⟩) (v := _) rfl (by kernel_rfl) (by kernel_rfl) (by kernel_rfl) (fun _ _ _ h => hQ _ _ _ _ _ h) (yields_nilCheck (.tmp 40) _ rfl rfl ((Act.eval_put_ne _ _ _ _ (by decide)).trans ((Act.eval_put_ne _ _ _ _ (by decide)).trans ((Act.eval_put_ne _ _ _ _ (by decide)).trans (e40))))) ?_
    refine wpAny_take (i := 11) (oi := ⟨some 51, .fieldAddr 108 (.tmp 50) 1, _, _, _, none⟩) (v := _) rfl (by kernel_rfl) (by kernel_rfl) (by kernel_rfl) (fun _ _ _ h => hQ _ _ _ _ _ h) (yields_field (.tmp 50) p 1 1 rfl rfl (Act.eval_put_same _ _ _ (by (try simp only [Act.size_put]); rw [SZ]; decide)) (fun _ _ => by kernel_rfl)) ?_
    refine last_store (i := 12) (o := op12 q) ?zz2 (at12 q) rfl ?yy2 (w := w7) (p := p) (cur := hcells s' L M) (t := 108) ?rr2 1 104 (.tmp 51) (.tmp 49) rfl rfl ?sa2 (wcells (mix s' L).l) ?sb2 ?sl2 (wcells_one _) ?si2 ?sk2
    case zz2 => kernel_rfl
    case yy2 => kernel_rfl
    case rr2 => exact R.kept hb7 R.lt
    case sa2 => exact (Act.eval_put_same _ _ _ (by (try simp only [Act.size_put]); rw [SZ]; decide))
    case sb2 => exact ((Act.eval_put_ne _ _ _ _ (by decide)).trans ((Act.eval_put_ne _ _ _ _ (by decide)).trans (Act.eval_put_same _ _ _ (by (try simp only [Act.size_put]); rw [SZ]; decide))))
    case sl2 => rw [hcells_len _ _ _ hL]; show 9 ≤ 74; decide
    case si2 => exact i34
    intro w8 H8
    have R8 : Row w8 p (hcells (mix s' L) L M) 108 := by
      have := (R.kept hb7 R.lt).row ((hcells s' L M).take 1 ++ wcells (mix s' L).l ++ (hcells s' L M).drop (1 + (wcells (mix s' L).l).length))
      rw [← H8, hcells_setSt] at this
      exact this
    have O8 : Only p w w8 := by
      rw [H8]
      exact ((Only.refl p w).trans (Only.of_below hb7 (Nat.le_refl _))).setRow _
    have := hk w8 R8 O8
    unfold fin7 at this
    rw [← HA.out] at this
    rw [Act.put_comm A (.agg (wcells s'.l).toArray) (.agg (bcells L).toArray) (fun d h => by cases h; decide)] at this
    exact this
end Go.Proofs.YtaklbofbhanjgaaDoor
