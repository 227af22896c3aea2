import Derived.Test.YtjpllcliehgnfaaDoorJ14
namespace Go.Proofs.YtjpllcliehgnfaaDoor
open Go.RowKit
set_option maxRecDepth 100000

theorem OwnB.nilShape {w : World} {B : Nat} {m : Value} (h : OwnB w B m []) : ∃ a c, m = .slice a 0 c := by
  obtain ⟨a, c, e, _⟩ := h.shape
  exact ⟨a, c, e⟩
theorem bytes_nil' (w : World) (a : Option Addr) : BytesAt w a [] := fun k hk => by simp at hk
theorem Row.wpLoadB {P : Program} {w : World} {g : Nat} {c : List Value} {t : TypeId} {ops : Array Oper} {rest : List Oper} {o : Oper} {a : Act} {Q : Exit → Act → World → Prop} (h : Row w g c t) (ty : TypeId) (x : Operand) {j : Nat} {b : Bool} (hgd : o.guard = some (j, b)) (hy : yielded ops a.tmps j = some b) (ho : o.op = .load ty x)
    (hx : a.eval x = .pointer (some ⟨g, 0, none⟩)) (d : TypeDesc) (hu : P.underlying ty = some d) (hd : (match d with | .struct _ | .array _ _ => true | _ => false) = true) (hi : (P.info? ty).map (·.size) = some c.length)
    (k : wpList P ops Q rest (a.put o.dst (.agg c.toArray)) w) : wpList P ops Q (o :: rest) a w := by
  have hr := h.load (P := P) ty d hu hd hi
  refine wpList_step fun K hK => ?_
  rw [if_pos (by simp [Region.wanted, hgd, hy])]
  have e : (execOp a.eval o).run P w = .ok (.value (.agg c.toArray)) w := by
    generalize a.eval = r at *
    simp [execOp, ho, hx, hr]
  unfold Oper.wp
  rw [e, Oper.upon_value]
  exact hK _ _ k
theorem below_put (w : World) (c : List Value) (cs : Array Value) : Below w.heap.size w ((w.alloc (.cells c.toArray 29)).setRow w.heap.size cs) := Go.below_setRow (below_new _ _) (Nat.le_refl _) _

/-- Where the tries stand. -/
structure TrI (w : World) (p g : Nat) (F : Hf) (fr : List Value) (N0 Rn : Nat) (v12 v15 v16 : Value) (wr : World) : Prop where
  ex : ∃ kk nw wt : Nat, kk ≤ Rn ∧ nw ≤ N0 + 60000 * kk ∧ wt = Nat.min (1000 * 2 ^ kk) 60000 ∧ v16 = .int .i64 (kk : Int) ∧ v12 = .int .u64 (nw : Int) ∧ v15 = .int .u64 (wt : Int) ∧ HfAt wr p { F with ag := kk, mrk := nw } ∧ Row wr g fr 29 ∧ Below w.heap.size w wr
theorem wt_next (k : Nat) : Nat.min (2 * Nat.min (1000 * 2 ^ k) 60000) 60000 = Nat.min (1000 * 2 ^ (k + 1)) 60000 := by
  rw [Nat.pow_succ]
  simp only [Nat.min_def]
  split <;> split <;> split <;> omega
theorem wt_ge (k : Nat) : 1000 ≤ Nat.min (1000 * 2 ^ k) 60000 ∧ Nat.min (1000 * 2 ^ k) 60000 ≤ 60000 := by
  have : 1 ≤ 2 ^ k := Nat.one_le_two_pow
  simp only [Nat.min_def]
  split <;> omega

set_option maxHeartbeats 4000000 in
theorem tries_core {w : World} (path q : Int) (hpq : path = 0 ∧ q = 3 ∨ ¬ path = 0 ∧ q = path) (own peer : Nat) (ret : Int) (at' : Nat) (hpe : peer < 18446744073709551616) (hK : KTab w) (h2 : 1 ≤ w.heap.size) :
    Calls Tryd.prog 3 #[.int .i64 path, .int .u64 (own : Int), .int .u64 (peer : Int), .int .i64 ret, .int .u64 (at' : Int)] w fun e w' => e = .returned (.bool true) ∧ Below w.heap.size w w' := by
  obtain ⟨Rn, hRn⟩ : ∃ Rn : Nat, min (max ret 1) 16 = (Rn : Int) := ⟨(min (max ret 1) 16).toNat, by omega⟩
  have hR1 : 1 ≤ Rn := by omega
  have hR2 : Rn ≤ 16 := by omega
  obtain ⟨N0, hN0⟩ : ∃ N0 : Nat, (at' : Int) % 1099511627776 = (N0 : Int) := ⟨at' % 1099511627776, by omega⟩
  have hN1 : N0 < 1099511627776 := by omega
  have hq : ¬ q = 0 := by omega
  have HF0 : Hid (mk0 0 q own peer ret = ⟨0, q, own, peer, Rn, 0, false, 0#32, 0, 0⟩) := by show _ = _; unfold mk0 clampR; rw [hRn, if_neg hq]
  have HQ := hid hq
  have HPE := hid hpe
  have HK := hid hK
  have H2 := hid h2
  have HRR := hid (And.intro hR1 hR2)
  have HN := hid hN1
  clear hpe hK h2 hR1 hR2 hN1 hq
  go_enter Tryd.func3, Tryd.ntmps3
  rcases hpq with ⟨rfl, rfl⟩ | ⟨hp, rfl⟩
  · go_upto_region 7 with (go_at_call 9; refine (new_side 0 0 3 own peer ret rfl).mono ?_; rintro e w1 ⟨rfl, hf1, hb1⟩; rw [HF0.out] at hf1; have HF1 := hid hf1; have HB1 := hid hb1; clear hf1 hb1)
    rw [hN0]
    clear hN0
    go_upto_region 8 with (first
      | (go_at_call 10; refine (start_yes HF1.out rfl rfl HPE.out (HK.out.kept HB1.out) H2.out N0 true).mono ?_; rintro e w2 ⟨v, rfl, ⟨m, hv, om⟩, hf, ho⟩; obtain ⟨ma, mc, rfl⟩ := OwnB.nilShape om; have HV3 := hid hv; have HF2 := hid hf; have HO2 := hid ho; clear om hv hf ho)
      | (show wpList _ _ _ (Oper.mk none (.store 29 (.tmp 13) (.tmp 42)) _ _ _ _ :: _) _ _; refine (Row.new' w2 _ frZ 29 _ rfl rfl).wpStore' 29 (.tmp 13) (.tmp 42) (frC 7 3 (tok peer) (nonceOf own 3) (.slice ma 0 mc) true) rfl rfl rfl HV3.out rfl (frC_one _ _ _ _ _ _ _ _) i29 ?_; intro w3 HZ3))
    have HB3 : Hid (Below w2.heap.size w2 w3) := by show Below _ _ _; rw [HZ3.out]; exact below_put _ _ _
    have HR3 : Hid (Row w3 w2.heap.size (frC 7 3 (tok peer) (nonceOf own 3) (.slice ma 0 mc) true) 29) := by show Row _ _ _ _; rw [HZ3.out]; exact (Row.new' w2 _ frZ 29 _ rfl rfl).row _
    have HF3 := hid (HF2.out.kept HB3.out)
    have HBa : Hid (Below w.heap.size w w3) := (HB1.out.trans (HO2.out.below HB1.out.size (Nat.le_refl _))).trans (HB3.out.mono (Nat.le_trans HB1.out.size HO2.out.size))
    have HGP : Hid (w.heap.size < w2.heap.size) := Row.lt HF2.out
    have HGL : Hid (w2.heap.size < w3.heap.size) := Row.lt HR3.out
    clear HZ3 HB3 HF2 HB1 HF1 HF0 HO2 HV3
    generalize w2.heap.size = g at *
    go_wp2_with (fail)
    go_loopw [12, 15, 16] (fun v12 v15 v16 wr => TrI w w.heap.size g (⟨0, 3, own, peer, Rn, 1, true, 0#32, 0, N0⟩ : Hf) (frC 7 3 (tok peer) (nonceOf own 3) (.slice ma 0 mc) true) N0 Rn v12 v15 v16 wr) (fun _ _ v16 _ => 17 - (intOf v16).toNat)
    case atStart =>
      exact ⟨0, N0, 1000, Nat.zero_le _, by omega, rfl, rfl, rfl, rfl, HF3.out, HR3.out, HBa.out⟩
    case round =>
      obtain ⟨kk, nw, wt, hk, hnw, hwt, rfl, rfl, rfl, hf, hg, hb⟩ := hrel
      have HFr := hid hf
      have HGr := hid hg
      have HBr := hid hb
      have HWT := hid hwt
      have HNW := hid hnw
      clear hf hg hb
      have hwg := wt_ge kk
      rw [← hwt] at hwg
      have hN1 := HN.out
      have hR2 := HRR.out.2
      obtain ⟨S, hS⟩ : ∃ S : Nat, S = nw + wt := ⟨_, rfl⟩
      obtain ⟨S1, hS1⟩ : ∃ S1 : Nat, S1 = S - 1 := ⟨_, rfl⟩
      have a1 : (nw : Int) + (wt : Int) = (S : Int) := by omega
      have a2 : (S : Int) - 1 = (S1 : Int) := by omega
      have a3 : IntKind.u64.wrap (S : Int) = (S : Int) := by rw [IntKind.wrap_u64]; omega
      have a4 : IntKind.u64.wrap (S1 : Int) = (S1 : Int) := by rw [IntKind.wrap_u64]; omega
      have HSB := hid (show S < 18446744073709551616 ∧ S1 < 18446744073709551616 by omega)
      have HE1 := hid (show ¬ ((⟨0, 3, own, peer, Rn, 1, true, 0#32, kk, nw⟩ : Hf).waits = true ∧ nw ≤ S1 ∧ Nat.min (1000 * 2 ^ kk) 60000 ≤ S1 - nw) by rintro ⟨_, _, hc⟩; omega)
      have HE2 := hid (show nw ≤ S ∧ Nat.min (1000 * 2 ^ kk) 60000 ≤ S - nw by omega)
      have HKK := hid (show kk ≤ 16 by omega)
      by_cases hlt : kk < Rn
      · have hlt2 : (kk : Int) < (Rn : Int) := by omega
        have HKR := hid hlt
        have hk16 : (kk : Int) ≤ 16 := by omega
        have hw6 : (wt : Int) ≤ 60000 := by omega
        clear hlt hk hnw hwt hwg hN1 hR2 hS hS1
        go_upto_region 16 with (first
          | (go_at_call_of 11 (Value.int IntKind.u64 (S1 : Int)); refine (tick_early HFr.out HKK.out S1 HSB.out.2 HE1.out).mono ?_; rintro e w4 ⟨v, rfl, ⟨m, hv, om⟩, hf, ho⟩; obtain ⟨mb, md, rfl⟩ := OwnB.nilShape om; have HV5 := hid hv; have HF4 := hid hf; have HO4 := hid ho; clear om hv hf ho)
          | (show wpList _ _ _ (Oper.mk none (.store 29 (.tmp 17) (.tmp 60)) _ _ _ _ :: _) _ _; refine (Row.new' w4 _ frZ 29 _ rfl rfl).wpStore' 29 (.tmp 17) (.tmp 60) (frC 0 0 0#32 0#32 (.slice mb 0 md) false) rfl rfl rfl HV5.out rfl (frC_one _ _ _ _ _ _ _ _) i29 ?_; intro w5 HZ5)
          | (go_at_call_of 11 (Value.int IntKind.u64 (S : Int))
             have b4 : Below w.heap.size w w4 := HBr.out.trans (HO4.out.below HBr.out.size (Nat.le_refl _))
             have b45 : Below w4.heap.size w4 w5 := by rw [HZ5.out]; exact below_put _ _ _
             have HB5 := hid (b4.trans (b45.mono b4.size))
             have HG5 := hid ((HO4.out.row HGr.out (by have := HGP.out; omega)).kept b45 (HO4.out.row HGr.out (by have := HGP.out; omega)).lt)
             have HF5 := hid (HF4.out.kept b45)
             clear b4 b45
             refine (tick_again HF5.out HKK.out S HSB.out.1 rfl HE2.out.1 HE2.out.2 (by have := HKR.out; show ¬ (kk : Int) = (Rn : Int); omega) HPE.out (HK.out.kept HB5.out) H2.out).mono ?_; rintro e w6 ⟨v, rfl, ⟨m, hv, om⟩, hf, ho⟩; obtain ⟨mx, my, rfl⟩ := OwnB.nilShape om; have HV7 := hid hv; have HF6 := hid hf; have HO6 := hid ho; clear om hv hf ho)
          | (show wpList _ _ _ (Oper.mk none (.store 29 (.tmp 19) (.tmp 68)) _ _ _ _ :: _) _ _; refine (Row.new' w6 _ frZ 29 _ rfl rfl).wpStore' 29 (.tmp 19) (.tmp 68) (frC 7 3 (tok peer) (nonceOf own 3) (.slice mx 0 my) true) rfl rfl rfl HV7.out rfl (frC_one _ _ _ _ _ _ _ _) i29 ?_; intro w7 HZ7))
        have HB7 : Hid (Below w6.heap.size w6 w7) := by show Below _ _ _; rw [HZ7.out]; exact below_put _ _ _
        have HR7 : Hid (Row w7 w6.heap.size (frC 7 3 (tok peer) (nonceOf own 3) (.slice mx 0 my) true) 29) := by show Row _ _ _ _; rw [HZ7.out]; exact (Row.new' w6 _ frZ 29 _ rfl rfl).row _
        have HF7 := hid (HF6.out.kept HB7.out)
        have HG7 := hid ((HO6.out.row HG5.out (by have := HGP.out; omega)).kept HB7.out (HO6.out.row HG5.out (by have := HGP.out; omega)).lt)
        have HBs := hid ((HB5.out.trans (HO6.out.below HB5.out.size (Nat.le_refl _))).trans (HB7.out.mono (Nat.le_trans HB5.out.size HO6.out.size)))
        have HST := hid (state_any HF7.out)
        clear HZ7 HZ5 HV5 HV7 HF4 HF5 HF6 HG5 HO4 HO6 HB5 HFr HGr HBr HB7
        have HSM := hid (same_eq (w := w7) 7 3 (tok peer) (nonceOf own 3) true (a := ma) (b := mx) (c := mc) (d := my) (bytes_nil' _ _) (bytes_nil' _ _))
        obtain ⟨W2, hW2⟩ : ∃ W2 : Nat, W2 = 2 * wt := ⟨_, rfl⟩
        have a5 : 2 * (wt : Int) = (W2 : Int) := by omega
        have a6 : IntKind.u64.wrap (W2 : Int) = (W2 : Int) := by rw [IntKind.wrap_u64]; omega
        have HW2 := hid hW2
        clear hW2
        go_wp2_with (first
          | (show wpList _ _ _ (Oper.mk (some 76) (.load 29 (.tmp 13)) _ _ _ _ :: _) _ _; refine Row.wpLoadB HG7.out 29 (.tmp 13) (j := 5) (b := false) rfl rfl rfl rfl _ Tryd.underlying29 rfl i29 ?_)
          | (show wpList _ _ _ (Oper.mk (some 77) (.load 29 (.tmp 19)) _ _ _ _ :: _) _ _; refine Row.wpLoadB HR7.out 29 (.tmp 19) (j := 5) (b := false) rfl rfl rfl rfl _ Tryd.underlying29 rfl i29 ?_)
          | (go_at_call 12; refine Calls.mono HSM.out ?_; rintro e w8 ⟨rfl, hb8⟩; have HB8 := hid hb8; have HF8 := hid (HF7.out.kept hb8); clear hb8)
          | (go_at_call 13; refine (state_any HF8.out).mono ?_; rintro e w9 ⟨rfl, rfl⟩))
        go_roundw
        case rel =>
          refine ⟨kk + 1, S, Nat.min (2 * wt) 60000, HKR.out, ?_, ?_, by go_num, rfl, ?_, HF8.out, HG7.out.kept HB8.out HG7.out.lt, HBs.out.trans (HB8.out.mono HBs.out.size)⟩
          · have h1 := HNW.out
            have h2 := HWT.out
            have h3 := wt_ge kk
            omega
          · rw [HWT.out]; exact wt_next kk
          · show Value.int .u64 (min (W2 : Int) 60000) = Value.int .u64 ((Nat.min (2 * wt) 60000 : Nat) : Int)
            have h1 := HW2.out
            congr 1
            show min (W2 : Int) 60000 = ((min (2 * wt) 60000 : Nat) : Int)
            omega
        case measure => simp [intOf]; have := HKK.out; omega
      · have hge : ¬ (kk : Int) < (Rn : Int) := by omega
        have HKR := hid (show kk = Rn by omega)
        clear hlt hk hnw hwt hwg hN1 hR2 hS hS1
        go_upto_region 23 with (first
          | (go_at_call_of 11 (Value.int IntKind.u64 (S1 : Int)); refine (tick_early HFr.out HKK.out S1 HSB.out.2 HE1.out).mono ?_; rintro e w4 ⟨v, rfl, ⟨m, hv, om⟩, hf, ho⟩; obtain ⟨mb, md, rfl⟩ := OwnB.nilShape om; have HV5 := hid hv; have HF4 := hid hf; have HO4 := hid ho; clear om hv hf ho
             have b4 : Below w.heap.size w w4 := HBr.out.trans (HO4.out.below HBr.out.size (Nat.le_refl _))
             have HB4 := hid b4
             have HG4 := hid (HO4.out.row HGr.out (by have := HGP.out; omega))
             clear b4)
          | (show wpList _ _ _ (Oper.mk none (.store 29 (.tmp 21) (.tmp 99)) _ _ _ _ :: _) _ _; refine (Row.new' w4 _ frZ 29 _ rfl rfl).wpStore' 29 (.tmp 21) (.tmp 99) (frC 0 0 0#32 0#32 (.slice mb 0 md) false) rfl rfl rfl HV5.out rfl (frC_one _ _ _ _ _ _ _ _) i29 ?_; intro w5 HZ5)
          | (go_at_call 13
             have b45 : Below w4.heap.size w4 w5 := by rw [HZ5.out]; exact below_put _ _ _
             have HB5 := hid (HB4.out.trans (b45.mono HB4.out.size))
             have HG5 := hid (HG4.out.kept b45 HG4.out.lt)
             have HF5 := hid (HF4.out.kept b45)
             clear b45
             refine (state_any HF5.out).mono ?_; rintro e wq ⟨rfl, hwq⟩; subst hwq)
          | (go_at_call_of 11 (Value.int IntKind.u64 (S : Int)); refine (tick_end HF5.out HKK.out S HSB.out.1 rfl HE2.out.1 HE2.out.2 (by have := HKR.out; show (kk : Int) = (Rn : Int); omega)).mono ?_; rintro e w6 ⟨v, rfl, ⟨m, hv, om⟩, hf, ho⟩; obtain ⟨mf, me, rfl⟩ := OwnB.nilShape om; have HV7 := hid hv; have HF6 := hid hf; have HO6 := hid ho; clear om hv hf ho)
          | (show wpList _ _ _ (Oper.mk none (.store 29 (.tmp 24) (.tmp 109)) _ _ _ _ :: _) _ _; refine (Row.new' w6 _ frZ 29 _ rfl rfl).wpStore' 29 (.tmp 24) (.tmp 109) (frC 0 0 0#32 0#32 (.slice mf 0 me) false) rfl rfl rfl HV7.out rfl (frC_one _ _ _ _ _ _ _ _) i29 ?_; intro w7 HZ7))
        have HB7 : Hid (Below w6.heap.size w6 w7) := by show Below _ _ _; rw [HZ7.out]; exact below_put _ _ _
        have HR7 : Hid (Row w7 w6.heap.size (frC 0 0 0#32 0#32 (.slice mf 0 me) false) 29) := by show Row _ _ _ _; rw [HZ7.out]; exact (Row.new' w6 _ frZ 29 _ rfl rfl).row _
        have HF7 := hid (HF6.out.kept HB7.out)
        have HG7 := hid ((HO6.out.row HG5.out (by have := HGP.out; omega)).kept HB7.out (HO6.out.row HG5.out (by have := HGP.out; omega)).lt)
        have HBs := hid ((HB5.out.trans (HO6.out.below HB5.out.size (Nat.le_refl _))).trans (HB7.out.mono (Nat.le_trans HB5.out.size HO6.out.size)))
        clear HZ7 HZ5 HV5 HV7 HF4 HF5 HF6 HG5 HO4 HO6 HB5 HFr HGr HBr HB7 HB4 HG4
        go_upto_region 26 with (first
          | (go_at_call 13; refine (state_any HF7.out).mono ?_; rintro e wq ⟨rfl, hwq⟩; subst hwq)
          | (go_at_call 10; refine (start_yes HF7.out rfl rfl HPE.out (HK.out.kept HBs.out) H2.out nw true).mono ?_; rintro e w8 ⟨v, rfl, ⟨m, hv, om⟩, hf, ho⟩; obtain ⟨mx, my, rfl⟩ := OwnB.nilShape om; have HV9 := hid hv; have HF8 := hid hf; have HO8 := hid ho; clear om hv hf ho)
          | (show wpList _ _ _ (Oper.mk none (.store 29 (.tmp 26) (.tmp 128)) _ _ _ _ :: _) _ _; refine (Row.new' w8 _ frZ 29 _ rfl rfl).wpStore' 29 (.tmp 26) (.tmp 128) (frC 7 3 (tok peer) (nonceOf own 3) (.slice mx 0 my) true) rfl rfl rfl HV9.out rfl (frC_one _ _ _ _ _ _ _ _) i29 ?_; intro w9 HZ9))
        have HB9 : Hid (Below w8.heap.size w8 w9) := by show Below _ _ _; rw [HZ9.out]; exact below_put _ _ _
        have HR9 : Hid (Row w9 w8.heap.size (frC 7 3 (tok peer) (nonceOf own 3) (.slice mx 0 my) true) 29) := by show Row _ _ _ _; rw [HZ9.out]; exact (Row.new' w8 _ frZ 29 _ rfl rfl).row _
        have HGa := hid ((HO8.out.row HG7.out (by have := HGP.out; omega)).kept HB9.out (HO8.out.row HG7.out (by have := HGP.out; omega)).lt)
        have HBz := hid ((HBs.out.trans (HO8.out.below HBs.out.size (Nat.le_refl _))).trans (HB9.out.mono (Nat.le_trans HBs.out.size HO8.out.size)))
        have HSM := hid (same_eq (w := w9) 7 3 (tok peer) (nonceOf own 3) true (a := ma) (b := mx) (c := mc) (d := my) (bytes_nil' _ _) (bytes_nil' _ _))
        go_wp2_with (first
          | (show wpList _ _ _ (Oper.mk (some 132) (.load 29 (.tmp 13)) _ _ _ _ :: _) _ _; refine Row.wpLoadB HGa.out 29 (.tmp 13) (j := 1) (b := true) rfl rfl rfl rfl _ Tryd.underlying29 rfl i29 ?_)
          | (show wpList _ _ _ (Oper.mk (some 133) (.load 29 (.tmp 26)) _ _ _ _ :: _) _ _; refine Row.wpLoadB HR9.out 29 (.tmp 26) (j := 1) (b := true) rfl rfl rfl rfl _ Tryd.underlying29 rfl i29 ?_)
          | (go_at_call 12; refine Calls.mono HSM.out ?_; rintro e wf ⟨rfl, hbf⟩; have HBF := hid hbf; clear hbf))
        go_ret
        exact ⟨rfl, HBz.out.trans (HBF.out.mono HBz.out.size)⟩
  · go_upto_region 7 with (go_at_call 9; refine (new_side 0 0 q own peer ret rfl).mono ?_; rintro e w1 ⟨rfl, hf1, hb1⟩; rw [HF0.out] at hf1; have HF1 := hid hf1; have HB1 := hid hb1; clear hf1 hb1)
    rw [hN0]
    clear hN0
    go_upto_region 8 with (first
      | (go_at_call 10; refine (start_yes HF1.out rfl rfl HPE.out (HK.out.kept HB1.out) H2.out N0 true).mono ?_; rintro e w2 ⟨v, rfl, ⟨m, hv, om⟩, hf, ho⟩; obtain ⟨ma, mc, rfl⟩ := OwnB.nilShape om; have HV3 := hid hv; have HF2 := hid hf; have HO2 := hid ho; clear om hv hf ho)
      | (show wpList _ _ _ (Oper.mk none (.store 29 (.tmp 13) (.tmp 42)) _ _ _ _ :: _) _ _; refine (Row.new' w2 _ frZ 29 _ rfl rfl).wpStore' 29 (.tmp 13) (.tmp 42) (frC 7 q (tok peer) (nonceOf own q) (.slice ma 0 mc) true) rfl rfl rfl HV3.out rfl (frC_one _ _ _ _ _ _ _ _) i29 ?_; intro w3 HZ3))
    have HB3 : Hid (Below w2.heap.size w2 w3) := by show Below _ _ _; rw [HZ3.out]; exact below_put _ _ _
    have HR3 : Hid (Row w3 w2.heap.size (frC 7 q (tok peer) (nonceOf own q) (.slice ma 0 mc) true) 29) := by show Row _ _ _ _; rw [HZ3.out]; exact (Row.new' w2 _ frZ 29 _ rfl rfl).row _
    have HF3 := hid (HF2.out.kept HB3.out)
    have HBa : Hid (Below w.heap.size w w3) := (HB1.out.trans (HO2.out.below HB1.out.size (Nat.le_refl _))).trans (HB3.out.mono (Nat.le_trans HB1.out.size HO2.out.size))
    have HGP : Hid (w.heap.size < w2.heap.size) := Row.lt HF2.out
    have HGL : Hid (w2.heap.size < w3.heap.size) := Row.lt HR3.out
    clear HZ3 HB3 HF2 HB1 HF1 HF0 HO2 HV3
    generalize w2.heap.size = g at *
    go_wp2_with (fail)
    go_loopw [12, 15, 16] (fun v12 v15 v16 wr => TrI w w.heap.size g (⟨0, q, own, peer, Rn, 1, true, 0#32, 0, N0⟩ : Hf) (frC 7 q (tok peer) (nonceOf own q) (.slice ma 0 mc) true) N0 Rn v12 v15 v16 wr) (fun _ _ v16 _ => 17 - (intOf v16).toNat)
    case atStart =>
      exact ⟨0, N0, 1000, Nat.zero_le _, by omega, rfl, rfl, rfl, rfl, HF3.out, HR3.out, HBa.out⟩
    case round =>
      obtain ⟨kk, nw, wt, hk, hnw, hwt, rfl, rfl, rfl, hf, hg, hb⟩ := hrel
      have HFr := hid hf
      have HGr := hid hg
      have HBr := hid hb
      have HWT := hid hwt
      have HNW := hid hnw
      clear hf hg hb
      have hwg := wt_ge kk
      rw [← hwt] at hwg
      have hN1 := HN.out
      have hR2 := HRR.out.2
      obtain ⟨S, hS⟩ : ∃ S : Nat, S = nw + wt := ⟨_, rfl⟩
      obtain ⟨S1, hS1⟩ : ∃ S1 : Nat, S1 = S - 1 := ⟨_, rfl⟩
      have a1 : (nw : Int) + (wt : Int) = (S : Int) := by omega
      have a2 : (S : Int) - 1 = (S1 : Int) := by omega
      have a3 : IntKind.u64.wrap (S : Int) = (S : Int) := by rw [IntKind.wrap_u64]; omega
      have a4 : IntKind.u64.wrap (S1 : Int) = (S1 : Int) := by rw [IntKind.wrap_u64]; omega
      have HSB := hid (show S < 18446744073709551616 ∧ S1 < 18446744073709551616 by omega)
      have HE1 := hid (show ¬ ((⟨0, q, own, peer, Rn, 1, true, 0#32, kk, nw⟩ : Hf).waits = true ∧ nw ≤ S1 ∧ Nat.min (1000 * 2 ^ kk) 60000 ≤ S1 - nw) by rintro ⟨_, _, hc⟩; omega)
      have HE2 := hid (show nw ≤ S ∧ Nat.min (1000 * 2 ^ kk) 60000 ≤ S - nw by omega)
      have HKK := hid (show kk ≤ 16 by omega)
      by_cases hlt : kk < Rn
      · have hlt2 : (kk : Int) < (Rn : Int) := by omega
        have HKR := hid hlt
        have hk16 : (kk : Int) ≤ 16 := by omega
        have hw6 : (wt : Int) ≤ 60000 := by omega
        clear hlt hk hnw hwt hwg hN1 hR2 hS hS1
        go_upto_region 16 with (first
          | (go_at_call_of 11 (Value.int IntKind.u64 (S1 : Int)); refine (tick_early HFr.out HKK.out S1 HSB.out.2 HE1.out).mono ?_; rintro e w4 ⟨v, rfl, ⟨m, hv, om⟩, hf, ho⟩; obtain ⟨mb, md, rfl⟩ := OwnB.nilShape om; have HV5 := hid hv; have HF4 := hid hf; have HO4 := hid ho; clear om hv hf ho)
          | (show wpList _ _ _ (Oper.mk none (.store 29 (.tmp 17) (.tmp 60)) _ _ _ _ :: _) _ _; refine (Row.new' w4 _ frZ 29 _ rfl rfl).wpStore' 29 (.tmp 17) (.tmp 60) (frC 0 0 0#32 0#32 (.slice mb 0 md) false) rfl rfl rfl HV5.out rfl (frC_one _ _ _ _ _ _ _ _) i29 ?_; intro w5 HZ5)
          | (go_at_call_of 11 (Value.int IntKind.u64 (S : Int))
             have b4 : Below w.heap.size w w4 := HBr.out.trans (HO4.out.below HBr.out.size (Nat.le_refl _))
             have b45 : Below w4.heap.size w4 w5 := by rw [HZ5.out]; exact below_put _ _ _
             have HB5 := hid (b4.trans (b45.mono b4.size))
             have HG5 := hid ((HO4.out.row HGr.out (by have := HGP.out; omega)).kept b45 (HO4.out.row HGr.out (by have := HGP.out; omega)).lt)
             have HF5 := hid (HF4.out.kept b45)
             clear b4 b45
             refine (tick_again HF5.out HKK.out S HSB.out.1 rfl HE2.out.1 HE2.out.2 (by have := HKR.out; show ¬ (kk : Int) = (Rn : Int); omega) HPE.out (HK.out.kept HB5.out) H2.out).mono ?_; rintro e w6 ⟨v, rfl, ⟨m, hv, om⟩, hf, ho⟩; obtain ⟨mx, my, rfl⟩ := OwnB.nilShape om; have HV7 := hid hv; have HF6 := hid hf; have HO6 := hid ho; clear om hv hf ho)
          | (show wpList _ _ _ (Oper.mk none (.store 29 (.tmp 19) (.tmp 68)) _ _ _ _ :: _) _ _; refine (Row.new' w6 _ frZ 29 _ rfl rfl).wpStore' 29 (.tmp 19) (.tmp 68) (frC 7 q (tok peer) (nonceOf own q) (.slice mx 0 my) true) rfl rfl rfl HV7.out rfl (frC_one _ _ _ _ _ _ _ _) i29 ?_; intro w7 HZ7))
        have HB7 : Hid (Below w6.heap.size w6 w7) := by show Below _ _ _; rw [HZ7.out]; exact below_put _ _ _
        have HR7 : Hid (Row w7 w6.heap.size (frC 7 q (tok peer) (nonceOf own q) (.slice mx 0 my) true) 29) := by show Row _ _ _ _; rw [HZ7.out]; exact (Row.new' w6 _ frZ 29 _ rfl rfl).row _
        have HF7 := hid (HF6.out.kept HB7.out)
        have HG7 := hid ((HO6.out.row HG5.out (by have := HGP.out; omega)).kept HB7.out (HO6.out.row HG5.out (by have := HGP.out; omega)).lt)
        have HBs := hid ((HB5.out.trans (HO6.out.below HB5.out.size (Nat.le_refl _))).trans (HB7.out.mono (Nat.le_trans HB5.out.size HO6.out.size)))
        have HST := hid (state_any HF7.out)
        clear HZ7 HZ5 HV5 HV7 HF4 HF5 HF6 HG5 HO4 HO6 HB5 HFr HGr HBr HB7
        have HSM := hid (same_eq (w := w7) 7 q (tok peer) (nonceOf own q) true (a := ma) (b := mx) (c := mc) (d := my) (bytes_nil' _ _) (bytes_nil' _ _))
        obtain ⟨W2, hW2⟩ : ∃ W2 : Nat, W2 = 2 * wt := ⟨_, rfl⟩
        have a5 : 2 * (wt : Int) = (W2 : Int) := by omega
        have a6 : IntKind.u64.wrap (W2 : Int) = (W2 : Int) := by rw [IntKind.wrap_u64]; omega
        have HW2 := hid hW2
        clear hW2
        go_wp2_with (first
          | (show wpList _ _ _ (Oper.mk (some 76) (.load 29 (.tmp 13)) _ _ _ _ :: _) _ _; refine Row.wpLoadB HG7.out 29 (.tmp 13) (j := 5) (b := false) rfl rfl rfl rfl _ Tryd.underlying29 rfl i29 ?_)
          | (show wpList _ _ _ (Oper.mk (some 77) (.load 29 (.tmp 19)) _ _ _ _ :: _) _ _; refine Row.wpLoadB HR7.out 29 (.tmp 19) (j := 5) (b := false) rfl rfl rfl rfl _ Tryd.underlying29 rfl i29 ?_)
          | (go_at_call 12; refine Calls.mono HSM.out ?_; rintro e w8 ⟨rfl, hb8⟩; have HB8 := hid hb8; have HF8 := hid (HF7.out.kept hb8); clear hb8)
          | (go_at_call 13; refine (state_any HF8.out).mono ?_; rintro e w9 ⟨rfl, rfl⟩))
        go_roundw
        case rel =>
          refine ⟨kk + 1, S, Nat.min (2 * wt) 60000, HKR.out, ?_, ?_, by go_num, rfl, ?_, HF8.out, HG7.out.kept HB8.out HG7.out.lt, HBs.out.trans (HB8.out.mono HBs.out.size)⟩
          · have h1 := HNW.out
            have h2 := HWT.out
            have h3 := wt_ge kk
            omega
          · rw [HWT.out]; exact wt_next kk
          · show Value.int .u64 (min (W2 : Int) 60000) = Value.int .u64 ((Nat.min (2 * wt) 60000 : Nat) : Int)
            have h1 := HW2.out
            congr 1
            show min (W2 : Int) 60000 = ((min (2 * wt) 60000 : Nat) : Int)
            omega
        case measure => simp [intOf]; have := HKK.out; omega
      · have hge : ¬ (kk : Int) < (Rn : Int) := by omega
        have HKR := hid (show kk = Rn by omega)
        clear hlt hk hnw hwt hwg hN1 hR2 hS hS1
        go_upto_region 23 with (first
          | (go_at_call_of 11 (Value.int IntKind.u64 (S1 : Int)); refine (tick_early HFr.out HKK.out S1 HSB.out.2 HE1.out).mono ?_; rintro e w4 ⟨v, rfl, ⟨m, hv, om⟩, hf, ho⟩; obtain ⟨mb, md, rfl⟩ := OwnB.nilShape om; have HV5 := hid hv; have HF4 := hid hf; have HO4 := hid ho; clear om hv hf ho
             have b4 : Below w.heap.size w w4 := HBr.out.trans (HO4.out.below HBr.out.size (Nat.le_refl _))
             have HB4 := hid b4
             have HG4 := hid (HO4.out.row HGr.out (by have := HGP.out; omega))
             clear b4)
          | (show wpList _ _ _ (Oper.mk none (.store 29 (.tmp 21) (.tmp 99)) _ _ _ _ :: _) _ _; refine (Row.new' w4 _ frZ 29 _ rfl rfl).wpStore' 29 (.tmp 21) (.tmp 99) (frC 0 0 0#32 0#32 (.slice mb 0 md) false) rfl rfl rfl HV5.out rfl (frC_one _ _ _ _ _ _ _ _) i29 ?_; intro w5 HZ5)
          | (go_at_call 13
             have b45 : Below w4.heap.size w4 w5 := by rw [HZ5.out]; exact below_put _ _ _
             have HB5 := hid (HB4.out.trans (b45.mono HB4.out.size))
             have HG5 := hid (HG4.out.kept b45 HG4.out.lt)
             have HF5 := hid (HF4.out.kept b45)
             clear b45
             refine (state_any HF5.out).mono ?_; rintro e wq ⟨rfl, hwq⟩; subst hwq)
          | (go_at_call_of 11 (Value.int IntKind.u64 (S : Int)); refine (tick_end HF5.out HKK.out S HSB.out.1 rfl HE2.out.1 HE2.out.2 (by have := HKR.out; show (kk : Int) = (Rn : Int); omega)).mono ?_; rintro e w6 ⟨v, rfl, ⟨m, hv, om⟩, hf, ho⟩; obtain ⟨mf, me, rfl⟩ := OwnB.nilShape om; have HV7 := hid hv; have HF6 := hid hf; have HO6 := hid ho; clear om hv hf ho)
          | (show wpList _ _ _ (Oper.mk none (.store 29 (.tmp 24) (.tmp 109)) _ _ _ _ :: _) _ _; refine (Row.new' w6 _ frZ 29 _ rfl rfl).wpStore' 29 (.tmp 24) (.tmp 109) (frC 0 0 0#32 0#32 (.slice mf 0 me) false) rfl rfl rfl HV7.out rfl (frC_one _ _ _ _ _ _ _ _) i29 ?_; intro w7 HZ7))
        have HB7 : Hid (Below w6.heap.size w6 w7) := by show Below _ _ _; rw [HZ7.out]; exact below_put _ _ _
        have HR7 : Hid (Row w7 w6.heap.size (frC 0 0 0#32 0#32 (.slice mf 0 me) false) 29) := by show Row _ _ _ _; rw [HZ7.out]; exact (Row.new' w6 _ frZ 29 _ rfl rfl).row _
        have HF7 := hid (HF6.out.kept HB7.out)
        have HG7 := hid ((HO6.out.row HG5.out (by have := HGP.out; omega)).kept HB7.out (HO6.out.row HG5.out (by have := HGP.out; omega)).lt)
        have HBs := hid ((HB5.out.trans (HO6.out.below HB5.out.size (Nat.le_refl _))).trans (HB7.out.mono (Nat.le_trans HB5.out.size HO6.out.size)))
        clear HZ7 HZ5 HV5 HV7 HF4 HF5 HF6 HG5 HO4 HO6 HB5 HFr HGr HBr HB7 HB4 HG4
        go_upto_region 26 with (first
          | (go_at_call 13; refine (state_any HF7.out).mono ?_; rintro e wq ⟨rfl, hwq⟩; subst hwq)
          | (go_at_call 10; refine (start_yes HF7.out rfl rfl HPE.out (HK.out.kept HBs.out) H2.out nw true).mono ?_; rintro e w8 ⟨v, rfl, ⟨m, hv, om⟩, hf, ho⟩; obtain ⟨mx, my, rfl⟩ := OwnB.nilShape om; have HV9 := hid hv; have HF8 := hid hf; have HO8 := hid ho; clear om hv hf ho)
          | (show wpList _ _ _ (Oper.mk none (.store 29 (.tmp 26) (.tmp 128)) _ _ _ _ :: _) _ _; refine (Row.new' w8 _ frZ 29 _ rfl rfl).wpStore' 29 (.tmp 26) (.tmp 128) (frC 7 q (tok peer) (nonceOf own q) (.slice mx 0 my) true) rfl rfl rfl HV9.out rfl (frC_one _ _ _ _ _ _ _ _) i29 ?_; intro w9 HZ9))
        have HB9 : Hid (Below w8.heap.size w8 w9) := by show Below _ _ _; rw [HZ9.out]; exact below_put _ _ _
        have HR9 : Hid (Row w9 w8.heap.size (frC 7 q (tok peer) (nonceOf own q) (.slice mx 0 my) true) 29) := by show Row _ _ _ _; rw [HZ9.out]; exact (Row.new' w8 _ frZ 29 _ rfl rfl).row _
        have HGa := hid ((HO8.out.row HG7.out (by have := HGP.out; omega)).kept HB9.out (HO8.out.row HG7.out (by have := HGP.out; omega)).lt)
        have HBz := hid ((HBs.out.trans (HO8.out.below HBs.out.size (Nat.le_refl _))).trans (HB9.out.mono (Nat.le_trans HBs.out.size HO8.out.size)))
        have HSM := hid (same_eq (w := w9) 7 q (tok peer) (nonceOf own q) true (a := ma) (b := mx) (c := mc) (d := my) (bytes_nil' _ _) (bytes_nil' _ _))
        go_wp2_with (first
          | (show wpList _ _ _ (Oper.mk (some 132) (.load 29 (.tmp 13)) _ _ _ _ :: _) _ _; refine Row.wpLoadB HGa.out 29 (.tmp 13) (j := 1) (b := true) rfl rfl rfl rfl _ Tryd.underlying29 rfl i29 ?_)
          | (show wpList _ _ _ (Oper.mk (some 133) (.load 29 (.tmp 26)) _ _ _ _ :: _) _ _; refine Row.wpLoadB HR9.out 29 (.tmp 26) (j := 1) (b := true) rfl rfl rfl rfl _ Tryd.underlying29 rfl i29 ?_)
          | (go_at_call 12; refine Calls.mono HSM.out ?_; rintro e wf ⟨rfl, hbf⟩; have HBF := hid hbf; clear hbf))
        go_ret
        exact ⟨rfl, HBz.out.trans (HBF.out.mono HBz.out.size)⟩
/-- A Half that hears nothing tries again as often as it may. -/
theorem tries_any {w : World} (path : Int) (own peer : Nat) (ret : Int) (t : Nat) (hpe : peer < 18446744073709551616) (hK : KTab w) (h2 : 1 ≤ w.heap.size) :
    Calls Tryd.prog 3 #[.int .i64 path, .int .u64 (own : Int), .int .u64 (peer : Int), .int .i64 ret, .int .u64 (t : Int)] w fun e w' => e = .returned (.bool true) ∧ Below w.heap.size w w' := by
  by_cases hp : path = 0
  · exact tries_core path 3 (.inl ⟨hp, rfl⟩) own peer ret t hpe hK h2
  · exact tries_core path path (.inr ⟨hp, rfl⟩) own peer ret t hpe hK h2
end Go.Proofs.YtjpllcliehgnfaaDoor
