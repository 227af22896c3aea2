import Derived.Test.YtfhjiggaacgncaaDoorJo3
import Derived.Test.YtfhjiggaacgncaaDoorJs4
namespace Go.Proofs.YtfhjiggaacgncaaDoor
open Go.RowKit Go.Maps Go.Sort
set_option maxRecDepth 100000

/-- Bytes that were handed in. -/
structure Wt where
  a : Option Addr
  cap : Nat
  bs : List (BitVec 8)
structure Wt.Ok (w : World) (x : Wt) : Prop where
  by_ : BytesAt w x.a x.bs
  lc : x.bs.length ≤ x.cap
  nm : x.bs.length ≤ 140737488355328
  cm : x.cap ≤ maxLen
  z : x.a = none → x.cap = 0
def WtsAt (w : World) (a : Option Addr) (Ws : List Wt) : Prop := ∀ k (h : k < Ws.length), ∃ g o, a = some ⟨g, o, none⟩ ∧ w.cell? ⟨g, o + k, none⟩ = some (.slice Ws[k].a Ws[k].bs.length Ws[k].cap) ∧ Ws[k].Ok w
theorem step_storeB {o : Oper} {a : Act} {w : World} {K : Act → World → Prop} {Q : Exit → Act → World → Prop} {x y : Operand} {b k : Nat} {av : Option Addr} {n c : Nat} {old : Value} (ho : o.op = .store 44 x y) (hx : a.eval x = .pointer (some ⟨b, k, none⟩)) (hy : a.eval y = .slice av n c) (hc : w.cell? ⟨b, k, none⟩ = some old) (hf : w.frozen? ⟨b, k, none⟩ = false)
    (h : K (a.put o.dst undef) (w.setCell ⟨b, k, none⟩ (.slice av n c))) : Oper.wp Tryd.prog o a w K Q := by
  have e : (execOp a.eval o).run Tryd.prog w = .ok .skip (w.setCell ⟨b, k, none⟩ (.slice av n c)) := by
    generalize a.eval = r at *
    simp [execOp, ho, hx, hy, hc, hf, go_sem]
  unfold Oper.wp
  rw [e]
  exact h
theorem min2 (w : World) (ts : Array TypeId) (t : TypeId) (m n : Nat) (h : min m 500 = n) : (Builtin.min_ ts t #[.int .i64 (m : Int), .int .i64 500]).run Tryd.prog w = .ok (.int .i64 (n : Int)) w := by
  rw [run_min_int2]
  congr 2
  congr 1
  split <;> omega
set_option maxHeartbeats 8000000 in
theorem own_law {w : World} {a : Option Addr} {Ws : List Wt} (c : Nat) (hW : WtsAt w a Ws) (hl : Ws.length ≤ 140737488355328) (hT : CrcTab w) : Calls Tryd.prog 6 #[.slice a Ws.length c] w fun e w' => e = .returned (.bool true) ∧ Below w.heap.size w w' := by
  have HA := hid (awake_any hT)
  have HO := hid hW
  have HT := hid hT
  have hli : (Ws.length : Int) ≤ 140737488355328 := by omega
  clear hW hT hl
  go_enter Tryd.func6, Tryd.ntmps6
  go_upto_region 3 with (go_at_call 13; refine HA.out.mono ?_; rintro e w1 ⟨rfl, hb1⟩; have HB1 := hid hb1; clear hb1)
  have hN := newDisk_ok w1 65536 (by decide) (by decide)
  rw [show ((65536 : Nat) : Int) = 65536 from rfl] at hN
  have HN := hid hN
  clear HA hN
  go_upto_region 6 with (go_at_call 8; refine HN.out.mono ?_; rintro e w2 ⟨p, D, rfl, hD, hb, hmem, hS, hN2, hW, -⟩; have HO2 := hid (new_open hD hS hN2 hW (by decide) (by decide) (HT.out.kept (below_two HB1.out hb (Nat.le_refl _)))); have HB2 := hid (below_two HB1.out hb (Nat.le_refl _)); have HM2 := hid hmem; clear hD hb hmem hS hN2 hW)
  clear HN
  go_upto_region 7 with (go_at_call 9; refine HO2.out.mono ?_; rintro e w3 ⟨q, M3, rfl, hS3, hT3⟩; have HS3 := hid hS3; have HT3 := hid hT3; clear hS3 hT3)
  clear HO2
  have HGE : Hid ((∀ x, M3 x → w.heap.size ≤ x) ∧ Below w.heap.size w w3) := by
    have h1 : ∀ x, D.Mem p x → w.heap.size ≤ x := fun x e => Nat.le_trans HB1.out.size (HM2.out x e)
    refine ⟨fun x e => ?_, HB2.out.trans (HT3.out.fr.below h1 HB2.out.size)⟩
    rcases HT3.out.new x e with e' | e'
    · exact h1 x e'
    · exact Nat.le_trans HB2.out.size e'
  have HC0 := hid (cr_new HGE.out.2 HS3.out HGE.out.1)
  clear HM2 HT3 HB1 HB2 HGE HS3
  go_upto_region 10 with fail
  revert HC0
  generalize w3.alloc (.cells #[.slice none 0 0, .slice none 0 0] 46) = w5
  generalize w3.heap.size = b
  intro HC0
  go_wp2_with fail
  go_loopw [34] (fun s34 wr => ∃ (k : Nat) (P : Rcs), k ≤ Ws.length ∧ k ≤ 40 ∧ s34 = .int .i64 k ∧ Hid (P.length = k ∧ (enc 0 P).length ≤ k * 518) ∧ Hid (CrS w wr p q 65536 b P P 0 [])) (fun s _ => Ws.length + 1 - (intOf s).toNat)
  case atStart => exact ⟨0, [], Nat.zero_le _, Nat.zero_le _, rfl, ⟨rfl, by simp [enc]⟩, HC0.out⟩
  case round =>
    obtain ⟨k, P, hk, hk40, rfl, HK, HS⟩ := hrel
    clear HC0
    have HFIN : Hid (Calls Tryd.prog 25 #[pt p 0, pt q 0, pt b 0] wr fun e w' => e = .returned (.bool true) ∧ Below wr.heap.size wr w') := owned_law HS.out (by rw [HK.out.1]; exact hk40)
    by_cases hlt : k < Ws.length
    · have hkI : (k : Int) < (Ws.length : Int) := by omega
      obtain ⟨gO, oO, rfl, hcs, hok⟩ := HO.out k hlt
      have k0 := cell_kept HS.out.be hcs
      have HOK : Hid (Ws[k].Ok w) := hok
      clear hcs hok
      obtain ⟨da, dc, ds, hds⟩ : ∃ da dc ds, Ws[k] = ⟨da, dc, ds⟩ := ⟨_, _, _, rfl⟩
      rw [hds] at k0 HOK
      simp only at k0
      clear hds
      obtain ⟨m, hm⟩ : ∃ m, ds.length = m := ⟨_, rfl⟩
      have HM := hid hm
      rw [hm] at k0
      obtain ⟨n, hn⟩ : ∃ n, min m 500 = n := ⟨_, rfl⟩
      have hmin : ∀ (ts : Array TypeId) (t : TypeId) (W : World), (Builtin.min_ ts t #[.int .i64 (m : Int), .int .i64 500]).run Tryd.prog W = .ok (.int .i64 (n : Int)) W := fun ts t W => min2 W ts t m n hn
      have HNM : Hid (n ≤ m ∧ n ≤ 500) := ⟨by omega, by omega⟩
      have HLC : Hid (m ≤ dc) := by
        have h : ds.length ≤ dc := HOK.out.lc
        show m ≤ dc
        omega
      have HBY : Hid (BytesAt w da ds) := HOK.out.by_
      clear hm hn
      by_cases hk4 : k < 40
      · have hk4I : (k : Int) < 40 := by omega
        have hk4J : decide ((40 : Int) ≤ (k : Int)) = false := decide_eq_false (by omega)
        have hndc : (n : Int) ≤ (dc : Int) := by have := HNM.out; have := HLC.out; omega
        have hndN : n ≤ dc := by omega
        have hE : mayE 65536 P 7#8 n = 0 := by
          unfold mayE
          have := HNM.out
          have := HK.out
          rw [if_neg (by decide), if_neg (by omega), if_neg (by omega)]
        have HTK : Hid (BytesAt w da (ds.take n)) := fun i hi => by
          rw [List.length_take] at hi
          obtain ⟨g, o, e, hc⟩ := HBY.out i (by omega)
          refine ⟨g, o, e, ?_⟩
          rw [List.getElem_take]
          exact hc
        have HTL : Hid ((ds.take n).length = n) := by
          show _ = _
          rw [List.length_take]
          have := HNM.out
          have := HM.out
          omega
        have hap := cr_append_ok (cp := dc) HS.out (by decide) (by decide) (HTK.out.kept HS.out.be) HTL.out HT.out hE
        rw [show ub 7#8 = 7 by decide, HK.out.1] at hap
        have HAP := hid hap
        have hkw : IntKind.u64.wrap (k : Int) = k := by rw [IntKind.wrap_u64]; omega
        clear hap hE HFIN
        go_upto_region 16 with (go_at_call 19; refine HAP.out.mono ?_; rintro e w7 ⟨rfl, hS7⟩; have HS7 := hid hS7; clear hS7)
        clear HAP HS k0 hmin
        have hbd : P.length ≤ 1048576 := by have := HK.out.1; omega
        obtain ⟨ka, kc, bv, ka', kc', w8, c0, hrun, hrw8, hK⟩ := cr_kinds HS7.out hbd 7#8
        rw [HK.out.1] at c0 hrun hrw8 hK
        rw [show ub 7#8 = 7 by decide] at hrun
        have HRN := hid hrun
        have HKK := hid hK
        have c8 := hrw8.cell 0 _ rfl
        have f8 := hrw8.frozen 0
        have hbs := bsl30
        clear hrun hK hrw8
        go_upto_region 17 with fail
        go_upto_region 18 with (at_builtin; refine wpList_append_by rfl (.tmp 61) (.tmp 62) 30 rfl rfl rfl HRN.out ?_)
        clear HRN c0 c8 f8 hbs HS7
        revert HKK
        generalize w8.setCell ⟨b, 0, none⟩ (.slice ka' (k + 1) kc') = w9
        intro HKK
        obtain ⟨ba, bc, kv, b1, hBD⟩ := cr_bodies HKK.out hbd
        rw [HK.out.1] at b1 hBD
        have HBD := hid hBD
        have HCP : Hid (∀ w1, Below w9.heap.size w9 w1 → Calls Tryd.prog 20 #[.slice da n dc] w1 fun e w' => ∃ v, e = .returned v ∧ (∃ xa xn xc, v = .slice xa xn xc ∧ OwnBy w' w9.heap.size v (ds.take n) ∧ Below w9.heap.size w9 w')) := fun w1 hb => (copy_any ((HTK.out.kept HKK.out.be).kept hb) HTL.out HOK.out.z (by have := HNM.out; omega)).mono (by
          rintro e w' ⟨v, rfl, h1, h2⟩
          obtain ⟨xa, xc, ex, -⟩ := own_len h1
          exact ⟨v, rfl, xa, _, xc, ex, own_less h1 hb.size, hb.trans (h2.mono hb.size)⟩)
        clear hBD hbd
        have hB0 : Below w9.heap.size w9 w9.drew := below_drewN (Below.refl _ _) 1
        refine wp_region_last (S := fun w' => w'.cell? ⟨b, 1, none⟩ = some (.slice ba k bc)) (N := 9) (by kernel_rfl) (by kernel_rfl) fun hNW => ?_
        have hHeld := (show (fun w' => w'.cell? ⟨b, 1, none⟩ = some (.slice ba k bc)) w9.drew from cell_kept hB0 b1)
        refine wpAnyF_take (i := 0) (oi := { dst := some 65, op := Go.Op.fieldAddr 46 (Go.Operand.tmp 7) 1, type := 0, pos := "own.go:166", after := #[], guard := none }) (v := ?v401_0) hNW (by decide) rfl (by kernel_rfl) (by kernel_rfl) (by kernel_rfl) (by kernel_rfl) (fun _ _ _ h => h) (Or.inl ⟨by kernel_rfl, ?h401_0⟩) (by assumption) ?r401_0
        case h401_0 => (intro wt hSw; (try dsimp only at hSw); go_simp; try with_reducible rfl)
        simp only [Act.put, List.setIfInBounds_toArray, List.set_cons_zero, List.set_cons_succ]
        refine wpAnyF_take (i := 1) (oi := { dst := some 66, op := Go.Op.load 44 (Go.Operand.tmp 65), type := 44, pos := "own.go:166", after := #[{ on := 0, ground := Go.Ground.data }], guard := none }) (v := ?v401_1) hNW (by decide) rfl (by kernel_rfl) (by kernel_rfl) (by kernel_rfl) (by kernel_rfl) (fun _ _ _ h => h) (Or.inl ⟨by kernel_rfl, ?h401_1⟩) (by assumption) ?r401_1
        case h401_1 => (intro wt hSw; (try dsimp only at hSw); go_simp; try with_reducible rfl)
        simp only [Act.put, List.setIfInBounds_toArray, List.set_cons_zero, List.set_cons_succ]
        refine wpAnyF_take (i := 2) (oi := { dst := some 67, op := Go.Op.move (Go.Operand.tmp 9), type := 30, pos := "own.go:166", after := #[], guard := none }) (v := ?v401_2) hNW (by decide) rfl (by kernel_rfl) (by kernel_rfl) (by kernel_rfl) (by kernel_rfl) (fun _ _ _ h => h) (Or.inl ⟨by kernel_rfl, ?h401_2⟩) (by assumption) ?r401_2
        case h401_2 => (intro wt hSw; (try dsimp only at hSw); go_simp; try with_reducible rfl)
        simp only [Act.put, List.setIfInBounds_toArray, List.set_cons_zero, List.set_cons_succ]
        refine wpAnyF_take (i := 3) (oi := { dst := some 68, op := Go.Op.move (Go.Operand.tmp 10), type := 3, pos := "own.go:166", after := #[], guard := none }) (v := ?v401_3) hNW (by decide) rfl (by kernel_rfl) (by kernel_rfl) (by kernel_rfl) (by kernel_rfl) (fun _ _ _ h => h) (Or.inl ⟨by kernel_rfl, ?h401_3⟩) (by assumption) ?r401_3
        case h401_3 => (intro wt hSw; (try dsimp only at hSw); go_simp; try with_reducible rfl)
        simp only [Act.put, List.setIfInBounds_toArray, List.set_cons_zero, List.set_cons_succ]
        refine wpAnyF_take (i := 4) (oi := { dst := some 69, op := Go.Op.slice 30 (Go.Operand.tmp 67) none (some (Go.Operand.tmp 68)) none, type := 30, pos := "own.go:166", after := #[{ on := 2, ground := Go.Ground.data }, { on := 3, ground := Go.Ground.data }], guard := none }) (v := ?v401_4) hNW (by decide) rfl (by kernel_rfl) (by kernel_rfl) (by kernel_rfl) (by kernel_rfl) (fun _ _ _ h => h) (Or.inl ⟨by kernel_rfl, ?h401_4⟩) (by assumption) ?r401_4
        case h401_4 => (intro wt hSw; (try dsimp only at hSw); go_simp; try with_reducible rfl)
        simp only [Act.put, List.setIfInBounds_toArray, List.set_cons_zero, List.set_cons_succ]
        refine wpAnyF_one (i := 5) (o := { dst := some 70, op := Go.Op.call { callee := Go.Callee.value (Go.Operand.func 20), args := #[Go.Operand.tmp 69], argTypes := #[30] }, type := 30, pos := "own.go:166", after := #[{ on := 4, ground := Go.Ground.data }], guard := none }) rfl rfl (by kernel_rfl) ?_
        refine step_callx (f := 20) (args := #[.slice da n dc]) (by first | kernel_rfl | go_simp) (HCP.out _ hB0) ?_
        rintro v4 w10 ⟨xa, xn, xc, rfl, hO10, hB10⟩
        obtain ⟨ba', bc', w12, hrun, hrw12, -, hS12⟩ := HBD.out w10 _ (ds.take n) hB10 hO10
        have HRUN := hid hrun
        have HS12 := hid hS12
        have c12 := hrw12.cell 1 _ rfl
        have f12 := hrw12.frozen 1
        clear hrun hS12 hrw12
        have hHeld10 := (show (fun w' => w'.cell? ⟨b, 1, none⟩ = some (.slice ba k bc)) w10 from cell_kept hB10 b1)
        refine ⟨fun _ => hHeld10, ?_⟩
        simp only [Act.put, List.setIfInBounds_toArray, List.set_cons_zero, List.set_cons_succ]
        refine wpAnyF_one (i := 6) (o := { dst := some 71, op := Go.Op.buildSlice 44 1 #[(0, Go.Operand.tmp 70)], type := 44, pos := "own.go:166", after := #[{ on := 5, ground := Go.Ground.data }], guard := none }) rfl rfl (by kernel_rfl) ?_
        refine step_val (v := .slice (some ⟨w10.heap.size, 0, none⟩) 1 1) (w' := w10.alloc (.cells #[.slice xa xn xc] 30)) (by first | kernel_rfl | go_simp) ?_
        have hB11 : Below w9.heap.size w9 (w10.alloc (.cells #[.slice xa xn xc] 30)) := below_two hB10 (below_new _ _) (Nat.le_refl _)
        have hHeld11 := (show (fun w' => w'.cell? ⟨b, 1, none⟩ = some (.slice ba k bc)) (w10.alloc (.cells #[.slice xa xn xc] 30)) from cell_kept hB11 b1)
        refine ⟨fun _ => hHeld11, ?_⟩
        simp only [Act.put, List.setIfInBounds_toArray, List.set_cons_zero, List.set_cons_succ]
        refine wpAnyF_one (i := 7) (o := { dst := some 72, op := Go.Op.call { callee := Go.Callee.builtin Go.Builtin.append, args := #[Go.Operand.tmp 66, Go.Operand.tmp 71], argTypes := #[44, 44] }, type := 44, pos := "own.go:166", after := #[{ on := 1, ground := Go.Ground.data }, { on := 6, ground := Go.Ground.data }, { on := 5, ground := Go.Ground.chain }], guard := none }) rfl rfl (by kernel_rfl) ?_
        refine wp_append_by (.tmp 66) (.tmp 71) 44 rfl rfl rfl HRUN.out ?_
        have hHeld12 := (show (fun w' => w'.cell? ⟨b, 1, none⟩ = some (.slice ba k bc)) w12 from c12)
        refine ⟨fun _ => hHeld12, ?_⟩
        simp only [Act.put, List.setIfInBounds_toArray, List.set_cons_zero, List.set_cons_succ]
        refine wpAnyF_take (i := 8) (oi := { dst := some 73, op := Go.Op.fieldAddr 46 (Go.Operand.tmp 7) 1, type := 0, pos := "own.go:166", after := #[{ on := 0, ground := Go.Ground.phase }, { on := 1, ground := Go.Ground.phase }, { on := 2, ground := Go.Ground.phase }, { on := 3, ground := Go.Ground.phase }, { on := 4, ground := Go.Ground.phase }, { on := 5, ground := Go.Ground.phase }, { on := 6, ground := Go.Ground.phase }, { on := 7, ground := Go.Ground.phase }], guard := none }) (v := ?v401_8) hNW (by decide) rfl (by kernel_rfl) (by kernel_rfl) (by kernel_rfl) (by kernel_rfl) (fun _ _ _ h => h) (Or.inl ⟨by kernel_rfl, ?h401_8⟩) (by assumption) ?r401_8
        case h401_8 => (intro wt hSw; (try dsimp only at hSw); go_simp; try with_reducible rfl)
        simp only [Act.put, List.setIfInBounds_toArray, List.set_cons_zero, List.set_cons_succ]
        refine wpAnyF_one (i := 9) (o := { dst := none, op := Go.Op.store 44 (Go.Operand.tmp 73) (Go.Operand.tmp 72), type := 0, pos := "own.go:166", after := #[{ on := 8, ground := Go.Ground.data }, { on := 7, ground := Go.Ground.data }, { on := 7, ground := Go.Ground.chain }, { on := 0, ground := Go.Ground.phase }, { on := 1, ground := Go.Ground.phase }, { on := 2, ground := Go.Ground.phase }, { on := 3, ground := Go.Ground.phase }, { on := 4, ground := Go.Ground.phase }, { on := 5, ground := Go.Ground.phase }, { on := 6, ground := Go.Ground.phase }, { on := 7, ground := Go.Ground.phase }], guard := none }) rfl rfl (by kernel_rfl) ?_
        refine step_storeB (b := b) (k := 1) (av := ba') (n := k + 1) (c := bc') rfl rfl rfl c12 f12 ?_
        refine ⟨fun h => absurd rfl h, ?_⟩
        simp only [Act.put]
        refine wpAnyF_done (by kernel_rfl) ?_ _
        clear hNW hHeld hHeld10 hHeld11 hHeld12 hB0 hB10 hB11 c12 f12 HRUN hO10
        clear HCP HBD HKK b1
        go_wp2_with fail
        go_roundw
        case rel =>
          refine ⟨k + 1, P ++ [(7#8, ds.take n)], hlt, hk4, by go_num, ⟨by simp [HK.out.1], ?_⟩, HS12.out⟩
          have h1 := HK.out.2
          have h2 := HTL.out
          have h3 := HNM.out.2
          rw [enc_len, List.map_append, List.sum_append, ← enc_len 0 P]
          simp only [List.map_cons, List.map_nil, List.sum_cons, List.sum_nil, h2]
          omega
        case measure => simp [intOf]; omega
      · obtain rfl : k = 40 := by omega
        have hk4J : decide ((40 : Int) ≤ ((40 : Nat) : Int)) = true := by decide
        have HB := hid HS.out.be
        clear HOK HK HS
        go_wp2_with (go_at_call 25; refine HFIN.out.mono ?_; rintro e w7 ⟨rfl, hb7⟩; have HB7 := hid (HB.out.trans (hb7.mono HB.out.size)); clear hb7)
        go_ret
        exact ⟨rfl, HB7.out⟩
    · obtain rfl : k = Ws.length := by omega
      have HB := hid HS.out.be
      clear HK HS
      go_wp2_with (go_at_call 25; refine HFIN.out.mono ?_; rintro e w7 ⟨rfl, hb7⟩; have HB7 := hid (HB.out.trans (hb7.mono HB.out.size)); clear hb7)
      go_ret
      exact ⟨rfl, HB7.out⟩
end Go.Proofs.YtfhjiggaacgncaaDoor
