import Derived.Test.YtfhjiggaacgncaaDoorCr1
import Derived.BigQuiet
import Derived.BigRegion
import Derived.Deep.CutBlock
namespace Go.Proofs.YtfhjiggaacgncaaDoor
open Go.RowKit Go.Maps Go.Sort
set_option maxRecDepth 100000

/-- A call of a script. -/
structure OpJ where
  kind : Int
  at_ : Int
  n : Int
  k : BitVec 8
  a : Option Addr
  bs : List (BitVec 8)
  cap : Nat
def OpJ.cells (o : OpJ) : List Value := [.int .i64 o.kind, .int .i64 o.at_, .int .i64 o.n, .int .u8 (ub o.k), .slice o.a o.bs.length o.cap]
def OpJ.Ok (w : World) (o : OpJ) : Prop := BytesAt w o.a o.bs ∧ (o.a = none → o.cap = 0)
def JOps (w : World) (a : Option Addr) (Os : List OpJ) : Prop := ∀ k (h : k < Os.length), ∃ g o, a = some ⟨g, o, none⟩ ∧ (∀ j v, Os[k].cells[j]? = some v → w.cell? ⟨g, o + k * 5 + j, none⟩ = some v) ∧ Os[k].Ok w
theorem wpAnyF_oneG {P : Program} {ops : Array Oper} {Q : Exit → Act → World → Prop} {md : Region.Mode} {S : World → Prop} {N : Nat} {i : Nat} {o : Oper} {fuel : Nat} {listed : Array Bool} {a : Act} {w : World} (ho : ops[i]? = some o) (hg : Region.wanted o (yielded ops a.tmps) = true) (hr : Region.ready md ops listed = [i]) (h : o.wp P a w (fun a' w' => (i ≠ N → S w') ∧ wpAnyF P md ops Q S N fuel (listed.setIfInBounds i true) a' w') Q) : wpAnyF P md ops Q S N (fuel + 1) listed a w := by
  refine ⟨fun h0 => (by rw [hr] at h0; cases h0), fun j hj => ?_⟩
  rw [hr, List.mem_singleton] at hj
  subst hj
  unfold wpOp
  simp only [ho]
  rw [if_pos hg]
  exact .inl h
theorem step_store44 {o : Oper} {a : Act} {w : World} {K : Act → World → Prop} {Q : Exit → Act → World → Prop} {x y : Operand} {b k : Nat} {av : Option Addr} {n c : Nat} {old : Value} (ho : o.op = .store 44 x y) (hx : a.eval x = .pointer (some ⟨b, k, none⟩)) (hy : a.eval y = .slice av n c) (hc : w.cell? ⟨b, k, none⟩ = some old) (hf : w.frozen? ⟨b, k, none⟩ = false)
    (h : K (a.put o.dst undef) (w.setCell ⟨b, k, none⟩ (.slice av n c))) : Oper.wp Tryd.prog o a w K Q := by
  have e : (execOp a.eval o).run Tryd.prog w = .ok .skip (w.setCell ⟨b, k, none⟩ (.slice av n c)) := by
    generalize a.eval = r at *
    simp [execOp, ho, hx, hy, hc, hf, go_sem]
  unfold Oper.wp
  rw [e]
  exact h
theorem toKr {f : FuncId} {args : Array Value} {w : World} {v : Value} (h : ∀ W, Below w.heap.size w W → Calls Tryd.prog f args W fun e w' => e = .returned v ∧ Below W.heap.size W w') : ∀ d os, Calls Tryd.prog f args (grow (redrawn w d) os) fun e w'' => e = .returned v ∧ ∃ p : Regrown, w'' = grow (redrawn w p.d) p.os := fun d os => Calls.regrown_of (h _ (below_regrown w d os))
theorem ub_zero_iff (k : BitVec 8) (h : ¬ k = 0#8) : (ub k == 0) = false := by
  rw [beq_eq_false_iff_ne]
  intro e
  apply h
  unfold ub at e
  have h2 : k.toNat = 0 := by omega
  exact BitVec.eq_of_toNat_eq (by simpa using h2)
theorem cr_fin {w0 w : World} {p q n b n2 np : Nat} {P P2 : Rcs} {X : List (Nat × List Value)} (h : CrS w0 w p q n b P2 P P2.length X) (h1 : P2 = P.take P2.length) (h2 : P2.length ≤ P.length) (h3 : P2.length = n2) (h4 : P.length = np) {ka ba : Option Addr} {kc bc : Nat} (hr : Row w b [.slice ka np kc, .slice ba np bc] 46) (m : Nat) :
    Hid (CrS w0 (((w.drewN m).setCell ⟨b, 0, none⟩ (.slice ka n2 kc)).setCell ⟨b, 1, none⟩ (.slice ba n2 bc)) p q n b P2 P2 n2 []) := by
  subst h3 h4
  exact (cr_cut (h.kept (below_drewN (Below.refl _ _) m)) h2 h1.symm (hr.drew m)).drop
set_option maxHeartbeats 16000000 in
theorem crash_law {w : World} (size : Int) {a : Option Addr} {Os : List OpJ} (c : Nat) (hO : JOps w a Os) (hl : Os.length ≤ 140737488355328) (hT : CrcTab w) : Calls Tryd.prog 5 #[.int .i64 size, .slice a Os.length c] w fun e w' => e = .returned (.bool true) ∧ Below w.heap.size w w' := by
  have HA := hid (awake_any hT)
  have HO := hid hO
  have HT := hid hT
  obtain ⟨U, hU⟩ : ∃ U, IntKind.u64.wrap size = U := ⟨_, rfl⟩
  have hU0 : 0 ≤ U := by rw [← hU, IntKind.wrap_u64]; omega
  obtain ⟨J, hJ, hJ2⟩ : ∃ J : Nat, U % 4096 = (J : Int) ∧ J ≤ 4095 := ⟨(U % 4096).toNat, by omega, by omega⟩
  obtain ⟨n, hn⟩ : ∃ n : Nat, 1 + J = n := ⟨_, rfl⟩
  have j1 : (1 : Int) + J = n := by omega
  have j2 : IntKind.i64.wrap (n : Int) = n := by rw [IntKind.wrap_i64]; omega
  have j3 : IntKind.i64.wrap (J : Int) = J := by rw [IntKind.wrap_i64]; omega
  have HN1 : Hid (1 ≤ n ∧ n ≤ 16777216) := ⟨by omega, by omega⟩
  have HNB : Hid (n ≤ 4096) := (show n ≤ 4096 by omega)
  have hli : (Os.length : Int) ≤ 140737488355328 := by omega
  clear hO hT hJ2 hn hl
  go_enter Tryd.func5, Tryd.ntmps5
  go_upto_region 3 with (go_at_call 13; refine HA.out.mono ?_; rintro e w1 ⟨rfl, hb1⟩; have HB1 := hid hb1; clear hb1)
  have HN := hid (newDisk_ok w1 n HN1.out.1 HN1.out.2)
  clear HA
  go_upto_region 6 with (go_at_call 8; refine HN.out.mono ?_; rintro e w2 ⟨p, D, rfl, hD, hb, hmem, hS, hN2, hW, -⟩; have HO2 := hid (new_open hD hS hN2 hW HN1.out.1 HN1.out.2 (HT.out.kept (below_two HB1.out hb (Nat.le_refl _)))); have HB2 := hid (below_two HB1.out hb (Nat.le_refl _)); have HM2 := hid hmem; clear hD hb hmem hS hN2 hW)
  clear HN
  go_upto_region 7 with (go_at_call 9; refine HO2.out.mono ?_; rintro e w3 ⟨q, M3, rfl, hS3, hT3⟩; have HS3 := hid hS3; have HT3 := hid hT3; clear hS3 hT3)
  clear HO2
  have HGE : Hid ((∀ x, M3 x → w.heap.size ≤ x) ∧ Below w.heap.size w w3) := by
    have h1 : ∀ x, D.Mem p x → w.heap.size ≤ x := fun x e => Nat.le_trans HB1.out.size (HM2.out x e)
    refine ⟨fun x e => ?_, HB2.out.trans (HT3.out.fr.below h1 HB2.out.size)⟩
    rcases HT3.out.new x e with e' | e'
    · exact h1 x e'
    · exact Nat.le_trans HB2.out.size e'
  have HC0 := hid (cr_new HGE.out.2 HS3.out HGE.out.1)
  have HLN := hid (st_len HS3.out)
  clear HM2 HT3 HB1 HB2 HGE HS3 j1 j2 j3 hJ hU hU0
  go_upto_region 9 with (go_at_call 15; refine HLN.out.mono ?_; rintro e w4 ⟨rfl, rfl⟩)
  clear HLN
  go_upto_region 11 with fail
  revert HC0
  generalize w4.alloc (.cells #[.slice none 0 0, .slice none 0 0] 46) = w5
  generalize w4.heap.size = b
  intro HC0
  go_wp2_with fail
  go_loopw [7, 9, 55] (fun s7 s9 s55 wr => ∃ (k q : Nat) (P : Rcs) (s : Nat), k ≤ Os.length ∧ s7 = pt q 0 ∧ s9 = .int .i64 (s : Nat) ∧ s55 = .int .i64 (k : Nat) ∧ Hid (CrS w wr p q n b P P s [])) (fun _ _ s _ => Os.length + 1 - (intOf s).toNat)
  case atStart => exact ⟨0, q, [], 0, Nat.zero_le _, rfl, rfl, rfl, HC0.out⟩
  case round =>
    obtain ⟨k, q, P, s, hk, rfl, rfl, rfl, HS⟩ := hrel
    clear HC0
    by_cases hlt : k < Os.length
    · have hkI : (k : Int) < (Os.length : Int) := by omega
      obtain ⟨gO, oO, rfl, hcs, hok⟩ := HO.out k hlt
      have k0 := cell_kept HS.out.be (hcs 0 _ rfl)
      have k1 := cell_kept HS.out.be (hcs 1 _ rfl)
      have k2 := cell_kept HS.out.be (hcs 2 _ rfl)
      have k3 := cell_kept HS.out.be (hcs 3 _ rfl)
      have k4 := cell_kept HS.out.be (hcs 4 _ rfl)
      have HOK : Hid (BytesAt w Os[k].a Os[k].bs ∧ (Os[k].a = none → Os[k].cap = 0)) := hok
      rw [Nat.add_zero] at k0
      clear hcs hok
      generalize Os[k].kind = kd at *
      generalize Os[k].at_ = tn at *
      generalize Os[k].n = kn at *
      generalize Os[k].k = rk at *
      generalize Os[k].a = da at *
      generalize Os[k].bs = ds at *
      generalize Os[k].cap = dc at *
      have HF := hid HS.out.few
      obtain ⟨m, hm⟩ : ∃ m, ds.length = m := ⟨_, rfl⟩
      rw [hm] at k4
      have HM := hid hm
      obtain ⟨np, hnp⟩ : ∃ np, P.length = np := ⟨_, rfl⟩
      have HNP := hid hnp
      have HS1 := hid (HS.out.box [.int .i64 kd, .int .i64 tn, .int .i64 kn, .int .u8 (ub rk), .slice da m dc])
      clear hm hnp
      go_upto_block 2 with fail
      revert HS1
      clear k0 k1 k2 k3 k4 HS
      show Hid (CrS w (wr.alloc (.cells #[.int .i64 kd, .int .i64 tn, .int .i64 kn, .int .u8 (ub rk), .slice da m dc] 48)) p q n b P P s [(wr.heap.size, [.int .i64 kd, .int .i64 tn, .int .i64 kn, .int .u8 (ub rk), .slice da m dc])]) → _
      generalize wr.alloc (.cells #[.int .i64 kd, .int .i64 tn, .int .i64 kn, .int .u8 (ub rk), .slice da m dc] 48) = w6
      generalize wr.heap.size = ob
      intro HS1
      have hrow := HS1.out.row (y := (ob, [.int .i64 kd, .int .i64 tn, .int .i64 kn, .int .u8 (ub rk), .slice da m dc])) (by simp)
      have q0 := hrow.cell 0 _ rfl
      have q1 := hrow.cell 1 _ rfl
      have q2 := hrow.cell 2 _ rfl
      have q3 := hrow.cell 3 _ rfl
      have q4 := hrow.cell 4 _ rfl
      clear hrow
      go_cut [7, 9, 12, 13, 14, 15, 16, 17, 18, 19] from 61 to 186 (fun s7 s9 _ _ _ _ _ _ _ _ wx => ∃ (q' s' : Nat) (P' : Rcs), s7 = pt q' 0 ∧ s9 = .int .i64 (s' : Nat) ∧ Hid (CrS w wx p q' n b P' P' s' []))
      case first =>
        by_cases h6 : kd = 6
        · subst h6
          by_cases hE : mayE n P rk m = 0
          · as_aux_lemma =>
              have HB6 : Hid (BytesAt w6 da ds) := HOK.out.1.kept HS1.out.be
              have HAP := hid (cr_append_ok (cp := dc) HS1.out HN1.out.1 HN1.out.2 HB6.out HM.out HT.out hE)
              rw [HNP.out] at HAP
              go_upto_region 17 with (go_at_call 19; refine HAP.out.mono ?_; rintro e w7 ⟨rfl, hS7⟩; have HS7 := hid hS7; clear hS7)
              clear HAP q0 q1 q2 q3 q4 HS1 HB6
              have hbd : P.length ≤ 1048576 := by have := HF.out; have := HNB.out; omega
              obtain ⟨ka, kc, bv, ka', kc', w8, c0, hrun, hrw8, hK⟩ := cr_kinds HS7.out hbd rk
              have hrw7 := HS7.out.row (y := (ob, [.int .i64 6, .int .i64 tn, .int .i64 kn, .int .u8 (ub rk), .slice da m dc])) (by simp)
              have o3 := hrw7.cell 3 _ rfl
              rw [HNP.out] at c0 hrun hrw8 hK
              have HRN := hid hrun
              have HK := hid hK
              have c8 := hrw8.cell 0 _ rfl
              have f8 := hrw8.frozen 0
              have j5 : IntKind.u64.wrap (np : Int) = np := by rw [IntKind.wrap_u64]; have := HNP.out; omega
              have hbs := bsl30
              clear hrun hK hrw8 hrw7
              go_upto_region 20 with fail
              go_upto_region 21 with (at_builtin; refine wpList_append_by rfl (.tmp 81) (.tmp 84) 30 rfl rfl rfl HRN.out ?_)
              clear HRN c0 c8 f8 o3 j5 hbs HS7
              revert HK
              generalize w8.setCell ⟨b, 0, none⟩ (.slice ka' (np + 1) kc') = w9
              intro HK
              obtain ⟨ba, bc, kv, b1, hBD⟩ := cr_bodies HK.out hbd
              rw [HNP.out] at b1 hBD
              have HBD := hid hBD
              have o4 := (HK.out.row (y := (ob, [.int .i64 6, .int .i64 tn, .int .i64 kn, .int .u8 (ub rk), .slice da m dc])) (by simp)).cell 4 _ rfl
              have hmE : m ≤ 65536 := by
                unfold mayE at hE
                split at hE
                · omega
                · split at hE
                  · omega
                  · omega
              have HCP : Hid (∀ w1, Below w9.heap.size w9 w1 → Calls Tryd.prog 20 #[.slice da m dc] w1 fun e w' => ∃ v, e = .returned v ∧ (∃ xa xn xc, v = .slice xa xn xc ∧ OwnBy w' w9.heap.size v ds ∧ Below w9.heap.size w9 w')) := fun w1 hb => (copy_any ((HOK.out.1.kept HK.out.be).kept hb) HM.out HOK.out.2 (by omega)).mono (by
                rintro e w' ⟨v, rfl, h1, h2⟩
                obtain ⟨xa, xc, ex, -⟩ := own_len h1
                exact ⟨v, rfl, xa, _, xc, ex, own_less h1 hb.size, hb.trans (h2.mono hb.size)⟩)
              clear hBD hE hmE hbd
              have hB0 : Below w9.heap.size w9 w9.drew := below_drewN (Below.refl _ _) 1
              refine wp_region_last (S := fun w' => w'.cell? ⟨b, 1, none⟩ = some (.slice ba np bc) ∧ w'.cell? ⟨ob, 4, none⟩ = some (.slice da m dc)) (N := 8) (by kernel_rfl) (by kernel_rfl) fun hNW => ?_
              have hHeld := (show (fun w' => w'.cell? ⟨b, 1, none⟩ = some (.slice ba np bc) ∧ w'.cell? ⟨ob, 4, none⟩ = some (.slice da m dc)) w9.drew from ⟨cell_kept hB0 b1, cell_kept hB0 o4⟩)
              refine wpAnyF_take (i := 0) (oi := { dst := some 87, op := Go.Op.fieldAddr 46 (Go.Operand.tmp 8) 1, type := 0, pos := "own.go:72", after := #[], guard := none }) (v := ?v101_0) hNW (by decide) rfl (by kernel_rfl) (by kernel_rfl) (by kernel_rfl) (by kernel_rfl) (fun _ _ _ h => h) (Or.inl ⟨by kernel_rfl, ?h101_0⟩) (by assumption) ?r101_0
              case h101_0 => (intro wt hSw; obtain ⟨hs0, hs1⟩ := hSw; go_simp; try with_reducible rfl)
              simp only [Act.put, List.setIfInBounds_toArray, List.set_cons_zero, List.set_cons_succ]
              refine wpAnyF_take (i := 1) (oi := { dst := some 88, op := Go.Op.load 44 (Go.Operand.tmp 87), type := 44, pos := "own.go:72", after := #[{ on := 0, ground := Go.Ground.data }], guard := none }) (v := ?v101_1) hNW (by decide) rfl (by kernel_rfl) (by kernel_rfl) (by kernel_rfl) (by kernel_rfl) (fun _ _ _ h => h) (Or.inl ⟨by kernel_rfl, ?h101_1⟩) (by assumption) ?r101_1
              case h101_1 => (intro wt hSw; obtain ⟨hs0, hs1⟩ := hSw; go_simp; try with_reducible rfl)
              simp only [Act.put, List.setIfInBounds_toArray, List.set_cons_zero, List.set_cons_succ]
              refine wpAnyF_take (i := 2) (oi := { dst := some 89, op := Go.Op.fieldAddr 48 (Go.Operand.tmp 11) 4, type := 0, pos := "own.go:72", after := #[], guard := none }) (v := ?v101_2) hNW (by decide) rfl (by kernel_rfl) (by kernel_rfl) (by kernel_rfl) (by kernel_rfl) (fun _ _ _ h => h) (Or.inl ⟨by kernel_rfl, ?h101_2⟩) (by assumption) ?r101_2
              case h101_2 => (intro wt hSw; obtain ⟨hs0, hs1⟩ := hSw; go_simp; try with_reducible rfl)
              simp only [Act.put, List.setIfInBounds_toArray, List.set_cons_zero, List.set_cons_succ]
              refine wpAnyF_take (i := 3) (oi := { dst := some 90, op := Go.Op.load 30 (Go.Operand.tmp 89), type := 30, pos := "own.go:72", after := #[{ on := 2, ground := Go.Ground.data }], guard := none }) (v := ?v101_3) hNW (by decide) rfl (by kernel_rfl) (by kernel_rfl) (by kernel_rfl) (by kernel_rfl) (fun _ _ _ h => h) (Or.inl ⟨by kernel_rfl, ?h101_3⟩) (by assumption) ?r101_3
              case h101_3 => (intro wt hSw; obtain ⟨hs0, hs1⟩ := hSw; go_simp; try with_reducible rfl)
              simp only [Act.put, List.setIfInBounds_toArray, List.set_cons_zero, List.set_cons_succ]
              refine wpAnyF_one (i := 4) (o := { dst := some 91, op := Go.Op.call { callee := Go.Callee.value (Go.Operand.func 20), args := #[Go.Operand.tmp 90], argTypes := #[30] }, type := 30, pos := "own.go:72", after := #[{ on := 3, ground := Go.Ground.data }], guard := none }) rfl rfl (by kernel_rfl) ?_
              refine step_callx (f := 20) (args := #[.slice da m dc]) (by first | kernel_rfl | go_simp) (HCP.out _ hB0) ?_
              rintro v4 w10 ⟨xa, xn, xc, rfl, hO10, hB10⟩
              obtain ⟨ba', bc', w12, hrun, hrw12, hX12, hS12⟩ := HBD.out w10 _ ds hB10 hO10
              have HRUN := hid hrun
              have HS12 := hid hS12
              have c12 := hrw12.cell 1 _ rfl
              have f12 := hrw12.frozen 1
              have o12 := (hX12 (ob, [.int .i64 6, .int .i64 tn, .int .i64 kn, .int .u8 (ub rk), .slice da m dc]) (by simp)).cell 4 _ rfl
              clear hrun hS12 hrw12 hX12
              have hHeld10 := (show (fun w' => w'.cell? ⟨b, 1, none⟩ = some (.slice ba np bc) ∧ w'.cell? ⟨ob, 4, none⟩ = some (.slice da m dc)) w10 from ⟨cell_kept hB10 b1, cell_kept hB10 o4⟩)
              refine ⟨fun _ => hHeld10, ?_⟩
              simp only [Act.put, List.setIfInBounds_toArray, List.set_cons_zero, List.set_cons_succ]
              refine wpAnyF_one (i := 5) (o := { dst := some 92, op := Go.Op.buildSlice 44 1 #[(0, Go.Operand.tmp 91)], type := 44, pos := "own.go:72", after := #[{ on := 4, ground := Go.Ground.data }], guard := none }) rfl rfl (by kernel_rfl) ?_
              refine step_val (v := .slice (some ⟨w10.heap.size, 0, none⟩) 1 1) (w' := w10.alloc (.cells #[.slice xa xn xc] 30)) (by first | kernel_rfl | go_simp) ?_
              have hB11 : Below w9.heap.size w9 (w10.alloc (.cells #[.slice xa xn xc] 30)) := below_two hB10 (below_new _ _) (Nat.le_refl _)
              have hHeld11 := (show (fun w' => w'.cell? ⟨b, 1, none⟩ = some (.slice ba np bc) ∧ w'.cell? ⟨ob, 4, none⟩ = some (.slice da m dc)) (w10.alloc (.cells #[.slice xa xn xc] 30)) from ⟨cell_kept hB11 b1, cell_kept hB11 o4⟩)
              refine ⟨fun _ => hHeld11, ?_⟩
              simp only [Act.put, List.setIfInBounds_toArray, List.set_cons_zero, List.set_cons_succ]
              refine wpAnyF_one (i := 6) (o := { dst := some 93, op := Go.Op.call { callee := Go.Callee.builtin Go.Builtin.append, args := #[Go.Operand.tmp 88, Go.Operand.tmp 92], argTypes := #[44, 44] }, type := 44, pos := "own.go:72", after := #[{ on := 1, ground := Go.Ground.data }, { on := 5, ground := Go.Ground.data }, { on := 4, ground := Go.Ground.chain }], guard := none }) rfl rfl (by kernel_rfl) ?_
              refine wp_append_by (.tmp 88) (.tmp 92) 44 rfl rfl rfl HRUN.out ?_
              have hHeld12 := (show (fun w' => w'.cell? ⟨b, 1, none⟩ = some (.slice ba np bc) ∧ w'.cell? ⟨ob, 4, none⟩ = some (.slice da m dc)) w12 from ⟨c12, o12⟩)
              refine ⟨fun _ => hHeld12, ?_⟩
              simp only [Act.put, List.setIfInBounds_toArray, List.set_cons_zero, List.set_cons_succ]
              refine wpAnyF_take (i := 7) (oi := { dst := some 94, op := Go.Op.fieldAddr 46 (Go.Operand.tmp 8) 1, type := 0, pos := "own.go:72", after := #[{ on := 0, ground := Go.Ground.phase }, { on := 1, ground := Go.Ground.phase }, { on := 2, ground := Go.Ground.phase }, { on := 3, ground := Go.Ground.phase }, { on := 4, ground := Go.Ground.phase }, { on := 5, ground := Go.Ground.phase }, { on := 6, ground := Go.Ground.phase }], guard := none }) (v := ?v101_7) hNW (by decide) rfl (by kernel_rfl) (by kernel_rfl) (by kernel_rfl) (by kernel_rfl) (fun _ _ _ h => h) (Or.inl ⟨by kernel_rfl, ?h101_7⟩) (by assumption) ?r101_7
              case h101_7 => (intro wt hSw; obtain ⟨hs0, hs1⟩ := hSw; go_simp; try with_reducible rfl)
              simp only [Act.put, List.setIfInBounds_toArray, List.set_cons_zero, List.set_cons_succ]
              refine wpAnyF_one (i := 8) (o := { dst := none, op := Go.Op.store 44 (Go.Operand.tmp 94) (Go.Operand.tmp 93), type := 0, pos := "own.go:72", after := #[{ on := 7, ground := Go.Ground.data }, { on := 6, ground := Go.Ground.data }, { on := 6, ground := Go.Ground.chain }, { on := 0, ground := Go.Ground.phase }, { on := 1, ground := Go.Ground.phase }, { on := 2, ground := Go.Ground.phase }, { on := 3, ground := Go.Ground.phase }, { on := 4, ground := Go.Ground.phase }, { on := 5, ground := Go.Ground.phase }, { on := 6, ground := Go.Ground.phase }], guard := none }) rfl rfl (by kernel_rfl) ?_
              refine step_store44 (b := b) (k := 1) (av := ba') (n := np + 1) (c := bc') rfl rfl rfl c12 f12 ?_
              refine ⟨fun h => absurd rfl h, ?_⟩
              simp only [Act.put]
              refine wpAnyF_done (by kernel_rfl) ?_ _
              clear hNW hHeld hHeld10 hHeld11 hHeld12 hB0 hB10 hB11 c12 f12 o12 HRUN hO10
              clear HCP HBD HK b1 o4
              go_wp2_with fail
              go_meet
              exact ⟨q, s, P ++ [(rk, ds)], rfl, rfl, HS12.out.drop⟩
          · as_aux_lemma =>
              have HAP := hid (cr_append_no (cp := dc) (a := da) HS1.out HN1.out.2 hE)
              obtain ⟨E, hEE⟩ : ∃ E, mayE n P rk m = E := ⟨_, rfl⟩
              rw [hEE] at HAP
              have hE0 : (E == 0) = false := by rw [beq_eq_false_iff_ne, ← hEE]; exact hE
              go_upto_region 22 with (go_at_call 19; refine HAP.out.mono ?_; rintro e w7 ⟨rfl, hb7⟩; have HS7 := hid (HS1.out.kept hb7); clear hb7)
              clear HAP q0 q1 q2 q3 q4 HS1 hE0
              have hrw7 := HS7.out.row (y := (ob, [.int .i64 6, .int .i64 tn, .int .i64 kn, .int .u8 (ub rk), .slice da m dc])) (by simp)
              have o3 := hrw7.cell 3 _ rfl
              have o4 := hrw7.cell 4 _ rfl
              by_cases hr0 : rk = 0#8
              · subst hr0
                have hu : ub 0#8 = 0 := by decide
                rw [hu] at o3
                have o3r : ∀ d os, (grow (redrawn w7 d) os).cell? ⟨ob, 3, none⟩ = some (.int .u8 0) := fun d os => cell_kept (below_regrown w7 d os) o3
                clear hrw7 o3 o4 hEE hE hu
                refine wp_region_quiet_below (by kernel_rfl) (by decide +kernel) ?_
                iterate 4 (quiet_step (fail))
                iterate 6 go_big_quiet_skip
                quiet_step (fail)
                refine wpQuiet_nil ?_
                intro _ hw'
                obtain ⟨⟨dq, osq⟩, hw''⟩ := hw'
                subst hw''
                have HBQ := hid (below_regrown w7 dq osq)
                go_wp2_with fail
                go_meet
                exact ⟨q, s, P, rfl, rfl, (HS7.out.kept HBQ.out).drop⟩
              · have hu := ub_zero_iff rk hr0
                have hu0 : ¬ ub rk = 0 := by simpa using hu
                have hroom : min ((n : Int) - (enc 0 P).length - 18) 65536 < m := by
                  unfold mayE at hE
                  rw [if_neg hr0] at hE
                  split at hE
                  · omega
                  · split at hE
                    · assumption
                    · omega
                have HRM : Hid (∀ W, Below w7.heap.size w7 W → Calls Tryd.prog 18 #[pt q 0] W fun e w' => e = .returned (.int .i64 (min ((n : Int) - (enc 0 P).length - 18) 65536)) ∧ Below W.heap.size W w') := fun W hW => cr_room (HS7.out.kept hW) HN1.out.2
                obtain ⟨R, hR⟩ : ∃ R, min ((n : Int) - (enc 0 P).length - 18) 65536 = R := ⟨_, rfl⟩
                rw [hR] at HRM hroom
                have HTK := hid (toKr HRM.out)
                have hd : decide ((m : Int) ≤ R) = false := decide_eq_false (by omega)
                have o3r : ∀ d os, (grow (redrawn w7 d) os).cell? ⟨ob, 3, none⟩ = some (.int .u8 (ub rk)) := fun d os => cell_kept (below_regrown w7 d os) o3
                have o4r : ∀ d os, (grow (redrawn w7 d) os).cell? ⟨ob, 4, none⟩ = some (.slice da m dc) := fun d os => cell_kept (below_regrown w7 d os) o4
                clear hrw7 o3 o4 hEE hE hr0 hR hroom HRM
                refine wp_region_quiet_below (by kernel_rfl) (by decide +kernel) ?_
                iterate 11 (quiet_step (first | (go_at_call 18; exact HTK.out _ _)))
                refine wpQuiet_nil ?_
                intro _ hw'
                obtain ⟨⟨dq, osq⟩, hw''⟩ := hw'
                subst hw''
                have HBQ := hid (below_regrown w7 dq osq)
                go_wp2_with fail
                go_meet
                exact ⟨q, s, P, rfl, rfl, (HS7.out.kept HBQ.out).drop⟩
        · have b6 : (kd == 6) = false := by simpa using h6
          by_cases h3 : kd = 3
          · subst h3
            as_aux_lemma =>
              have HD := hid (cr_dsync HS1.out HN1.out.1 HN1.out.2)
              go_upto_region 30 with (go_at_call 21; refine HD.out.mono ?_; rintro e w7 ⟨rfl, hS7⟩; have HS7 := hid hS7; clear hS7)
              clear q0 q1 q2 q3 q4 HS1 HD
              obtain ⟨ka, kc, ba, bc, hrow, -, -, -, -⟩ := HS7.out.cells
              have c0 := hrow.cell 0 _ rfl
              rw [HNP.out] at c0
              clear hrow
              go_wp2_with fail
              go_meet
              exact ⟨q, np, P, rfl, rfl, by rw [← HNP.out]; exact HS7.out.drop⟩
          · have b3 : (kd == 3) = false := by simpa using h3
            by_cases h7 : kd = 7
            · subst h7
              as_aux_lemma =>
                have HD := hid (cr_sync HS1.out HN1.out.1 HN1.out.2)
                go_upto_region 30 with (go_at_call 22; refine HD.out.mono ?_; rintro e w7 ⟨rfl, hS7⟩; have HS7 := hid hS7; clear hS7)
                clear q0 q1 q2 q3 q4 HS1 HD
                obtain ⟨ka, kc, ba, bc, hrow, -, -, -, -⟩ := HS7.out.cells
                have c0 := hrow.cell 0 _ rfl
                rw [HNP.out] at c0
                clear hrow
                go_wp2_with fail
                go_meet
                exact ⟨q, np, P, rfl, rfl, by rw [← HNP.out]; exact HS7.out.drop⟩
            · have b7 : (kd == 7) = false := by simpa using h7
              by_cases h4 : kd = 4
              · subst h4
                as_aux_lemma =>
                  have HC := hid (cr_crash HS1.out HN1.out.1 HN1.out.2 kn tn)
                  go_upto_region 36 with (go_at_call 23; refine HC.out.mono ?_; rintro e w7 ⟨rfl, kk, hk1, hk2, hD7⟩; have HD7 := hid hD7; have HKK := hid (And.intro hk1 hk2); clear hD7 hk1 hk2)
                  clear HC q0 q1 q2 q3 q4 HS1
                  have HAP := hid (crd_append (kd := 1#8) (a := none) (m := 0) (cp := 0) HD7.out HN1.out.2)
                  rw [show ub 1#8 = 1 by decide] at HAP
                  go_upto_region 37 with (go_at_call 19; refine HAP.out.mono ?_; rintro e w8 ⟨rfl, hD8⟩; have HD8 := hid hD8; clear hD8)
                  clear HAP HD7
                  have HOP := hid (crd_open HD8.out HN1.out.1 HN1.out.2 HT.out)
                  go_upto_region 41 with (go_at_call 9; refine HOP.out.mono ?_; rintro e w9 ⟨q9, rfl, hS9⟩; have HS9 := hid hS9; clear hS9)
                  clear HOP HD8
                  obtain ⟨P2, hP2⟩ : ∃ P2, P.take kk = P2 := ⟨_, rfl⟩
                  rw [hP2] at HS9
                  have HP2 : Hid (P2 = P.take P2.length ∧ P2.length ≤ P.length ∧ s ≤ P2.length) := by
                    obtain ⟨h1, h2⟩ := HKK.out
                    subst hP2
                    have hl : (P.take kk).length = kk := by rw [List.length_take]; omega
                    exact ⟨by rw [hl], by rw [hl]; exact h2, by rw [hl]; exact h1⟩
                  clear hP2 HKK
                  have HR1 := hid (cr_records HS9.out HN1.out.2)
                  have HI : Hid (∀ w1 C v, Below w9.heap.size w9 w1 → RecV w1 C v P2 → Calls Tryd.prog 24 #[pt b 0, v] w1 fun e w' => e = .returned (.bool true) ∧ Below w1.heap.size w1 w') := fun w1 C v hb hR => cr_is (HS9.out.kept hb) (by have := HF.out; have := HNB.out; omega) hR HP2.out.1 HP2.out.2.1
                  have HR2 : Hid (∀ w1, Below w9.heap.size w9 w1 → Calls Tryd.prog 17 #[pt q9 0] w1 fun e w' => ∃ a c, e = .returned (.slice a P2.length c) ∧ Below w9.heap.size w9 w') := fun w1 hb => (cr_records (HS9.out.kept hb) HN1.out.2).mono (by rintro e w' ⟨a, c, rfl, h1, h2⟩; exact ⟨a, c, rfl, hb.trans (h2.mono hb.size)⟩)
                  have HPD : Hid (∀ w1, Below w9.heap.size w9 w1 → Calls Tryd.prog 11 #[pt p 0] w1 fun e w' => e = .returned (.int .i64 0) ∧ w' = w1) := fun w1 hb => cr_pending (HS9.out.kept hb) rfl
                  obtain ⟨n2, hn2⟩ : ∃ n2, P2.length = n2 := ⟨_, rfl⟩
                  rw [hn2] at HR1 HR2
                  have HN2 := hid hn2
                  have hles0 : ¬ n2 < (s : Nat) := by have := HP2.out.2.2; omega
                  have hless : decide ((n2 : Int) < (s : Nat)) = false := decide_eq_false (by omega)
                  clear hn2
                  go_upto_region 43 with (first
                    | (go_at_call 17; refine HR1.out.mono ?_; clear HR1; rintro e w10 ⟨ra, rc, rfl, hR10, hb10⟩; have HR10 := hid hR10; have HB10 := hid hb10; clear hR10 hb10)
                    | (go_at_call 24; refine (HI.out w10 _ _ HB10.out HR10.out).mono ?_; clear HI; rintro e w11 ⟨rfl, hb11⟩; have HB11 := hid (below_two HB10.out hb11 (Nat.le_refl _)); clear hb11)
                    | (go_at_call 17; refine (HR2.out w11 HB11.out).mono ?_; rintro e w12 ⟨ra2, rc2, rfl, hb12⟩; have HB12 := hid hb12; clear hb12)
                    | (go_at_call 11; refine (HPD.out w12 HB12.out).mono ?_; clear HPD; rintro e w13 ⟨rfl, rfl⟩))
                  clear HB10 HB11 HR10 hless hles0
                  have HR3 := hid (HR2.out w13 HB12.out)
                  clear HR2
                  go_upto_region 45 with (go_at_call 17; refine HR3.out.mono ?_; rintro e w14 ⟨ra3, rc3, rfl, hb14⟩; have HB14 := hid hb14; clear hb14)
                  clear HR3
                  have HS14 := hid (HS9.out.kept HB14.out)
                  obtain ⟨ka, kc, ba, bc, hrow, kx1, kx2, bx1, bx2⟩ := HS14.out.cells
                  rw [HNP.out] at hrow kx1 bx1
                  have HRW := hid hrow
                  have c0 := hrow.cell 0 _ rfl
                  have c1 := hrow.cell 1 _ rfl
                  have f0 := hrow.frozen 0
                  have f1 := hrow.frozen 1
                  have hrow2 := hrow.set 0 (.slice ka n2 kc)
                  have c1b := hrow2.cell 1 _ rfl
                  have f1b := hrow2.frozen 1
                  unfold maxLen at kx2 bx2
                  have i1 : (n2 : Int) ≤ (kc : Int) := by have h1 := HP2.out.2.1; have h2 := HN2.out; have h3 := HNP.out; omega
                  have i2 : (n2 : Int) ≤ (bc : Int) := by have h1 := HP2.out.2.1; have h2 := HN2.out; have h3 := HNP.out; omega
                  have i3 : (0 : Int) ≤ (n2 : Int) := by omega
                  clear hrow hrow2 kx1 kx2 bx1 bx2 HS9 HB12 HB14
                  go_region
                  all_goals (go_wp2_with fail; go_meet)
                  all_goals exact ⟨q9, n2, P2, rfl, rfl, by
                    first
                      | exact cr_fin HS14.out HP2.out.1 HP2.out.2.1 HN2.out HNP.out HRW.out 0
                      | exact cr_fin HS14.out HP2.out.1 HP2.out.2.1 HN2.out HNP.out HRW.out 1
                      | exact cr_fin HS14.out HP2.out.1 HP2.out.2.1 HN2.out HNP.out HRW.out 2⟩
              · have b4 : (kd == 4) = false := by simpa using h4
                by_cases h5 : kd = 5
                · subst h5
                  as_aux_lemma =>
                    obtain ⟨ka1, kc1, ba1, bc1, hrow1, -, -, -, -⟩ := HS1.out.cells
                    have c00 := hrow1.cell 0 _ rfl
                    rw [HNP.out] at c00
                    clear hrow1
                    go_upto_region 40 with fail
                    have HOP := hid (cr_open HS1.out HN1.out.1 HN1.out.2 HT.out)
                    go_upto_region 41 with (go_at_call 9; refine HOP.out.mono ?_; rintro e w9 ⟨q9, rfl, hS9⟩; have HS9 := hid hS9; clear hS9)
                    clear HOP HS1 c00 q0 q1 q2 q3 q4
                    obtain ⟨P2, hP2⟩ : ∃ P2, P = P2 := ⟨_, rfl⟩
                    have HP2 : Hid (P2 = P.take P2.length ∧ P2.length ≤ P.length ∧ np ≤ P2.length) := by
                      subst hP2
                      exact ⟨(List.take_length).symm, Nat.le_refl _, by rw [HNP.out]; exact Nat.le_refl _⟩
                    have HS9b : Hid (CrS w w9 p q9 n b P2 P P2.length [(ob, [.int .i64 5, .int .i64 tn, .int .i64 kn, .int .u8 (ub rk), .slice da m dc])]) := by rw [← hP2]; exact HS9.out
                    clear hP2 HS9
                    have HS9 := HS9b
                    clear HS9b
                    have HR1 := hid (cr_records HS9.out HN1.out.2)
                    have HI : Hid (∀ w1 C v, Below w9.heap.size w9 w1 → RecV w1 C v P2 → Calls Tryd.prog 24 #[pt b 0, v] w1 fun e w' => e = .returned (.bool true) ∧ Below w1.heap.size w1 w') := fun w1 C v hb hR => cr_is (HS9.out.kept hb) (by have := HF.out; have := HNB.out; omega) hR HP2.out.1 HP2.out.2.1
                    have HR2 : Hid (∀ w1, Below w9.heap.size w9 w1 → Calls Tryd.prog 17 #[pt q9 0] w1 fun e w' => ∃ a c, e = .returned (.slice a P2.length c) ∧ Below w9.heap.size w9 w') := fun w1 hb => (cr_records (HS9.out.kept hb) HN1.out.2).mono (by rintro e w' ⟨a, c, rfl, h1, h2⟩; exact ⟨a, c, rfl, hb.trans (h2.mono hb.size)⟩)
                    have HPD : Hid (∀ w1, Below w9.heap.size w9 w1 → Calls Tryd.prog 11 #[pt p 0] w1 fun e w' => e = .returned (.int .i64 0) ∧ w' = w1) := fun w1 hb => cr_pending (HS9.out.kept hb) rfl
                    obtain ⟨n2, hn2⟩ : ∃ n2, P2.length = n2 := ⟨_, rfl⟩
                    rw [hn2] at HR1 HR2
                    have HN2 := hid hn2
                    have hles0 : ¬ n2 < (np : Nat) := by have := HP2.out.2.2; omega
                    have hless : decide ((n2 : Int) < (np : Nat)) = false := decide_eq_false (by omega)
                    clear hn2
                    go_upto_region 43 with (first
                      | (go_at_call 17; refine HR1.out.mono ?_; clear HR1; rintro e w10 ⟨ra, rc, rfl, hR10, hb10⟩; have HR10 := hid hR10; have HB10 := hid hb10; clear hR10 hb10)
                      | (go_at_call 24; refine (HI.out w10 _ _ HB10.out HR10.out).mono ?_; clear HI; rintro e w11 ⟨rfl, hb11⟩; have HB11 := hid (below_two HB10.out hb11 (Nat.le_refl _)); clear hb11)
                      | (go_at_call 17; refine (HR2.out w11 HB11.out).mono ?_; rintro e w12 ⟨ra2, rc2, rfl, hb12⟩; have HB12 := hid hb12; clear hb12)
                      | (go_at_call 11; refine (HPD.out w12 HB12.out).mono ?_; clear HPD; rintro e w13 ⟨rfl, rfl⟩))
                    clear HB10 HB11 HR10 hless hles0
                    have HR3 := hid (HR2.out w13 HB12.out)
                    clear HR2
                    go_upto_region 45 with (go_at_call 17; refine HR3.out.mono ?_; rintro e w14 ⟨ra3, rc3, rfl, hb14⟩; have HB14 := hid hb14; clear hb14)
                    clear HR3
                    have HS14 := hid (HS9.out.kept HB14.out)
                    obtain ⟨ka, kc, ba, bc, hrow, kx1, kx2, bx1, bx2⟩ := HS14.out.cells
                    rw [HNP.out] at hrow kx1 bx1
                    have HRW := hid hrow
                    have c0 := hrow.cell 0 _ rfl
                    have c1 := hrow.cell 1 _ rfl
                    have f0 := hrow.frozen 0
                    have f1 := hrow.frozen 1
                    have hrow2 := hrow.set 0 (.slice ka n2 kc)
                    have c1b := hrow2.cell 1 _ rfl
                    have f1b := hrow2.frozen 1
                    unfold maxLen at kx2 bx2
                    have i1 : (n2 : Int) ≤ (kc : Int) := by have h1 := HP2.out.2.1; have h2 := HN2.out; have h3 := HNP.out; omega
                    have i2 : (n2 : Int) ≤ (bc : Int) := by have h1 := HP2.out.2.1; have h2 := HN2.out; have h3 := HNP.out; omega
                    have i3 : (0 : Int) ≤ (n2 : Int) := by omega
                    clear hrow hrow2 kx1 kx2 bx1 bx2 HS9 HB12 HB14
                    go_region
                    all_goals (go_wp2_with fail; go_meet)
                    all_goals exact ⟨q9, n2, P2, rfl, rfl, by
                      first
                        | exact cr_fin HS14.out HP2.out.1 HP2.out.2.1 HN2.out HNP.out HRW.out 0
                        | exact cr_fin HS14.out HP2.out.1 HP2.out.2.1 HN2.out HNP.out HRW.out 1
                        | exact cr_fin HS14.out HP2.out.1 HP2.out.2.1 HN2.out HNP.out HRW.out 2⟩
                · have b5 : (kd == 5) = false := by simpa using h5
                  clear h6 h3 h7 h4 h5
                  as_aux_lemma =>
                    go_wp2_with fail
                    go_meet
                    exact ⟨q, s, P, rfl, rfl, HS1.out.drop⟩
      case rest =>
        obtain ⟨q', s', P', rfl, rfl, HZ⟩ := hcut
        clear q0 q1 q2 q3 q4 HS1 HOK HM HF HNP
        obtain ⟨ka, kc, ba, bc, hrow, kx1, kx2, -, -⟩ := HZ.out.cells
        have hfew := HZ.out.few.1
        have HP' : Hid (P'.length ≤ 1048576 ∧ P' = P'.take P'.length) := ⟨by have := HNB.out; omega, (List.take_length).symm⟩
        have HLN : Hid (∀ w1, Below wc.heap.size wc w1 → Calls Tryd.prog 15 #[pt q' 0] w1 fun e w' => ∃ v, e = .returned v ∧ (v = .int .u64 (P'.length : Nat) ∧ w' = w1)) := fun w1 hb => (cr_len (HZ.out.kept hb)).mono (by rintro e w' ⟨rfl, rfl⟩; exact ⟨_, rfl, rfl, rfl⟩)
        have HRC : Hid (∀ w1, Below wc.heap.size wc w1 → Calls Tryd.prog 17 #[pt q' 0] w1 fun e w' => ∃ v, e = .returned v ∧ (∃ a c, v = .slice a P'.length c ∧ RecV w' w1.heap.size v P' ∧ Below w1.heap.size w1 w')) := fun w1 hb => (cr_records (HZ.out.kept hb) HN1.out.2).mono (by rintro e w' ⟨a, c, rfl, h1, h2⟩; exact ⟨_, rfl, a, c, rfl, h1, h2⟩)
        have HIS : Hid (∀ w1 C v, Below wc.heap.size wc w1 → RecV w1 C v P' → Calls Tryd.prog 24 #[pt b 0, v] w1 fun e w' => ∃ u, e = .returned u ∧ (u = .bool true ∧ Below w1.heap.size w1 w')) := fun w1 C v hb hR => (cr_is (HZ.out.kept hb) HP'.out.1 hR HP'.out.2 (Nat.le_refl _)).mono (by rintro e w' ⟨rfl, h⟩; exact ⟨_, rfl, rfl, h⟩)
        have c0 := hrow.cell 0 _ rfl
        obtain ⟨np, hnp⟩ : ∃ np, P'.length = np := ⟨_, rfl⟩
        rw [hnp] at c0 HLN HRC
        have j4 : IntKind.u64.wrap (np : Int) = np := by rw [IntKind.wrap_u64]; have := HNB.out; omega
        clear hrow kx1 kx2 hfew HP' hnp
        go_upto_region 46 with fail
        have hB0 : Below wc.heap.size wc wc.drew := below_drewN (Below.refl _ _) 1
        refine wp_region_last (S := fun w' => Hid (Below wc.heap.size wc w') ∧ w'.cell? ⟨b, 0, none⟩ = some (.slice ka np kc)) (N := 12) (by kernel_rfl) (by kernel_rfl) fun hNW => ?_
        have hHeld := (show (fun w' => Hid (Below wc.heap.size wc w') ∧ w'.cell? ⟨b, 0, none⟩ = some (.slice ka np kc)) wc.drew from ⟨hB0, c0⟩)
        refine wpAnyF_take (i := 0) (oi := { dst := some 187, op := Go.Op.move (Go.Operand.tmp 7), type := 26, pos := "own.go:101", after := #[], guard := none }) (v := ?v1_0) hNW (by decide) rfl (by kernel_rfl) (by kernel_rfl) (by kernel_rfl) (by kernel_rfl) (fun _ _ _ h => h) (Or.inl ⟨by kernel_rfl, ?h1_0⟩) (by assumption) ?r1_0
        case h1_0 => (intro wt hSw; obtain ⟨-, hs0⟩ := hSw; go_simp; try with_reducible rfl)
        simp only [Act.put, List.setIfInBounds_toArray, List.set_cons_zero, List.set_cons_succ]
        refine wpAnyF_take (i := 2) (oi := { dst := some 189, op := Go.Op.fieldAddr 46 (Go.Operand.tmp 8) 0, type := 0, pos := "own.go:101", after := #[], guard := none }) (v := ?v1_2) hNW (by decide) rfl (by kernel_rfl) (by kernel_rfl) (by kernel_rfl) (by kernel_rfl) (fun _ _ _ h => h) (Or.inl ⟨by kernel_rfl, ?h1_2⟩) (by assumption) ?r1_2
        case h1_2 => (intro wt hSw; obtain ⟨-, hs0⟩ := hSw; go_simp; try with_reducible rfl)
        simp only [Act.put, List.setIfInBounds_toArray, List.set_cons_zero, List.set_cons_succ]
        refine wpAnyF_take (i := 3) (oi := { dst := some 190, op := Go.Op.load 30 (Go.Operand.tmp 189), type := 30, pos := "own.go:101", after := #[{ on := 2, ground := Go.Ground.data }], guard := none }) (v := ?v1_3) hNW (by decide) rfl (by kernel_rfl) (by kernel_rfl) (by kernel_rfl) (by kernel_rfl) (fun _ _ _ h => h) (Or.inl ⟨by kernel_rfl, ?h1_3⟩) (by assumption) ?r1_3
        case h1_3 => (intro wt hSw; obtain ⟨-, hs0⟩ := hSw; go_simp; try with_reducible rfl)
        simp only [Act.put, List.setIfInBounds_toArray, List.set_cons_zero, List.set_cons_succ]
        refine wpAnyF_take (i := 4) (oi := { dst := some 191, op := Go.Op.call { callee := Go.Callee.builtin Go.Builtin.len, args := #[Go.Operand.tmp 190], argTypes := #[30] }, type := 3, pos := "own.go:101", after := #[{ on := 3, ground := Go.Ground.data }], guard := none }) (v := ?v1_4) hNW (by decide) rfl (by kernel_rfl) (by kernel_rfl) (by kernel_rfl) (by kernel_rfl) (fun _ _ _ h => h) (Or.inl ⟨by kernel_rfl, ?h1_4⟩) (by assumption) ?r1_4
        case h1_4 => (intro wt hSw; obtain ⟨-, hs0⟩ := hSw; go_simp; try with_reducible rfl)
        simp only [Act.put, List.setIfInBounds_toArray, List.set_cons_zero, List.set_cons_succ]
        refine wpAnyF_take (i := 5) (oi := { dst := some 192, op := Go.Op.convert 3 35 (Go.Operand.tmp 191), type := 35, pos := "own.go:101", after := #[{ on := 4, ground := Go.Ground.data }], guard := none }) (v := ?v1_5) hNW (by decide) rfl (by kernel_rfl) (by kernel_rfl) (by kernel_rfl) (by kernel_rfl) (fun _ _ _ h => h) (Or.inl ⟨by kernel_rfl, ?h1_5⟩) (by assumption) ?r1_5
        case h1_5 => (intro wt hSw; obtain ⟨-, hs0⟩ := hSw; go_simp; try with_reducible rfl)
        simp only [Act.put, List.setIfInBounds_toArray, List.set_cons_zero, List.set_cons_succ]
        refine wpAnyF_one (i := 1) (o := { dst := some 188, op := Go.Op.call { callee := Go.Callee.value (Go.Operand.func 15), args := #[Go.Operand.tmp 187], argTypes := #[26] }, type := 35, pos := "own.go:101", after := #[{ on := 0, ground := Go.Ground.data }], guard := none }) rfl rfl (by kernel_rfl) ?_
        refine step_callx (f := 15) (args := #[pt q' 0]) (by first | kernel_rfl | go_simp) (HLN.out _ hB0) ?_
        rintro v1 w1 ⟨rfl, rfl⟩
        refine ⟨fun _ => hHeld, ?_⟩
        simp only [Act.put, List.setIfInBounds_toArray, List.set_cons_zero, List.set_cons_succ]
        refine wpAnyF_take (i := 6) (oi := { dst := some 193, op := Go.Op.binOp Go.BinOp.neq 35 (Go.Operand.tmp 188) (Go.Operand.tmp 192) 35, type := 4, pos := "own.go:101", after := #[{ on := 1, ground := Go.Ground.data }, { on := 5, ground := Go.Ground.data }], guard := none }) (v := ?v1_6) hNW (by decide) rfl (by kernel_rfl) (by kernel_rfl) (by kernel_rfl) (by kernel_rfl) (fun _ _ _ h => h) (Or.inl ⟨by kernel_rfl, ?h1_6⟩) (by assumption) ?r1_6
        case h1_6 => (intro wt hSw; obtain ⟨-, hs0⟩ := hSw; go_simp; try with_reducible rfl)
        simp only [Act.put, List.setIfInBounds_toArray, List.set_cons_zero, List.set_cons_succ]
        refine wpAnyF_take (i := 7) (oi := { dst := some 194, op := Go.Op.move (Go.Operand.tmp 193), type := 4, pos := "own.go:101", after := #[{ on := 6, ground := Go.Ground.data }, { on := 1, ground := Go.Ground.chain }], guard := none }) (v := ?v1_7) hNW (by decide) rfl (by kernel_rfl) (by kernel_rfl) (by kernel_rfl) (by kernel_rfl) (fun _ _ _ h => h) (Or.inl ⟨by kernel_rfl, ?h1_7⟩) (by assumption) ?r1_7
        case h1_7 => (intro wt hSw; obtain ⟨-, hs0⟩ := hSw; go_simp; try with_reducible rfl)
        simp only [Act.put, List.setIfInBounds_toArray, List.set_cons_zero, List.set_cons_succ]
        refine wpAnyF_take (i := 8) (oi := { dst := some 195, op := Go.Op.move (Go.Operand.tmp 7), type := 26, pos := "own.go:101", after := #[{ on := 7, ground := Go.Ground.guard }], guard := some (7, false) }) (v := ?v1_8) hNW (by decide) rfl (by kernel_rfl) (by kernel_rfl) (by kernel_rfl) (by kernel_rfl) (fun _ _ _ h => h) (Or.inl ⟨by kernel_rfl, ?h1_8⟩) (by assumption) ?r1_8
        case h1_8 => (intro wt hSw; obtain ⟨-, hs0⟩ := hSw; go_simp; try with_reducible rfl)
        simp only [Act.put, List.setIfInBounds_toArray, List.set_cons_zero, List.set_cons_succ]
        refine wpAnyF_oneG (i := 9) (o := { dst := some 196, op := Go.Op.call { callee := Go.Callee.value (Go.Operand.func 17), args := #[Go.Operand.tmp 195], argTypes := #[26] }, type := 38, pos := "own.go:101", after := #[{ on := 8, ground := Go.Ground.data }, { on := 7, ground := Go.Ground.chain }, { on := 7, ground := Go.Ground.guard }], guard := some (7, false) }) rfl (by kernel_rfl) (by kernel_rfl) ?_
        refine step_callx (f := 17) (args := #[pt q' 0]) (by first | kernel_rfl | go_simp) (HRC.out _ hB0) ?_
        rintro v9 w9 ⟨ra, rc, rfl, hR9, hb9⟩
        have hB9 : Below wc.heap.size wc w9 := hB0.trans (hb9.mono hB0.size)
        have hHeld9 := (show (fun w' => Hid (Below wc.heap.size wc w') ∧ w'.cell? ⟨b, 0, none⟩ = some (.slice ka np kc)) w9 from ⟨hB9, cell_kept hB9 c0⟩)
        refine ⟨fun _ => hHeld9, ?_⟩
        simp only [Act.put, List.setIfInBounds_toArray, List.set_cons_zero, List.set_cons_succ]
        refine wpAnyF_oneG (i := 10) (o := { dst := some 197, op := Go.Op.call { callee := Go.Callee.value (Go.Operand.func 24), args := #[Go.Operand.tmp 8, Go.Operand.tmp 196], argTypes := #[46, 38] }, type := 4, pos := "own.go:101", after := #[{ on := 9, ground := Go.Ground.data }, { on := 9, ground := Go.Ground.chain }, { on := 7, ground := Go.Ground.guard }], guard := some (7, false) }) rfl (by kernel_rfl) (by kernel_rfl) ?_
        refine step_callx (f := 24) (args := #[pt b 0, .slice ra np rc]) (by first | kernel_rfl | go_simp) (HIS.out _ _ _ hB9 hR9) ?_
        rintro v10 w10 ⟨rfl, hb10⟩
        have hB10 : Below wc.heap.size wc w10 := hB9.trans (hb10.mono hB9.size)
        have hHeld10 := (show (fun w' => Hid (Below wc.heap.size wc w') ∧ w'.cell? ⟨b, 0, none⟩ = some (.slice ka np kc)) w10 from ⟨hB10, cell_kept hB10 c0⟩)
        refine ⟨fun _ => hHeld10, ?_⟩
        simp only [Act.put, List.setIfInBounds_toArray, List.set_cons_zero, List.set_cons_succ]
        refine wpAnyF_take (i := 11) (oi := { dst := some 198, op := Go.Op.unOp Go.UnOp.not 4 (Go.Operand.tmp 197), type := 4, pos := "own.go:101", after := #[{ on := 10, ground := Go.Ground.data }, { on := 7, ground := Go.Ground.guard }], guard := some (7, false) }) (v := ?v1_11) hNW (by decide) rfl (by kernel_rfl) (by kernel_rfl) (by kernel_rfl) (by kernel_rfl) (fun _ _ _ h => h) (Or.inl ⟨by kernel_rfl, ?h1_11⟩) (by assumption) ?r1_11
        case h1_11 => (intro wt hSw; obtain ⟨-, hs0⟩ := hSw; go_simp; try with_reducible rfl)
        simp only [Act.put, List.setIfInBounds_toArray, List.set_cons_zero, List.set_cons_succ]
        refine wpAnyF_one (i := 12) (o := { dst := some 199, op := Go.Op.pick (Go.Operand.tmp 194) (Go.Operand.const (Go.Value.bool true)) (Go.Operand.tmp 198), type := 4, pos := "own.go:101", after := #[{ on := 7, ground := Go.Ground.data }, { on := 11, ground := Go.Ground.data }], guard := none }) rfl rfl (by kernel_rfl) ?_
        refine step_val (v := .bool false) (w' := w10) (by first | kernel_rfl | go_simp) ?_
        refine ⟨fun h => absurd rfl h, ?_⟩
        simp only [Act.put]
        refine wpAnyF_done (by kernel_rfl) ?_ _
        have HB10 := hid hB10
        clear hNW hHeld hHeld9 hHeld10 hB0 hB9 hB10 hR9 hb9 hb10
        have HZ2 := hid (HZ.out.kept HB10.out)
        clear HZ HLN HRC HIS c0 HB10 j4
        go_wp2_with fail
        go_roundw
        case rel => exact ⟨k + 1, q', P', s', hlt, rfl, rfl, by go_num, HZ2.out⟩
        case measure => simp [intOf]; omega
    · obtain rfl : k = Os.length := by omega
      go_wp2_with fail
      go_ret
      exact ⟨rfl, HS.out.be⟩
end Go.Proofs.YtfhjiggaacgncaaDoor
