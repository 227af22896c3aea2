import Derived.Test.YtfhjiggaacgncaaDoorJo2
import Derived.Test.YtfhjiggaacgncaaDoorRegL
import Derived.BigQuiet
import Derived.BigRegion
import Derived.Deep.CutBlock
namespace Go.Proofs.YtfhjiggaacgncaaDoor
open Go.RowKit Go.Maps Go.Sort
set_option maxRecDepth 100000

theorem wpAnyF_oneH {P : Program} {ops : Array Oper} {Q : Exit → Act → World → Prop} {md : Region.Mode} {S : World → Prop} {N : Nat} {i : Nat} {o : Oper} {fuel : Nat} {listed : Array Bool} {a : Act} {w : World} (ho : ops[i]? = some o) (hg : Region.wanted o (yielded ops a.tmps) = true) (hr : Region.ready md ops listed = [i]) (h : o.wp P a w (fun a' w' => (i ≠ N → S w') ∧ wpAnyF P md ops Q S N fuel (listed.setIfInBounds i true) a' w') Q) : wpAnyF P md ops Q S N (fuel + 1) listed a w := by
  refine ⟨fun h0 => (by rw [hr] at h0; cases h0), fun j hj => ?_⟩
  rw [hr, List.mem_singleton] at hj
  subst hj
  unfold wpOp
  simp only [ho]
  rw [if_pos hg]
  exact .inl h
theorem box_range41 (w : World) (t : TypeId) (l : List Value) : ∀ j u, l[j]? = some u → (w.alloc (.cells l.toArray t)).cell? ((⟨w.heap.size, 0, none⟩ : Addr).add j) = some u := fun j u hj => by
  rw [Addr.add_lit, Nat.zero_add]
  exact (Row.new w l t).cell j u hj
theorem OwT.more {w wr : World} {N M : Nat} (h : OwT w wr N) (hm : N ≤ M) : OwT w wr M := by
  obtain ⟨X, h1, h2⟩ := h
  exact ⟨X, Nat.le_trans h1 hm, h2⟩
theorem AbT.kept {w wr w' : World} {N na : Nat} {P : Rcs} {va vb : Value} (h : AbT w wr N P va vb na) (hb : Below wr.heap.size wr w') : AbT w w' N P va vb na := by
  obtain ⟨xs, h1⟩ := h.a
  obtain ⟨C, h2, h3, h4⟩ := h.b
  exact ⟨h.t.kept hb, ⟨xs, own_below h1 hb⟩, C, h2.kept hb, h3, Nat.le_trans h4 hb.size⟩
theorem cr_fine {w0 w : World} {p q n b s : Nat} {P B : Rcs} {X : List (Nat × List Value)} (h : CrS w0 w p q n b P B s X) : ∀ x ∈ P, x.2.length ≤ 65536 := by
  obtain ⟨M, F, ⟨D, G, hj, h1, h2, _⟩, _⟩ := h
  exact fun x hx => (h2.fine x hx).2
set_option maxHeartbeats 8000000 in
/-- The looks of JournalOwn. -/
theorem owned_law {w w0 : World} {p q b s : Nat} {P : Rcs} (h : CrS w0 w p q 65536 b P P s []) (hP : P.length ≤ 40) : Calls Tryd.prog 25 #[pt p 0, pt q 0, pt b 0] w fun e w' => e = .returned (.bool true) ∧ Below w.heap.size w w' := by
  have HFI := hid (cr_fine h)
  obtain ⟨ka, kc, ba, bc, hrow, -, -, -, -⟩ := h.cells
  have hc0 := hrow.cell 0 _ rfl
  have HRW : Hid (∀ w1, Below w.heap.size w w1 → Calls Tryd.prog 17 #[pt q 0] w1 fun e w' => ∃ a c, e = .returned (.slice a P.length c) ∧ RecW w' w1.heap.size (.slice a P.length c) P ∧ Below w1.heap.size w1 w') := fun w1 hb => cr_recw (h.kept hb) (by decide)
  have HRD : Hid (∀ w1, Below w.heap.size w w1 → Calls Tryd.prog 47 #[pt p 0, .int .i64 0, .int .i64 40] w1 fun e w' => ∃ v bs, e = .returned (.tuple #[v, .int .i64 0]) ∧ OwnBy w' w1.heap.size v bs ∧ bs.length ≤ 65536 ∧ Below w1.heap.size w1 w') := fun w1 hb => cr_read (h.kept hb) (by decide) (by decide)
  have HIM : Hid (∀ w1, Below w.heap.size w w1 → Calls Tryd.prog 12 #[pt p 0] w1 fun e w' => ∃ v bs, e = .returned v ∧ OwnBy w' w1.heap.size v bs ∧ bs.length ≤ 65536 ∧ Below w1.heap.size w1 w') := fun w1 hb => cr_image (h.kept hb) (by decide)
  have HLN : Hid (∀ w1, Below w.heap.size w w1 → Calls Tryd.prog 15 #[pt q 0] w1 fun e w' => ∃ v, e = .returned v ∧ (v = .int .u64 (P.length : Nat) ∧ Below w1.heap.size w1 w')) := fun w1 hb => (cr_len (h.kept hb)).mono (by rintro e w' ⟨rfl, rfl⟩; exact ⟨_, rfl, rfl, Below.refl _ _⟩)
  have HIS : Hid (∀ w1 C v, Below w.heap.size w w1 → RecV w1 C v P → Calls Tryd.prog 24 #[pt b 0, v] w1 fun e w' => ∃ u, e = .returned u ∧ (u = .bool true ∧ Below w1.heap.size w1 w')) := fun w1 C v hb hR => (cr_is (h.kept hb) (by omega) hR (List.take_length).symm (Nat.le_refl _)).mono (by rintro e w' ⟨rfl, h⟩; exact ⟨_, rfl, rfl, h⟩)
  obtain ⟨np, hnp⟩ : ∃ np, P.length = np := ⟨_, rfl⟩
  have HNP := hid hnp
  rw [hnp] at hc0 hP HRW HLN
  have HC0 := hid hc0
  have hnpI : (np : Int) ≤ 40 := by omega
  clear h hrow hc0 hnp
  go_enter Tryd.func25, Tryd.ntmps25
  go_upto_region 2 with fail
  have HT0 : Hid (OwT w (w.alloc (.cells #[.slice none 0 0, .slice none 0 0] 67)) 0) := OwT.new w
  revert HT0
  generalize w.alloc (.cells #[.slice none 0 0, .slice none 0 0] 67) = w1
  intro HT0
  go_wp2_with fail
  go_loopw [8] (fun s8 wr => ∃ t : Nat, t ≤ 3 ∧ s8 = .int .i64 t ∧ Hid (OwT w wr (t * 42))) (fun s _ => 4 - (intOf s).toNat)
  case atStart => exact ⟨0, Nat.zero_le _, rfl, HT0⟩
  case round =>
    obtain ⟨t, ht, rfl, HT⟩ := hrel
    clear HT0
    have hti3 : (t : Int) ≤ 3 := by omega
    by_cases hlt : t < 3
    · have hti : (t : Int) < 3 := by omega
      have HR := hid (HRW.out wr HT.out.be)
      go_wp2_with (go_at_call 17; refine HR.out.mono ?_; rintro e w2 ⟨a2, c2, rfl, hR2, hb2⟩; obtain ⟨R, hRl, hI⟩ := HT.out.start hb2 hR2 HFI.out; have HI := hid hI; have HRL := hid (hRl.trans HNP.out); clear hR2 hI hb2 hRl)
      clear HR HT
      go_loopw [23] (fun s23 wr => ∃ k : Nat, k ≤ np ∧ s23 = .int .i64 k ∧ Hid (InT w wr (t * 42) (.slice a2 np c2) R k)) (fun s _ => np + 1 - (intOf s).toNat)
      case atStart => exact ⟨0, Nat.zero_le _, rfl, HI⟩
      case round =>
        obtain ⟨k, hk, rfl, HI2⟩ := hrel
        clear HI
        by_cases hkl : k < np
        · have hki : (k : Int) < np := by omega
          have hkR : k < R.length := by rw [HRL.out]; exact hkl
          obtain ⟨g, c, xa, xn, xc, ev, ex, d0, d1, d2⟩ := HI2.out.cells hkR
          rw [HRL.out] at ev
          simp only [Value.slice.injEq] at ev
          obtain ⟨rfl, _, rfl⟩ := ev
          have HKP : Hid (∀ w3, InT w w3 (t * 42) (.slice (some ⟨g, 0, none⟩) np c2) R k → Calls Tryd.prog 46 #[pt w.heap.size 0, .slice xa xn xc] w3 fun e w' => e = .returned (.tuple #[]) ∧ InT w w' (t * 42) (.slice (some ⟨g, 0, none⟩) np c2) R (k + 1)) := fun w3 h3 => by
            have := h3.keep hkR (by rw [HRL.out]; omega)
            rw [ex] at this
            exact this
          have HX := hid hkR
          generalize R[k].k = kk at *
          clear hkR ex
          go_upto_region 8 with fail
          have hb1 := below_new wr (.cells #[.int .u64 (k : Nat), .int .u8 (ub kk), .slice xa xn xc] 41)
          have R1 := Row.new wr [.int .u64 (k : Nat), .int .u8 (ub kk), .slice xa xn xc] 41
          have hall := And.intro R1 (hid (HI2.out.kept hb1))
          clear R1 hb1 HI2 d0 d1 d2
          revert hall
          generalize wr.alloc (.cells #[.int .u64 (k : Nat), .int .u8 (ub kk), .slice xa xn xc] 41) = w3
          rintro ⟨R1, HI3⟩
          have r2 := R1.cell 2 _ rfl
          clear R1
          have HK3 := hid (HKP.out w3 HI3.out)
          go_wp2_with (go_at_call 46; refine HK3.out.mono ?_; rintro e w4 ⟨rfl, h4⟩; have HI4 := hid h4; clear h4)
          go_roundw
          case rel => exact ⟨k + 1, hkl, by go_num, HI4⟩
          case measure => simp [intOf]; omega
        · obtain rfl : k = np := by omega
          have HT2 := hid HI2.out.done
          clear HI2
          have HRD1 := hid (HRD.out _ HT2.out.be)
          go_upto_region 11 with (go_at_call 47; refine HRD1.out.mono ?_; rintro e w5 ⟨v5, bs5, rfl, ho5, hl5, hb5⟩; obtain ⟨a5, c5, e5, -⟩ := own_len ho5; subst e5; have HK5 := hid (HT2.out.keep hb5 ho5 hl5 (by omega)); clear ho5 hl5 hb5)
          clear HRD1 HT2
          go_upto_region 12 with (go_at_call 46; refine HK5.out.mono ?_; rintro e w6 ⟨rfl, h6⟩; have HT6 := hid h6; clear h6)
          clear HK5
          have HIM1 := hid (HIM.out _ HT6.out.be)
          go_wp2_with (first | (go_at_call 12; refine HIM1.out.mono ?_; rintro e w7 ⟨v7, bs7, rfl, ho7, hl7, hb7⟩; obtain ⟨a7, c7, e7, -⟩ := own_len ho7; subst e7; have HK7 := hid (HT6.out.keep hb7 ho7 hl7 (by omega)); clear ho7 hl7 hb7) | (go_at_call 46; refine HK7.out.mono ?_; rintro e w8 ⟨rfl, h8⟩; have HT8 := hid h8; clear h8))
          go_roundw
          case rel => exact ⟨t + 1, hlt, by go_num, HT8.out.more (by omega)⟩
          case measure => simp [intOf]; omega
    · obtain rfl : t = 3 := by omega
      have HR1 := hid (HRW.out wr HT.out.be)
      go_upto_region 14 with (first | (go_at_call 17; refine HR1.out.mono ?_; clear HR1; rintro e w2 ⟨a2, c2, rfl, hR2, hb2⟩; have HA2 := hid (And.intro hR2 hb2); have HR2 := hid (HRW.out w2 (HT.out.be.trans (hb2.mono HT.out.be.size))); clear hR2 hb2) | (go_at_call 17; refine HR2.out.mono ?_; clear HR2; rintro e w3 ⟨a3, c3, rfl, hR3, hb3⟩; have HAB := hid (AbT.start HT.out HA2.out.2 HA2.out.1.v hb3 hR3.v); clear hR3 hb3))
      rw [HNP.out] at HAB
      clear HT HA2
      go_wp2_with fail
      go_loopw [47] (fun s47 wr => ∃ j : Nat, j ≤ np ∧ s47 = .int .i64 j ∧ Hid (AbT w wr (3 * 42) P (.slice a2 np c2) (.slice a3 np c3) np)) (fun s _ => np + 1 - (intOf s).toNat)
      case atStart => exact ⟨0, Nat.zero_le _, rfl, HAB⟩
      case round =>
        obtain ⟨j, hj, rfl, HB⟩ := hrel
        clear HAB
        by_cases hjl : j < np
        · have hji : (j : Int) < np := by omega
          obtain ⟨g2, cc, hsh⟩ := HB.out.some_ (by omega)
          simp only [Value.slice.injEq] at hsh
          obtain ⟨rfl, _, rfl⟩ := hsh
          obtain ⟨⟨y0, p0⟩, f0, ⟨y1, p1⟩, f1, ⟨y2, p2⟩, f2, hB2⟩ := HB.out.put j hjl (.int .u64 1000) (.int .u8 3) (.slice none 0 0)
          have HB2 := hid hB2
          have hbd : ∀ w, (Instr.build 41 #[(0, .int .u64 1000), (1, .int .u8 3)]).run Tryd.prog w = .ok (.agg #[.int .u64 1000, .int .u8 3, .slice none 0 0]) w := fun _ => by kernel_rfl
          clear hB2
          go_wp2_with fail
          go_roundw
          case rel => exact ⟨j + 1, hjl, by go_num, HB2⟩
          case measure => simp [intOf]; omega
        · obtain ⟨iC, hi1, hi2, hi3, hi4⟩ := info41
          obtain ⟨xs, hxs⟩ := HB.out.a
          have HXS := hid hxs
          have hbd : ∀ w, (Instr.build 41 #[(1, .int .u8 5)]).run Tryd.prog w = .ok (.agg #[.int .u64 0, .int .u8 5, .slice none 0 0]) w := fun _ => by kernel_rfl
          have hsx : w.heap.size ≤ wr.heap.size := HB.out.t.be.size
          have HBA := hid (HB.out.kept (below_new wr (.cells #[.int .u64 0, .int .u8 5, .slice none 0 0] 41)))
          clear hxs HB
          go_upto_region 20 with (at_builtin; refine wpList_append_own_at _ rfl _ _ 38 rfl w.heap.size 41 iC (.agg #[.int .u64 0, .int .u8 0, .slice none 0 0]) 3 40 Tryd.underlying38 hi1 hi2 hi3 hi4 rfl (by decide) (.slice a2 np c2) np xs rfl (World.ownsRow.alloc HXS.out _) ⟨wr.heap.size, 0, none⟩ 1 1 [.int .u64 0, .int .u8 5, .slice none 0 0] rfl rfl (box_range41 wr 41 _) (by simp [Value.oneCell']) (by unfold maxLen; omega) (by omega) (by simp; omega) ?_; intro v25 w25 h25 g25 _ _; obtain ⟨a25, c25, e25, -⟩ := own_len h25; subst e25; have HF := hid (HBA.out.grown g25); clear h25 g25)
          clear HXS HBA hbd
          have HOT : Hid (OwT w w25 (3 * 42)) := HF.out.1
          obtain ⟨C, hC, -, -⟩ := HF.out.2
          have HISB : Hid (∀ w1, Below w25.heap.size w25 w1 → Calls Tryd.prog 24 #[pt b 0, .slice a3 np c3] w1 fun e w' => ∃ u, e = .returned u ∧ (u = .bool true ∧ Below w.heap.size w w' ∧ OwT w w' (3 * 42))) := fun w1 hb => by
            have hbe := HOT.out.be.trans (hb.mono HOT.out.be.size)
            refine (HIS.out w1 C _ hbe (hC.kept hb)).mono ?_
            rintro e w' ⟨u, rfl, rfl, hb'⟩
            exact ⟨_, rfl, rfl, hbe.trans (hb'.mono hbe.size), (HOT.out.kept hb).kept hb'⟩
          have HGD : Hid (∀ w1, OwT w w1 (3 * 42) → Calls Tryd.prog 32 #[pt w.heap.size 0] w1 fun e w' => ∃ u, e = .returned u ∧ (u = .bool true ∧ Below w.heap.size w w')) := fun w1 h1 => (h1.good (by decide)).mono (by rintro e w' ⟨rfl, h⟩; exact ⟨_, rfl, rfl, h⟩)
          have HRC : Hid (∀ w1, Below w.heap.size w w1 → Calls Tryd.prog 17 #[pt q 0] w1 fun e w' => ∃ v, e = .returned v ∧ (∃ a c, v = .slice a np c ∧ RecV w' w1.heap.size v P ∧ Below w1.heap.size w1 w')) := fun w1 hb => (HRW.out w1 hb).mono (by rintro e w' ⟨a, c, rfl, h1, h2⟩; exact ⟨_, rfl, a, c, rfl, h1.v, h2⟩)
          obtain ⟨M, hM⟩ : ∃ M, np + 1 = M := ⟨_, rfl⟩
          rw [hM]
          have jM : (np : Int) + 1 = M := by omega
          have jW : IntKind.i64.wrap (M : Int) = M := by rw [IntKind.wrap_i64]; omega
          have jU : IntKind.u64.wrap (np : Int) = np := by rw [IntKind.wrap_u64]; omega
          have hB0 : Below w25.heap.size w25 w25.drew := below_drewN (Below.refl _ _) 1
          have hB0' : Below w.heap.size w w25.drew := HOT.out.be.trans (hB0.mono HOT.out.be.size)
          have c0' : w25.drew.cell? ⟨b, 0, none⟩ = some (.slice ka np kc) := cell_kept hB0' HC0.out
          clear hC HF hi1 hi2 hi3 hi4 hM hsx
          refine wp_region_last (S := fun w' => Below w.heap.size w w' ∧ w'.cell? ⟨b, 0, none⟩ = some (.slice ka np kc)) (N := 31) (by kernel_rfl) (by kernel_rfl) fun hNW => ?_
          have hHeld := (show (fun w' => Below w.heap.size w w' ∧ w'.cell? ⟨b, 0, none⟩ = some (.slice ka np kc)) _ from ⟨hB0', c0'⟩)
          refine wpAnyF_take (i := 0) (oi := { dst := some 59, op := Go.Op.move (Go.Operand.tmp 13), type := 38, pos := "own.go:188", after := #[], guard := none }) (v := ?v301_0) hNW (by decide) rfl (by kernel_rfl) (by kernel_rfl) (by kernel_rfl) (by kernel_rfl) (fun _ _ _ h => h) (Or.inl ⟨by kernel_rfl, ?h301_0⟩) (by assumption) ?r301_0
          case h301_0 => (intro wt hSw; obtain ⟨-, hs0⟩ := hSw; go_simp; try with_reducible rfl)
          simp only [Act.put, List.setIfInBounds_toArray, List.set_cons_zero, List.set_cons_succ]
          refine wpAnyF_take (i := 1) (oi := { dst := some 60, op := Go.Op.call { callee := Go.Callee.builtin Go.Builtin.len, args := #[Go.Operand.tmp 59], argTypes := #[38] }, type := 3, pos := "own.go:188", after := #[{ on := 0, ground := Go.Ground.data }], guard := none }) (v := ?v301_1) hNW (by decide) rfl (by kernel_rfl) (by kernel_rfl) (by kernel_rfl) (by kernel_rfl) (fun _ _ _ h => h) (Or.inl ⟨by kernel_rfl, ?h301_1⟩) (by assumption) ?r301_1
          case h301_1 => (intro wt hSw; obtain ⟨-, hs0⟩ := hSw; go_simp; try with_reducible rfl)
          simp only [Act.put, List.setIfInBounds_toArray, List.set_cons_zero, List.set_cons_succ]
          refine wpAnyF_take (i := 2) (oi := { dst := some 61, op := Go.Op.move (Go.Operand.tmp 14), type := 38, pos := "own.go:188", after := #[], guard := none }) (v := ?v301_2) hNW (by decide) rfl (by kernel_rfl) (by kernel_rfl) (by kernel_rfl) (by kernel_rfl) (fun _ _ _ h => h) (Or.inl ⟨by kernel_rfl, ?h301_2⟩) (by assumption) ?r301_2
          case h301_2 => (intro wt hSw; obtain ⟨-, hs0⟩ := hSw; go_simp; try with_reducible rfl)
          simp only [Act.put, List.setIfInBounds_toArray, List.set_cons_zero, List.set_cons_succ]
          refine wpAnyF_take (i := 3) (oi := { dst := some 62, op := Go.Op.call { callee := Go.Callee.builtin Go.Builtin.len, args := #[Go.Operand.tmp 61], argTypes := #[38] }, type := 3, pos := "own.go:188", after := #[{ on := 2, ground := Go.Ground.data }], guard := none }) (v := ?v301_3) hNW (by decide) rfl (by kernel_rfl) (by kernel_rfl) (by kernel_rfl) (by kernel_rfl) (fun _ _ _ h => h) (Or.inl ⟨by kernel_rfl, ?h301_3⟩) (by assumption) ?r301_3
          case h301_3 => (intro wt hSw; obtain ⟨-, hs0⟩ := hSw; go_simp; try with_reducible rfl)
          simp only [Act.put, List.setIfInBounds_toArray, List.set_cons_zero, List.set_cons_succ]
          refine wpAnyF_take (i := 4) (oi := { dst := some 63, op := Go.Op.binOp Go.BinOp.add 3 (Go.Operand.tmp 62) (Go.Operand.const (Go.Value.int Go.IntKind.i64 1)) 3, type := 3, pos := "own.go:188", after := #[{ on := 3, ground := Go.Ground.data }], guard := none }) (v := ?v301_4) hNW (by decide) rfl (by kernel_rfl) (by kernel_rfl) (by kernel_rfl) (by kernel_rfl) (fun _ _ _ h => h) (Or.inl ⟨by kernel_rfl, ?h301_4⟩) (by assumption) ?r301_4
          case h301_4 => (intro wt hSw; obtain ⟨-, hs0⟩ := hSw; go_simp; try with_reducible rfl)
          simp only [Act.put, List.setIfInBounds_toArray, List.set_cons_zero, List.set_cons_succ]
          refine wpAnyF_take (i := 5) (oi := { dst := some 64, op := Go.Op.binOp Go.BinOp.eql 3 (Go.Operand.tmp 60) (Go.Operand.tmp 63) 3, type := 4, pos := "own.go:188", after := #[{ on := 1, ground := Go.Ground.data }, { on := 4, ground := Go.Ground.data }], guard := none }) (v := ?v301_5) hNW (by decide) rfl (by kernel_rfl) (by kernel_rfl) (by kernel_rfl) (by kernel_rfl) (fun _ _ _ h => h) (Or.inl ⟨by kernel_rfl, ?h301_5⟩) (by assumption) ?r301_5
          case h301_5 => (intro wt hSw; obtain ⟨-, hs0⟩ := hSw; go_simp; try with_reducible rfl)
          simp only [Act.put, List.setIfInBounds_toArray, List.set_cons_zero, List.set_cons_succ]
          refine wpAnyF_take (i := 6) (oi := { dst := some 65, op := Go.Op.move (Go.Operand.tmp 64), type := 4, pos := "own.go:188", after := #[{ on := 5, ground := Go.Ground.data }], guard := none }) (v := ?v301_6) hNW (by decide) rfl (by kernel_rfl) (by kernel_rfl) (by kernel_rfl) (by kernel_rfl) (fun _ _ _ h => h) (Or.inl ⟨by kernel_rfl, ?h301_6⟩) (by assumption) ?r301_6
          case h301_6 => (intro wt hSw; obtain ⟨-, hs0⟩ := hSw; go_simp; try with_reducible rfl)
          simp only [Act.put, List.setIfInBounds_toArray, List.set_cons_zero, List.set_cons_succ]
          refine wpAnyF_take (i := 7) (oi := { dst := some 66, op := Go.Op.move (Go.Operand.tmp 2), type := 57, pos := "own.go:188", after := #[{ on := 6, ground := Go.Ground.guard }], guard := some (6, true) }) (v := ?v301_7) hNW (by decide) rfl (by kernel_rfl) (by kernel_rfl) (by kernel_rfl) (by kernel_rfl) (fun _ _ _ h => h) (Or.inl ⟨by kernel_rfl, ?h301_7⟩) (by assumption) ?r301_7
          case h301_7 => (intro wt hSw; obtain ⟨-, hs0⟩ := hSw; go_simp; try with_reducible rfl)
          simp only [Act.put, List.setIfInBounds_toArray, List.set_cons_zero, List.set_cons_succ]
          refine wpAnyF_take (i := 8) (oi := { dst := some 67, op := Go.Op.move (Go.Operand.tmp 14), type := 38, pos := "own.go:188", after := #[{ on := 6, ground := Go.Ground.guard }], guard := some (6, true) }) (v := ?v301_8) hNW (by decide) rfl (by kernel_rfl) (by kernel_rfl) (by kernel_rfl) (by kernel_rfl) (fun _ _ _ h => h) (Or.inl ⟨by kernel_rfl, ?h301_8⟩) (by assumption) ?r301_8
          case h301_8 => (intro wt hSw; obtain ⟨-, hs0⟩ := hSw; go_simp; try with_reducible rfl)
          simp only [Act.put, List.setIfInBounds_toArray, List.set_cons_zero, List.set_cons_succ]
          refine wpAnyF_oneH (i := 9) (o := { dst := some 68, op := Go.Op.call { callee := Go.Callee.value (Go.Operand.func 24), args := #[Go.Operand.tmp 66, Go.Operand.tmp 67], argTypes := #[57, 38] }, type := 4, pos := "own.go:188", after := #[{ on := 7, ground := Go.Ground.data }, { on := 8, ground := Go.Ground.data }, { on := 6, ground := Go.Ground.chain }, { on := 6, ground := Go.Ground.guard }], guard := some (6, true) }) rfl (by kernel_rfl) (by kernel_rfl) ?_
          refine step_callx (f := 24) (args := #[pt b 0, .slice a3 np c3]) (by first | kernel_rfl | go_simp) (HISB.out _ hB0) ?_
          rintro v9 w9 ⟨rfl, hb9, ho9⟩
          have hB9 := hb9
          have hHeld9 := (show (fun w' => Below w.heap.size w w' ∧ w'.cell? ⟨b, 0, none⟩ = some (.slice ka np kc)) w9 from ⟨hB9, cell_kept hB9 HC0.out⟩)
          refine ⟨fun _ => hHeld9, ?_⟩
          simp only [Act.put, List.setIfInBounds_toArray, List.set_cons_zero, List.set_cons_succ]
          refine wpAnyF_take (i := 10) (oi := { dst := some 69, op := Go.Op.pick (Go.Operand.tmp 65) (Go.Operand.tmp 68) (Go.Operand.const (Go.Value.bool false)), type := 4, pos := "own.go:188", after := #[{ on := 6, ground := Go.Ground.data }, { on := 9, ground := Go.Ground.data }], guard := none }) (v := ?v301_10) hNW (by decide) rfl (by kernel_rfl) (by kernel_rfl) (by kernel_rfl) (by kernel_rfl) (fun _ _ _ h => h) (Or.inl ⟨by kernel_rfl, ?h301_10⟩) (by assumption) ?r301_10
          case h301_10 => (intro wt hSw; obtain ⟨-, hs0⟩ := hSw; go_simp; try with_reducible rfl)
          simp only [Act.put, List.setIfInBounds_toArray, List.set_cons_zero, List.set_cons_succ]
          refine wpAnyF_take (i := 11) (oi := { dst := some 70, op := Go.Op.move (Go.Operand.tmp 69), type := 4, pos := "own.go:188", after := #[{ on := 10, ground := Go.Ground.data }, { on := 9, ground := Go.Ground.chain }], guard := none }) (v := ?v301_11) hNW (by decide) rfl (by kernel_rfl) (by kernel_rfl) (by kernel_rfl) (by kernel_rfl) (fun _ _ _ h => h) (Or.inl ⟨by kernel_rfl, ?h301_11⟩) (by assumption) ?r301_11
          case h301_11 => (intro wt hSw; obtain ⟨-, hs0⟩ := hSw; go_simp; try with_reducible rfl)
          simp only [Act.put, List.setIfInBounds_toArray, List.set_cons_zero, List.set_cons_succ]
          refine wpAnyF_oneH (i := 12) (o := { dst := some 71, op := Go.Op.call { callee := Go.Callee.value (Go.Operand.func 32), args := #[Go.Operand.tmp 7], argTypes := #[67] }, type := 4, pos := "own.go:188", after := #[{ on := 11, ground := Go.Ground.chain }, { on := 11, ground := Go.Ground.guard }], guard := some (11, true) }) rfl (by kernel_rfl) (by kernel_rfl) ?_
          refine step_callx (f := 32) (args := #[pt w.heap.size 0]) (by first | kernel_rfl | go_simp) (HGD.out _ ho9) ?_
          rintro v12 w12 ⟨rfl, hB12⟩
          have hHeld12 := (show (fun w' => Below w.heap.size w w' ∧ w'.cell? ⟨b, 0, none⟩ = some (.slice ka np kc)) w12 from ⟨hB12, cell_kept hB12 HC0.out⟩)
          refine ⟨fun _ => hHeld12, ?_⟩
          simp only [Act.put, List.setIfInBounds_toArray, List.set_cons_zero, List.set_cons_succ]
          refine wpAnyF_take (i := 13) (oi := { dst := some 72, op := Go.Op.pick (Go.Operand.tmp 70) (Go.Operand.tmp 71) (Go.Operand.const (Go.Value.bool false)), type := 4, pos := "own.go:188", after := #[{ on := 11, ground := Go.Ground.data }, { on := 12, ground := Go.Ground.data }], guard := none }) (v := ?v301_13) hNW (by decide) rfl (by kernel_rfl) (by kernel_rfl) (by kernel_rfl) (by kernel_rfl) (fun _ _ _ h => h) (Or.inl ⟨by kernel_rfl, ?h301_13⟩) (by assumption) ?r301_13
          case h301_13 => (intro wt hSw; obtain ⟨-, hs0⟩ := hSw; go_simp; try with_reducible rfl)
          simp only [Act.put, List.setIfInBounds_toArray, List.set_cons_zero, List.set_cons_succ]
          refine wpAnyF_take (i := 14) (oi := { dst := some 73, op := Go.Op.move (Go.Operand.tmp 72), type := 4, pos := "own.go:188", after := #[{ on := 13, ground := Go.Ground.data }, { on := 12, ground := Go.Ground.chain }], guard := none }) (v := ?v301_14) hNW (by decide) rfl (by kernel_rfl) (by kernel_rfl) (by kernel_rfl) (by kernel_rfl) (fun _ _ _ h => h) (Or.inl ⟨by kernel_rfl, ?h301_14⟩) (by assumption) ?r301_14
          case h301_14 => (intro wt hSw; obtain ⟨-, hs0⟩ := hSw; go_simp; try with_reducible rfl)
          simp only [Act.put, List.setIfInBounds_toArray, List.set_cons_zero, List.set_cons_succ]
          refine wpAnyF_take (i := 15) (oi := { dst := some 74, op := Go.Op.move (Go.Operand.tmp 2), type := 57, pos := "own.go:188", after := #[{ on := 14, ground := Go.Ground.guard }], guard := some (14, true) }) (v := ?v301_15) hNW (by decide) rfl (by kernel_rfl) (by kernel_rfl) (by kernel_rfl) (by kernel_rfl) (fun _ _ _ h => h) (Or.inl ⟨by kernel_rfl, ?h301_15⟩) (by assumption) ?r301_15
          case h301_15 => (intro wt hSw; obtain ⟨-, hs0⟩ := hSw; go_simp; try with_reducible rfl)
          simp only [Act.put, List.setIfInBounds_toArray, List.set_cons_zero, List.set_cons_succ]
          refine wpAnyF_take (i := 16) (oi := { dst := some 75, op := Go.Op.move (Go.Operand.tmp 1), type := 26, pos := "own.go:188", after := #[{ on := 14, ground := Go.Ground.guard }], guard := some (14, true) }) (v := ?v301_16) hNW (by decide) rfl (by kernel_rfl) (by kernel_rfl) (by kernel_rfl) (by kernel_rfl) (fun _ _ _ h => h) (Or.inl ⟨by kernel_rfl, ?h301_16⟩) (by assumption) ?r301_16
          case h301_16 => (intro wt hSw; obtain ⟨-, hs0⟩ := hSw; go_simp; try with_reducible rfl)
          simp only [Act.put, List.setIfInBounds_toArray, List.set_cons_zero, List.set_cons_succ]
          refine wpAnyF_oneH (i := 17) (o := { dst := some 76, op := Go.Op.call { callee := Go.Callee.value (Go.Operand.func 17), args := #[Go.Operand.tmp 75], argTypes := #[26] }, type := 38, pos := "own.go:188", after := #[{ on := 16, ground := Go.Ground.data }, { on := 14, ground := Go.Ground.chain }, { on := 14, ground := Go.Ground.guard }], guard := some (14, true) }) rfl (by kernel_rfl) (by kernel_rfl) ?_
          refine step_callx (f := 17) (args := #[pt q 0]) (by first | kernel_rfl | go_simp) (HRC.out _ hB12) ?_
          rintro v17 w17 ⟨ra, rc, rfl, hR17, hb17⟩
          have hB17 : Below w.heap.size w w17 := hB12.trans (hb17.mono hB12.size)
          have hHeld17 := (show (fun w' => Below w.heap.size w w' ∧ w'.cell? ⟨b, 0, none⟩ = some (.slice ka np kc)) w17 from ⟨hB17, cell_kept hB17 HC0.out⟩)
          refine ⟨fun _ => hHeld17, ?_⟩
          simp only [Act.put, List.setIfInBounds_toArray, List.set_cons_zero, List.set_cons_succ]
          refine wpAnyF_oneH (i := 18) (o := { dst := some 77, op := Go.Op.call { callee := Go.Callee.value (Go.Operand.func 24), args := #[Go.Operand.tmp 74, Go.Operand.tmp 76], argTypes := #[57, 38] }, type := 4, pos := "own.go:188", after := #[{ on := 15, ground := Go.Ground.data }, { on := 17, ground := Go.Ground.data }, { on := 17, ground := Go.Ground.chain }, { on := 14, ground := Go.Ground.guard }], guard := some (14, true) }) rfl (by kernel_rfl) (by kernel_rfl) ?_
          refine step_callx (f := 24) (args := #[pt b 0, .slice ra np rc]) (by first | kernel_rfl | go_simp) (HIS.out _ _ _ hB17 hR17) ?_
          rintro v18 w18 ⟨rfl, hb18⟩
          have hB18 : Below w.heap.size w w18 := hB17.trans (hb18.mono hB17.size)
          have hHeld18 := (show (fun w' => Below w.heap.size w w' ∧ w'.cell? ⟨b, 0, none⟩ = some (.slice ka np kc)) w18 from ⟨hB18, cell_kept hB18 HC0.out⟩)
          refine ⟨fun _ => hHeld18, ?_⟩
          simp only [Act.put, List.setIfInBounds_toArray, List.set_cons_zero, List.set_cons_succ]
          refine wpAnyF_take (i := 19) (oi := { dst := some 78, op := Go.Op.pick (Go.Operand.tmp 73) (Go.Operand.tmp 77) (Go.Operand.const (Go.Value.bool false)), type := 4, pos := "own.go:188", after := #[{ on := 14, ground := Go.Ground.data }, { on := 18, ground := Go.Ground.data }], guard := none }) (v := ?v301_19) hNW (by decide) rfl (by kernel_rfl) (by kernel_rfl) (by kernel_rfl) (by kernel_rfl) (fun _ _ _ h => h) (Or.inl ⟨by kernel_rfl, ?h301_19⟩) (by assumption) ?r301_19
          case h301_19 => (intro wt hSw; obtain ⟨-, hs0⟩ := hSw; go_simp; try with_reducible rfl)
          simp only [Act.put, List.setIfInBounds_toArray, List.set_cons_zero, List.set_cons_succ]
          refine wpAnyF_take (i := 20) (oi := { dst := some 79, op := Go.Op.move (Go.Operand.tmp 78), type := 4, pos := "own.go:188", after := #[{ on := 19, ground := Go.Ground.data }, { on := 18, ground := Go.Ground.chain }], guard := none }) (v := ?v301_20) hNW (by decide) rfl (by kernel_rfl) (by kernel_rfl) (by kernel_rfl) (by kernel_rfl) (fun _ _ _ h => h) (Or.inl ⟨by kernel_rfl, ?h301_20⟩) (by assumption) ?r301_20
          case h301_20 => (intro wt hSw; obtain ⟨-, hs0⟩ := hSw; go_simp; try with_reducible rfl)
          simp only [Act.put, List.setIfInBounds_toArray, List.set_cons_zero, List.set_cons_succ]
          refine wpAnyF_take (i := 21) (oi := { dst := some 80, op := Go.Op.move (Go.Operand.tmp 1), type := 26, pos := "own.go:188", after := #[{ on := 20, ground := Go.Ground.guard }], guard := some (20, true) }) (v := ?v301_21) hNW (by decide) rfl (by kernel_rfl) (by kernel_rfl) (by kernel_rfl) (by kernel_rfl) (fun _ _ _ h => h) (Or.inl ⟨by kernel_rfl, ?h301_21⟩) (by assumption) ?r301_21
          case h301_21 => (intro wt hSw; obtain ⟨-, hs0⟩ := hSw; go_simp; try with_reducible rfl)
          simp only [Act.put, List.setIfInBounds_toArray, List.set_cons_zero, List.set_cons_succ]
          refine wpAnyF_take (i := 23) (oi := { dst := some 82, op := Go.Op.move (Go.Operand.tmp 2), type := 57, pos := "own.go:188", after := #[{ on := 20, ground := Go.Ground.guard }], guard := some (20, true) }) (v := ?v301_23) hNW (by decide) rfl (by kernel_rfl) (by kernel_rfl) (by kernel_rfl) (by kernel_rfl) (fun _ _ _ h => h) (Or.inl ⟨by kernel_rfl, ?h301_23⟩) (by assumption) ?r301_23
          case h301_23 => (intro wt hSw; obtain ⟨-, hs0⟩ := hSw; go_simp; try with_reducible rfl)
          simp only [Act.put, List.setIfInBounds_toArray, List.set_cons_zero, List.set_cons_succ]
          refine wpAnyF_take (i := 24) (oi := { dst := some 83, op := Go.Op.nilCheck (Go.Operand.tmp 82), type := 0, pos := "own.go:188", after := #[{ on := 23, ground := Go.Ground.data }, { on := 20, ground := Go.Ground.guard }], guard := some (20, true) }) (v := ?v301_24) hNW (by decide) rfl (by kernel_rfl) (by kernel_rfl) (by kernel_rfl) (by kernel_rfl) (fun _ _ _ h => h) (Or.inl ⟨by kernel_rfl, ?h301_24⟩) (by assumption) ?r301_24
          case h301_24 => (intro wt hSw; obtain ⟨-, hs0⟩ := hSw; go_simp; try with_reducible rfl)
          simp only [Act.put, List.setIfInBounds_toArray, List.set_cons_zero, List.set_cons_succ]
          refine wpAnyF_take (i := 25) (oi := { dst := some 84, op := Go.Op.fieldAddr 46 (Go.Operand.tmp 83) 0, type := 0, pos := "own.go:188", after := #[{ on := 24, ground := Go.Ground.data }, { on := 20, ground := Go.Ground.guard }], guard := some (20, true) }) (v := ?v301_25) hNW (by decide) rfl (by kernel_rfl) (by kernel_rfl) (by kernel_rfl) (by kernel_rfl) (fun _ _ _ h => h) (Or.inl ⟨by kernel_rfl, ?h301_25⟩) (by assumption) ?r301_25
          case h301_25 => (intro wt hSw; obtain ⟨-, hs0⟩ := hSw; go_simp; try with_reducible rfl)
          simp only [Act.put, List.setIfInBounds_toArray, List.set_cons_zero, List.set_cons_succ]
          refine wpAnyF_take (i := 26) (oi := { dst := some 85, op := Go.Op.load 30 (Go.Operand.tmp 84), type := 30, pos := "own.go:188", after := #[{ on := 25, ground := Go.Ground.data }, { on := 20, ground := Go.Ground.guard }], guard := some (20, true) }) (v := ?v301_26) hNW (by decide) rfl (by kernel_rfl) (by kernel_rfl) (by kernel_rfl) (by kernel_rfl) (fun _ _ _ h => h) (Or.inl ⟨by kernel_rfl, ?h301_26⟩) (by assumption) ?r301_26
          case h301_26 => (intro wt hSw; obtain ⟨-, hs0⟩ := hSw; go_simp; try with_reducible rfl)
          simp only [Act.put, List.setIfInBounds_toArray, List.set_cons_zero, List.set_cons_succ]
          refine wpAnyF_take (i := 27) (oi := { dst := some 86, op := Go.Op.call { callee := Go.Callee.builtin Go.Builtin.len, args := #[Go.Operand.tmp 85], argTypes := #[30] }, type := 3, pos := "own.go:188", after := #[{ on := 26, ground := Go.Ground.data }, { on := 20, ground := Go.Ground.guard }], guard := some (20, true) }) (v := ?v301_27) hNW (by decide) rfl (by kernel_rfl) (by kernel_rfl) (by kernel_rfl) (by kernel_rfl) (fun _ _ _ h => h) (Or.inl ⟨by kernel_rfl, ?h301_27⟩) (by assumption) ?r301_27
          case h301_27 => (intro wt hSw; obtain ⟨-, hs0⟩ := hSw; go_simp; try with_reducible rfl)
          simp only [Act.put, List.setIfInBounds_toArray, List.set_cons_zero, List.set_cons_succ]
          refine wpAnyF_take (i := 28) (oi := { dst := some 87, op := Go.Op.convert 3 35 (Go.Operand.tmp 86), type := 35, pos := "own.go:188", after := #[{ on := 27, ground := Go.Ground.data }, { on := 20, ground := Go.Ground.guard }], guard := some (20, true) }) (v := ?v301_28) hNW (by decide) rfl (by kernel_rfl) (by kernel_rfl) (by kernel_rfl) (by kernel_rfl) (fun _ _ _ h => h) (Or.inl ⟨by kernel_rfl, ?h301_28⟩) (by assumption) ?r301_28
          case h301_28 => (intro wt hSw; obtain ⟨-, hs0⟩ := hSw; go_simp; try with_reducible rfl)
          simp only [Act.put, List.setIfInBounds_toArray, List.set_cons_zero, List.set_cons_succ]
          refine wpAnyF_oneH (i := 22) (o := { dst := some 81, op := Go.Op.call { callee := Go.Callee.value (Go.Operand.func 15), args := #[Go.Operand.tmp 80], argTypes := #[26] }, type := 35, pos := "own.go:188", after := #[{ on := 21, ground := Go.Ground.data }, { on := 20, ground := Go.Ground.chain }, { on := 20, ground := Go.Ground.guard }], guard := some (20, true) }) rfl (by kernel_rfl) (by kernel_rfl) ?_
          refine step_callx (f := 15) (args := #[pt q 0]) (by first | kernel_rfl | go_simp) (HLN.out _ hB18) ?_
          rintro v22 w22 ⟨rfl, hb22⟩
          have hB22 : Below w.heap.size w w22 := hB18.trans (hb22.mono hB18.size)
          have hHeld22 := (show (fun w' => Below w.heap.size w w' ∧ w'.cell? ⟨b, 0, none⟩ = some (.slice ka np kc)) w22 from ⟨hB22, cell_kept hB22 HC0.out⟩)
          refine ⟨fun _ => hHeld22, ?_⟩
          simp only [Act.put, List.setIfInBounds_toArray, List.set_cons_zero, List.set_cons_succ]
          refine wpAnyF_take (i := 29) (oi := { dst := some 88, op := Go.Op.binOp Go.BinOp.eql 35 (Go.Operand.tmp 81) (Go.Operand.tmp 87) 35, type := 4, pos := "own.go:188", after := #[{ on := 22, ground := Go.Ground.data }, { on := 28, ground := Go.Ground.data }, { on := 20, ground := Go.Ground.guard }], guard := some (20, true) }) (v := ?v301_29) hNW (by decide) rfl (by kernel_rfl) (by kernel_rfl) (by kernel_rfl) (by kernel_rfl) (fun _ _ _ h => h) (Or.inl ⟨by kernel_rfl, ?h301_29⟩) (by assumption) ?r301_29
          case h301_29 => (intro wt hSw; obtain ⟨-, hs0⟩ := hSw; go_simp; try with_reducible rfl)
          simp only [Act.put, List.setIfInBounds_toArray, List.set_cons_zero, List.set_cons_succ]
          refine wpAnyF_take (i := 30) (oi := { dst := some 89, op := Go.Op.pick (Go.Operand.tmp 79) (Go.Operand.tmp 88) (Go.Operand.const (Go.Value.bool false)), type := 4, pos := "own.go:188", after := #[{ on := 20, ground := Go.Ground.data }, { on := 29, ground := Go.Ground.data }], guard := none }) (v := ?v301_30) hNW (by decide) rfl (by kernel_rfl) (by kernel_rfl) (by kernel_rfl) (by kernel_rfl) (fun _ _ _ h => h) (Or.inl ⟨by kernel_rfl, ?h301_30⟩) (by assumption) ?r301_30
          case h301_30 => (intro wt hSw; obtain ⟨-, hs0⟩ := hSw; go_simp; try with_reducible rfl)
          simp only [Act.put, List.setIfInBounds_toArray, List.set_cons_zero, List.set_cons_succ]
          refine wpAnyF_one (i := 31) (o := { dst := some 6, op := Go.Op.assign (Go.Operand.tmp 89), type := 4, pos := "own.go:188", after := #[{ on := 30, ground := Go.Ground.data }, { on := 22, ground := Go.Ground.chain }, { on := 0, ground := Go.Ground.phase }, { on := 1, ground := Go.Ground.phase }, { on := 2, ground := Go.Ground.phase }, { on := 3, ground := Go.Ground.phase }, { on := 4, ground := Go.Ground.phase }, { on := 5, ground := Go.Ground.phase }, { on := 6, ground := Go.Ground.phase }, { on := 7, ground := Go.Ground.phase }, { on := 8, ground := Go.Ground.phase }, { on := 9, ground := Go.Ground.phase }, { on := 10, ground := Go.Ground.phase }, { on := 11, ground := Go.Ground.phase }, { on := 12, ground := Go.Ground.phase }, { on := 13, ground := Go.Ground.phase }, { on := 14, ground := Go.Ground.phase }, { on := 15, ground := Go.Ground.phase }, { on := 16, ground := Go.Ground.phase }, { on := 17, ground := Go.Ground.phase }, { on := 18, ground := Go.Ground.phase }, { on := 19, ground := Go.Ground.phase }, { on := 20, ground := Go.Ground.phase }, { on := 21, ground := Go.Ground.phase }, { on := 22, ground := Go.Ground.phase }, { on := 23, ground := Go.Ground.phase }, { on := 24, ground := Go.Ground.phase }, { on := 25, ground := Go.Ground.phase }, { on := 26, ground := Go.Ground.phase }, { on := 27, ground := Go.Ground.phase }, { on := 28, ground := Go.Ground.phase }, { on := 29, ground := Go.Ground.phase }, { on := 30, ground := Go.Ground.phase }], guard := none }) rfl rfl (by kernel_rfl) ?_
          refine step_val (v := .bool true) (w' := w22) (by first | kernel_rfl | go_simp) ?_
          refine ⟨fun h => absurd rfl h, ?_⟩
          simp only [Act.put]
          refine wpAnyF_done (by kernel_rfl) ?_ _
          have HB22 := hid hB22
          clear hNW hHeld hHeld9 hHeld12 hHeld17 hHeld18 hHeld22 hB0 hB9 hb9 ho9 hB12 hB17 hB18 hR17 hb17 hb18 hB22 hb22
          go_wp2_with fail
          go_ret
          exact ⟨rfl, HB22.out⟩
end Go.Proofs.YtfhjiggaacgncaaDoor
