import Derived.Test.YtgfefopihkiihaaCa8
namespace Go.Proofs.Ytgfefopihkiihaa
open Go.RowKit Go.Maps
set_option maxRecDepth 100000

set_option maxHeartbeats 8000000 in
/-- The same captures. -/
theorem sameCap_any {w : World} {li na : Bool} {sn lk : Int} {a a' : Option Addr} {c c' : Nat} {P P' : List Pkt} (h : PksRd w a P) (h' : PksRd w a' P') (hv : P.map Pkt.view = P'.map Pkt.view) (hl : P.length ≤ 140737488355328) :
    Calls Try.prog 12 #[.agg (capC li na sn lk (.slice a P.length c)).toArray, .agg (capC li na sn lk (.slice a' P'.length c')).toArray] w fun en w' => en = .returned (.bool true) ∧ Below w.heap.size w w' := by
  have hlen : P'.length = P.length := by have := congrArg List.length hv; simpa using this.symm
  have HE := hid h
  have HE' := hid h'
  have HV := hid hv
  have HLE := hid hlen
  rw [hlen]
  have R := Row.new w (capC li na sn lk (.slice a P.length c)) 27
  have R1 := R.alloc (.cells (capC li na sn lk (.slice a' P.length c')).toArray 27)
  have R2 := Row.new (w.alloc (.cells (capC li na sn lk (.slice a P.length c)).toArray 27)) (capC li na sn lk (.slice a' P.length c')) 27
  have hs1 : (w.alloc (.cells (capC li na sn lk (.slice a P.length c)).toArray 27)).heap.size = w.heap.size + 1 := by simp
  rw [hs1] at R2
  have HB1 := hid ((below_new w (.cells (capC li na sn lk (.slice a P.length c)).toArray 27)).trans ((below_new (w.alloc (.cells (capC li na sn lk (.slice a P.length c)).toArray 27)) (.cells (capC li na sn lk (.slice a' P.length c')).toArray 27)).mono (below_new w _).size))
  have hll : (P.length : Int) ≤ 140737488355328 := by omega
  clear R h h' hv hlen
  go_enter Try.func12, Try.ntmps12
  go_upto_region 1 with fail
  refine wp_world fun w1 HW1 => ?_
  obtain ⟨b, hb⟩ : ∃ b, w.heap.size = b := ⟨_, rfl⟩
  have R1' : Row w1 b (capC li na sn lk (.slice a P.length c)) 27 := by rw [HW1.out, ← hb]; exact R1
  have R2' : Row w1 (b + 1) (capC li na sn lk (.slice a' P.length c')) 27 := by rw [HW1.out, ← hb]; exact R2
  have HB1' : Hid (Below b w w1) := by rw [HW1.out, ← hb]; exact HB1.out
  rw [hb]
  have HBB := hid hb
  have HR1 := hid R1'
  have HR2 := hid R2'
  have x0 := R1'.cell 0 _ rfl
  have x1 := R1'.cell 1 _ rfl
  have x2 := R1'.cell 2 _ rfl
  have x3 := R1'.cell 3 _ rfl
  have x4 := R1'.cell 4 _ rfl
  have y0 := R2'.cell 0 _ rfl
  have y1 := R2'.cell 1 _ rfl
  have y2 := R2'.cell 2 _ rfl
  have y3 := R2'.cell 3 _ rfl
  have y4 := R2'.cell 4 _ rfl
  clear R1 R2 R1' R2' HB1 HW1 hb hs1
  go_upto_region 4 with fail
  clear x0 x1 x2 x3 x4 y0 y1 y2 y3 y4
  go_loopw [44] (fun t wx => ∃ j : Nat, t = .int .i64 j ∧ j ≤ P.length ∧ Below b w wx ∧ Row wx b (capC li na sn lk (.slice a P.length c)) 27 ∧ Row wx (b + 1) (capC li na sn lk (.slice a' P.length c')) 27) (fun t _ => P.length - (intOf t).toNat)
  case atStart => exact ⟨0, by go_num, Nat.zero_le _, HB1'.out, HR1.out, HR2.out⟩
  case round =>
    obtain ⟨j, rfl, hj, hBw, hR1, hR2⟩ := hrel
    have hj0 : (0 : Int) ≤ (j : Int) := by omega
    have HBw := hid hBw
    have HS1 := hid hR1
    have HS2 := hid hR2
    clear HR1 HR2 HB1'
    by_cases hjl : j < P.length
    · have hji : (j : Int) < (P.length : Int) := by omega
      obtain ⟨e, he⟩ : ∃ e, P[j]? = some e := ⟨_, List.getElem?_eq_getElem hjl⟩
      obtain ⟨f, hf⟩ : ∃ f, P'[j]? = some f := ⟨_, List.getElem?_eq_getElem (by have := HLE.out; omega)⟩
      have hview : e.view = f.view := by
        have h1 := congrArg (fun x => x[j]?) HV.out
        simp only [List.getElem?_map, he, hf, Option.map_some, Option.some.injEq] at h1
        exact h1
      have hk := HE.out.kept (HBB.out.symm ▸ hBw)
      have hk' := HE'.out.kept (HBB.out.symm ▸ hBw)
      obtain ⟨g, o, rfl, hc⟩ := hk.row j e he
      obtain ⟨g', o', rfl, hc'⟩ := hk'.row j f hf
      have HSP := hid (samePkt_any (w := wr.drew) (p := e) (q := f) (hk.at_ e (List.mem_of_getElem? he)) (hk'.at_ f (List.mem_of_getElem? hf)) hview)
      have c0 : wr.cell? ⟨g, o + j * 4, none⟩ = some (.int .u32 e.sec) := hc 0 _ rfl
      have c1 : wr.cell? ⟨g, o + j * 4 + 1, none⟩ = some (.int .u32 e.part) := hc 1 _ rfl
      have c2 : wr.cell? ⟨g, o + j * 4 + 2, none⟩ = some (.int .u32 e.len) := hc 2 _ rfl
      have c3 : wr.cell? ⟨g, o + j * 4 + 3, none⟩ = some (.slice e.fa e.bs.length e.fc) := hc 3 _ rfl
      have e0 : wr.cell? ⟨g', o' + j * 4, none⟩ = some (.int .u32 f.sec) := hc' 0 _ rfl
      have e1 : wr.cell? ⟨g', o' + j * 4 + 1, none⟩ = some (.int .u32 f.part) := hc' 1 _ rfl
      have e2 : wr.cell? ⟨g', o' + j * 4 + 2, none⟩ = some (.int .u32 f.len) := hc' 2 _ rfl
      have e3 : wr.cell? ⟨g', o' + j * 4 + 3, none⟩ = some (.slice f.fa f.bs.length f.fc) := hc' 3 _ rfl
      have x4 := hR1.cell 4 _ rfl
      have y4 := hR2.cell 4 _ rfl
      clear hc hc' hk hk' hBw he hf hR1 hR2 hview
      go_upto_region 6 with fail
      refine wp_region_some (fun w' => w' = wr.drew) [10] (by kernel_rfl) ?_
      have hHeld := (show (fun w' => w' = wr.drew) wr.drew from rfl)
      refine wpAnyG_take' (i := 0) (oi := { dst := some 47, op := Go.Op.fieldAddr 27 (Go.Operand.tmp 2) 4, type := 0, pos := "ref.go:205", after := #[], guard := none }) (v := ?v1_0) rfl (by kernel_rfl) (by kernel_rfl) (by kernel_rfl) (fun _ _ _ h => h) (Or.inl ⟨by kernel_rfl, ?h1_0⟩) ?r1_0
      case h1_0 => (intro wt hSw; clear hSw; go_simp; try with_reducible rfl)
      simp only [Act.put, List.setIfInBounds_toArray, List.set_cons_zero, List.set_cons_succ]
      refine wpAnyG_take (i := 1) (oi := { dst := some 48, op := Go.Op.load 25 (Go.Operand.tmp 47), type := 25, pos := "ref.go:205", after := #[{ on := 0, ground := Go.Ground.data }], guard := none }) (v := ?v1_1) (by kernel_rfl) rfl (by kernel_rfl) (by kernel_rfl) (by kernel_rfl) (by kernel_rfl) (fun _ _ _ h => h) (Or.inl ⟨by kernel_rfl, ?h1_1⟩) (by assumption) ?r1_1
      case h1_1 => (intro wt hSw; (try dsimp only at hSw); subst hSw; go_simp; try rfl)
      simp only [Act.put, List.setIfInBounds_toArray, List.set_cons_zero, List.set_cons_succ]
      refine wpAnyG_take' (i := 2) (oi := { dst := some 49, op := Go.Op.move (Go.Operand.tmp 5), type := 3, pos := "ref.go:205", after := #[], guard := none }) (v := ?v1_2) rfl (by kernel_rfl) (by kernel_rfl) (by kernel_rfl) (fun _ _ _ h => h) (Or.inl ⟨by kernel_rfl, ?h1_2⟩) ?r1_2
      case h1_2 => (intro wt hSw; clear hSw; go_simp; try with_reducible rfl)
      simp only [Act.put, List.setIfInBounds_toArray, List.set_cons_zero, List.set_cons_succ]
      refine wpAnyG_take' (i := 3) (oi := { dst := some 50, op := Go.Op.indexAddr 25 (Go.Operand.tmp 48) (Go.Operand.tmp 49), type := 0, pos := "ref.go:205", after := #[{ on := 1, ground := Go.Ground.data }, { on := 2, ground := Go.Ground.data }], guard := none }) (v := ?v1_3) rfl (by kernel_rfl) (by kernel_rfl) (by kernel_rfl) (fun _ _ _ h => h) (Or.inl ⟨by kernel_rfl, ?h1_3⟩) ?r1_3
      case h1_3 => (intro wt hSw; clear hSw; go_simp; try with_reducible rfl)
      simp only [Act.put, List.setIfInBounds_toArray, List.set_cons_zero, List.set_cons_succ]
      refine wpAnyG_take (i := 4) (oi := { dst := some 51, op := Go.Op.load 58 (Go.Operand.tmp 50), type := 58, pos := "ref.go:205", after := #[{ on := 3, ground := Go.Ground.data }], guard := none }) (v := .agg (pcells e).toArray) (by kernel_rfl) rfl (by kernel_rfl) (by kernel_rfl) (by kernel_rfl) (by kernel_rfl) (fun _ _ _ h => h) (Or.inl ⟨by kernel_rfl, ?h1_4⟩) (by assumption) ?r1_4
      case h1_4 => (intro wt hSw; (try dsimp only at hSw); subst hSw; go_simp; try rfl)
      simp only [Act.put, List.setIfInBounds_toArray, List.set_cons_zero, List.set_cons_succ]
      refine wpAnyG_take' (i := 5) (oi := { dst := some 52, op := Go.Op.fieldAddr 27 (Go.Operand.tmp 3) 4, type := 0, pos := "ref.go:205", after := #[], guard := none }) (v := ?v1_5) rfl (by kernel_rfl) (by kernel_rfl) (by kernel_rfl) (fun _ _ _ h => h) (Or.inl ⟨by kernel_rfl, ?h1_5⟩) ?r1_5
      case h1_5 => (intro wt hSw; clear hSw; go_simp; try with_reducible rfl)
      simp only [Act.put, List.setIfInBounds_toArray, List.set_cons_zero, List.set_cons_succ]
      refine wpAnyG_take (i := 6) (oi := { dst := some 53, op := Go.Op.load 25 (Go.Operand.tmp 52), type := 25, pos := "ref.go:205", after := #[{ on := 5, ground := Go.Ground.data }], guard := none }) (v := ?v1_6) (by kernel_rfl) rfl (by kernel_rfl) (by kernel_rfl) (by kernel_rfl) (by kernel_rfl) (fun _ _ _ h => h) (Or.inl ⟨by kernel_rfl, ?h1_6⟩) (by assumption) ?r1_6
      case h1_6 => (intro wt hSw; (try dsimp only at hSw); subst hSw; go_simp; try rfl)
      simp only [Act.put, List.setIfInBounds_toArray, List.set_cons_zero, List.set_cons_succ]
      refine wpAnyG_take' (i := 7) (oi := { dst := some 54, op := Go.Op.move (Go.Operand.tmp 5), type := 3, pos := "ref.go:205", after := #[], guard := none }) (v := ?v1_7) rfl (by kernel_rfl) (by kernel_rfl) (by kernel_rfl) (fun _ _ _ h => h) (Or.inl ⟨by kernel_rfl, ?h1_7⟩) ?r1_7
      case h1_7 => (intro wt hSw; clear hSw; go_simp; try with_reducible rfl)
      simp only [Act.put, List.setIfInBounds_toArray, List.set_cons_zero, List.set_cons_succ]
      refine wpAnyG_take' (i := 8) (oi := { dst := some 55, op := Go.Op.indexAddr 25 (Go.Operand.tmp 53) (Go.Operand.tmp 54), type := 0, pos := "ref.go:205", after := #[{ on := 6, ground := Go.Ground.data }, { on := 7, ground := Go.Ground.data }], guard := none }) (v := ?v1_8) rfl (by kernel_rfl) (by kernel_rfl) (by kernel_rfl) (fun _ _ _ h => h) (Or.inl ⟨by kernel_rfl, ?h1_8⟩) ?r1_8
      case h1_8 => (intro wt hSw; clear hSw; go_simp; try with_reducible rfl)
      simp only [Act.put, List.setIfInBounds_toArray, List.set_cons_zero, List.set_cons_succ]
      refine wpAnyG_take (i := 9) (oi := { dst := some 56, op := Go.Op.load 58 (Go.Operand.tmp 55), type := 58, pos := "ref.go:205", after := #[{ on := 8, ground := Go.Ground.data }], guard := none }) (v := .agg (pcells f).toArray) (by kernel_rfl) rfl (by kernel_rfl) (by kernel_rfl) (by kernel_rfl) (by kernel_rfl) (fun _ _ _ h => h) (Or.inl ⟨by kernel_rfl, ?h1_9⟩) (by assumption) ?r1_9
      case h1_9 => (intro wt hSw; (try dsimp only at hSw); subst hSw; go_simp; try rfl)
      simp only [Act.put, List.setIfInBounds_toArray, List.set_cons_zero, List.set_cons_succ]
      refine wpAnyG_one (i := 10) (o := { dst := some 57, op := Go.Op.call { callee := Go.Callee.value (Go.Operand.func 27), args := #[Go.Operand.tmp 51, Go.Operand.tmp 56], argTypes := #[58, 58] }, type := 4, pos := "ref.go:205", after := #[{ on := 4, ground := Go.Ground.data }, { on := 9, ground := Go.Ground.data }], guard := none }) rfl (by kernel_rfl) (by kernel_rfl) ?_
      refine step_callxi (f := 27) (args := #[.agg (pcells e).toArray, .agg (pcells f).toArray]) (G := fun v w2 => v = .bool true ∧ Below wr.drew.heap.size wr.drew w2) (by first | kernel_rfl | go_simp) (HSP.out.mono (fun en w2 h => ⟨_, h.1, rfl, h.2⟩)) ?_
      rintro v7 w7 ⟨rfl, hpb⟩
      refine ⟨fun h => absurd (by simp) h, ?_⟩
      simp only [Act.put, List.setIfInBounds_toArray, List.set_cons_zero, List.set_cons_succ]
      refine wpAnyG_take' (i := 11) (oi := { dst := some 58, op := Go.Op.unOp Go.UnOp.not 4 (Go.Operand.tmp 57), type := 4, pos := "ref.go:205", after := #[{ on := 10, ground := Go.Ground.data }], guard := none }) (v := ?v1_11) rfl (by kernel_rfl) (by kernel_rfl) (by kernel_rfl) (fun _ _ _ h => h) (Or.inl ⟨by kernel_rfl, ?h1_11⟩) ?r1_11
      case h1_11 => (intro wt hSw; clear hSw; go_simp; try with_reducible rfl)
      simp only [Act.put, List.setIfInBounds_toArray, List.set_cons_zero, List.set_cons_succ]
      refine wpAnyG_done (by kernel_rfl) ?_ _
      have HB6 : Hid (Below b w w7) := HBw.out.trans (Below.trans (below_drewN (Below.refl _ _) 1) (hpb.mono (by have := HBw.out.size; have := HBB.out; show b ≤ wr.heap.size; omega)))
      have HT1 := hid (Row.kept (w := wr) HS1.out ⟨hpb.os, hpb.tape, hpb.output, hpb.size, hpb.block⟩ HS1.out.lt)
      have HT2 := hid (Row.kept (w := wr) HS2.out ⟨hpb.os, hpb.tape, hpb.output, hpb.size, hpb.block⟩ HS2.out.lt)
      clear hHeld hpb c0 c1 c2 c3 e0 e1 e2 e3 x4 y4
      go_wp2_with fail
      go_roundw
      case rel => exact ⟨j + 1, by go_num, by omega, HB6.out, HT1.out, HT2.out⟩
      case measure => simp [intOf]; omega
    · obtain rfl : j = P.length := by omega
      have hji : ¬ (P.length : Int) < (P.length : Int) := by omega
      clear hBw hR1 hR2
      go_wp2_with fail
      go_ret
      refine ⟨rfl, ?_⟩
      rw [HBB.out]
      exact HBw.out
end Go.Proofs.Ytgfefopihkiihaa
