import Derived.Test.YtaklbofbhanjgaaDoorDs1
namespace Go.Proofs.YtaklbofbhanjgaaDoor
open Go.RowKit
set_option maxRecDepth 100000
set_option maxHeartbeats 4000000 in
/-- A piece that is not refused comes with its path. -/
theorem put_any {w : World} {p : Nat} {v : Value} {m : Mf} {Y : List Value} {L : List Rg} {i V n c pc : Nat} {da pa : Option Addr} {d : List (BitVec 8)} {PL : List (List (BitVec 8))} {G : Bool → World → Prop} (h : StAt w p v m Y L) (hr : refI m (i : Int) n = 0) (hV : cntI m = V) (hd : BytesAt w da d) (hn : d.length = n) (hc : n ≤ c) (hcm : c ≤ 9223372036854775807) (hp : SumsAt w pa PL) (hp2 : PL.length ≤ 9223372036854775807) (hp3 : ∀ x ∈ PL, x.length = 32) (hi : i < V) (hVm : V ≤ 4611686018427387904) (hK : KTab w) (h2 : 2 ≤ w.heap.size)
    (hk : leadsB m.rt V i (leafS d) PL = true → ∀ w', Below w.heap.size w w' → Calls Tryd.prog 64 #[.pointer (some ⟨p, 0, none⟩), .int .i64 (i : Int), .slice da n c] w' fun e w2 => ∃ b, e = .returned (.bool b) ∧ G b w2) :
    Calls Tryd.prog 32 #[.pointer (some ⟨p, 0, none⟩), .int .i64 (i : Int), .slice da n c, .slice pa PL.length pc] w fun e w' => (leadsB m.rt V i (leafS d) PL = false ∧ e = .returned (.tuple #[.bool false, .int .i64 226]) ∧ Below w.heap.size w w') ∨ (leadsB m.rt V i (leafS d) PL = true ∧ ∃ b, e = .returned (.tuple #[.bool b, .int .i64 0]) ∧ G b w') := by
  have H63 : Hid (Calls Tryd.prog 63 #[.pointer (some ⟨p, 0, none⟩), .int .i64 (i : Int), .slice da n c] w fun e w' => e = .returned (.int .i64 0) ∧ Below w.heap.size w w') := by
    have := refuses_st h (i : Int) (da := da) (n := n) (c := c)
    rw [hr] at this
    exact this
  have H28 : Hid (∀ w, Calls Tryd.prog 28 #[.agg m.cells.toArray] w fun e w' => ∃ v, e = .returned v ∧ (v = .int .i64 (V : Int) ∧ Below w.heap.size w w')) := fun w => (count_any h.rt).mono fun e w' ⟨h1, h2⟩ => ⟨_, h1, by rw [hV], h2⟩
  have H8 : Hid (∀ w', Below w.heap.size w w' → Calls Tryd.prog 8 #[.slice da n c] w' fun e w2 => ∃ v, e = .returned v ∧ (v = .agg (bcells (leafS d)).toArray ∧ Below w'.heap.size w' w2)) := fun w' hb => (leaf_any (hd.kept hb) hn hc hcm (hK.kept hb) (Nat.le_trans h2 hb.size)).mono fun e w2 ⟨h1, h2⟩ => ⟨_, h1, rfl, h2⟩
  have H18 : Hid (∀ w', Below w.heap.size w w' → Calls Tryd.prog 18 #[.agg (bcells m.rt).toArray, .int .i64 (V : Int), .int .i64 (i : Int), .agg (bcells (leafS d)).toArray, .slice pa PL.length pc] w' fun e w2 => ∃ v, e = .returned v ∧ (v = .bool (leadsB m.rt V i (leafS d) PL) ∧ Below w'.heap.size w' w2)) := fun w' hb => (leads_any (n := V) (i := i) (c := pc) h.rt (sha_len _) (fun k hk => by
      obtain ⟨g, o, e, hr⟩ := hp k hk
      exact ⟨g, o, e, fun j v hv => cell_kept hb (hr j v hv)⟩) hp2 hp3 hi hVm (hK.kept hb) (Nat.le_trans h2 hb.size)).mono fun e w2 ⟨h1, h2⟩ => ⟨_, h1, rfl, h2⟩
  have HKP := hid hk
  obtain ⟨RW, hRW⟩ : ∃ RW, v :: (m.cells ++ Y) = RW := ⟨_, rfl⟩
  have HRW : Hid (Row w p RW 65) := by show Row _ _ _ _; rw [← hRW]; exact h.row
  have HRT : Hid (∀ wt, Row wt p RW 65 → wt.rangeAt p 4 (bcells m.rt)) := fun wt hw j x hx => by
    rw [← hRW] at hw
    exact row_root hw j x hx
  have HCT : Hid (∀ wt, Row wt p RW 65 → wt.rangeAt p 1 m.cells) := fun wt hw j x hx => by
    rw [← hRW] at hw
    exact row_mid hw j x hx
  have HL : Hid (m.cells.length = 35 ∧ m.rt.length = 32) := ⟨Mf.cells_len h.rt, h.rt⟩
  have I35 := hid iMf
  have I32 := hid i44
  clear h hr hV hd hn hc hcm hp hp2 hp3 hi hVm hK h2 hk hRW
  obtain ⟨nm, sz, pcI, rt⟩ := m
  dsimp only at H18 HRT HL HKP ⊢
  generalize Mf.cells ⟨nm, sz, pcI, rt⟩ = C at *
  generalize leadsB rt V i (leafS d) PL = LB at *
  generalize leafS d = LF at *
  go_enter Tryd.func32, Tryd.ntmps32
  go_upto_region 4 with (go_at_call 63; refine Calls.mono H63.out ?_; rintro e w1 ⟨rfl, hb1⟩; have HB1 := hid hb1; have HRD : Hid (Row w1.drew p RW 65) := ⟨(HRW.out.kept hb1 HRW.out.lt).at_⟩; clear hb1)
  have HBd : Hid (Below w.heap.size w w1.drew) := ⟨HB1.out.os, HB1.out.tape, HB1.out.output, HB1.out.size, HB1.out.block⟩
  refine wp_region_last (S := fun w' => Row w' p RW 65) (N := 15) (by kernel_rfl) (by kernel_rfl) fun hNW => ?_
  have hHeld : (fun w' => Row w' p RW 65) w1.drew := HRD.out
  refine wpAnyF_take (i := 0) (oi := { dst := some 18, op := Go.Op.move (Go.Operand.tmp 0), type := 49, pos := "pieces.go:62", after := #[], guard := none }) (v := .pointer (some ⟨p, 0, none⟩)) hNW (by decide) rfl (by kernel_rfl) (by kernel_rfl) (by kernel_rfl) (by kernel_rfl) (fun _ _ _ h => h) (Or.inl ⟨by kernel_rfl, ?ha0⟩) (by assumption) ?ra0
  case ha0 => (intro wt hSw; (try dsimp only at hSw); go_simp; try with_reducible rfl)
  simp only [Act.put, List.setIfInBounds_toArray, List.set_cons_zero, List.set_cons_succ]
  refine wpAnyF_take (i := 1) (oi := { dst := some 19, op := Go.Op.nilCheck (Go.Operand.tmp 18), type := 0, pos := "pieces.go:62", after := #[{ on := 0, ground := Go.Ground.data }], guard := none }) (v := .pointer (some ⟨p, 0, none⟩)) hNW (by decide) rfl (by kernel_rfl) (by kernel_rfl) (by kernel_rfl) (by kernel_rfl) (fun _ _ _ h => h) (Or.inl ⟨by kernel_rfl, ?ha1⟩) (by assumption) ?ra1
  case ha1 => (intro wt hSw; (try dsimp only at hSw); go_simp; try with_reducible rfl)
  simp only [Act.put, List.setIfInBounds_toArray, List.set_cons_zero, List.set_cons_succ]
  refine wpAnyF_take (i := 2) (oi := { dst := some 20, op := Go.Op.fieldAddr 65 (Go.Operand.tmp 19) 1, type := 0, pos := "pieces.go:62", after := #[{ on := 1, ground := Go.Ground.data }], guard := none }) (v := .pointer (some ⟨p, 1, none⟩)) hNW (by decide) rfl (by kernel_rfl) (by kernel_rfl) (by kernel_rfl) (by kernel_rfl) (fun _ _ _ h => h) (Or.inl ⟨by kernel_rfl, ?ha2⟩) (by assumption) ?ra2
  case ha2 => (intro wt hSw; (try dsimp only at hSw); go_simp; try with_reducible rfl)
  simp only [Act.put, List.setIfInBounds_toArray, List.set_cons_zero, List.set_cons_succ]
  refine wpAnyF_take (i := 3) (oi := { dst := some 21, op := Go.Op.fieldAddr 39 (Go.Operand.tmp 20) 3, type := 0, pos := "pieces.go:62", after := #[{ on := 2, ground := Go.Ground.data }], guard := none }) (v := .pointer (some ⟨p, 4, none⟩)) hNW (by decide) rfl (by kernel_rfl) (by kernel_rfl) (by kernel_rfl) (by kernel_rfl) (fun _ _ _ h => h) (Or.inl ⟨by kernel_rfl, ?ha3⟩) (by assumption) ?ra3
  case ha3 => (intro wt hSw; (try dsimp only at hSw); go_simp; try with_reducible rfl)
  simp only [Act.put, List.setIfInBounds_toArray, List.set_cons_zero, List.set_cons_succ]
  refine wpAnyF_take (i := 4) (oi := { dst := some 22, op := Go.Op.load 25 (Go.Operand.tmp 21), type := 25, pos := "pieces.go:62", after := #[{ on := 3, ground := Go.Ground.data }], guard := none }) (v := .agg (bcells rt).toArray) hNW (by decide) rfl (by kernel_rfl) (by kernel_rfl) (by kernel_rfl) (by kernel_rfl) (fun _ _ _ h => h) (Or.inl ⟨by kernel_rfl, ?ha4⟩) (by assumption) ?ra4
  case ha4 => (intro wt hSw; (try dsimp only at hSw); have hl := run_loadAt_mid (P := Tryd.prog) wt p 4 25 (bcells rt) _ (HRT.out wt hSw) Tryd.underlying25 rfl (by rw [bcells_len, HL.out.2]; exact I32.out); simp [execOp, Act.eval, hl])
  simp only [Act.put, List.setIfInBounds_toArray, List.set_cons_zero, List.set_cons_succ]
  refine wpAnyF_take (i := 5) (oi := { dst := some 23, op := Go.Op.move (Go.Operand.tmp 0), type := 49, pos := "pieces.go:62", after := #[], guard := none }) (v := .pointer (some ⟨p, 0, none⟩)) hNW (by decide) rfl (by kernel_rfl) (by kernel_rfl) (by kernel_rfl) (by kernel_rfl) (fun _ _ _ h => h) (Or.inl ⟨by kernel_rfl, ?ha5⟩) (by assumption) ?ra5
  case ha5 => (intro wt hSw; (try dsimp only at hSw); go_simp; try with_reducible rfl)
  simp only [Act.put, List.setIfInBounds_toArray, List.set_cons_zero, List.set_cons_succ]
  refine wpAnyF_take (i := 6) (oi := { dst := some 24, op := Go.Op.nilCheck (Go.Operand.tmp 23), type := 0, pos := "pieces.go:62", after := #[{ on := 5, ground := Go.Ground.data }], guard := none }) (v := .pointer (some ⟨p, 0, none⟩)) hNW (by decide) rfl (by kernel_rfl) (by kernel_rfl) (by kernel_rfl) (by kernel_rfl) (fun _ _ _ h => h) (Or.inl ⟨by kernel_rfl, ?ha6⟩) (by assumption) ?ra6
  case ha6 => (intro wt hSw; (try dsimp only at hSw); go_simp; try with_reducible rfl)
  simp only [Act.put, List.setIfInBounds_toArray, List.set_cons_zero, List.set_cons_succ]
  refine wpAnyF_take (i := 7) (oi := { dst := some 25, op := Go.Op.fieldAddr 65 (Go.Operand.tmp 24) 1, type := 0, pos := "pieces.go:62", after := #[{ on := 6, ground := Go.Ground.data }], guard := none }) (v := .pointer (some ⟨p, 1, none⟩)) hNW (by decide) rfl (by kernel_rfl) (by kernel_rfl) (by kernel_rfl) (by kernel_rfl) (fun _ _ _ h => h) (Or.inl ⟨by kernel_rfl, ?ha7⟩) (by assumption) ?ra7
  case ha7 => (intro wt hSw; (try dsimp only at hSw); go_simp; try with_reducible rfl)
  simp only [Act.put, List.setIfInBounds_toArray, List.set_cons_zero, List.set_cons_succ]
  refine wpAnyF_take (i := 8) (oi := { dst := some 26, op := Go.Op.load 39 (Go.Operand.tmp 25), type := 39, pos := "pieces.go:62", after := #[{ on := 7, ground := Go.Ground.data }], guard := none }) (v := .agg C.toArray) hNW (by decide) rfl (by kernel_rfl) (by kernel_rfl) (by kernel_rfl) (by kernel_rfl) (fun _ _ _ h => h) (Or.inl ⟨by kernel_rfl, ?ha8⟩) (by assumption) ?ra8
  case ha8 => (intro wt hSw; (try dsimp only at hSw); have hl := run_loadAt_mid (P := Tryd.prog) wt p 1 39 C _ (HCT.out wt hSw) Tryd.underlying39 rfl (by rw [HL.out.1]; exact I35.out); simp [execOp, Act.eval, hl])
  simp only [Act.put, List.setIfInBounds_toArray, List.set_cons_zero, List.set_cons_succ]
  refine wpAnyF_take (i := 10) (oi := { dst := some 28, op := Go.Op.move (Go.Operand.tmp 1), type := 3, pos := "pieces.go:62", after := #[], guard := none }) (v := .int .i64 i) hNW (by decide) rfl (by kernel_rfl) (by kernel_rfl) (by kernel_rfl) (by kernel_rfl) (fun _ _ _ h => h) (Or.inl ⟨by kernel_rfl, ?ha10⟩) (by assumption) ?ra10
  case ha10 => (intro wt hSw; (try dsimp only at hSw); go_simp; try with_reducible rfl)
  simp only [Act.put, List.setIfInBounds_toArray, List.set_cons_zero, List.set_cons_succ]
  refine wpAnyF_take (i := 11) (oi := { dst := some 29, op := Go.Op.move (Go.Operand.tmp 2), type := 22, pos := "pieces.go:62", after := #[], guard := none }) (v := .slice da n c) hNW (by decide) rfl (by kernel_rfl) (by kernel_rfl) (by kernel_rfl) (by kernel_rfl) (fun _ _ _ h => h) (Or.inl ⟨by kernel_rfl, ?ha11⟩) (by assumption) ?ra11
  case ha11 => (intro wt hSw; (try dsimp only at hSw); go_simp; try with_reducible rfl)
  simp only [Act.put, List.setIfInBounds_toArray, List.set_cons_zero, List.set_cons_succ]
  refine wpAnyF_take (i := 13) (oi := { dst := some 31, op := Go.Op.move (Go.Operand.tmp 3), type := 23, pos := "pieces.go:62", after := #[], guard := none }) (v := .slice pa PL.length pc) hNW (by decide) rfl (by kernel_rfl) (by kernel_rfl) (by kernel_rfl) (by kernel_rfl) (fun _ _ _ h => h) (Or.inl ⟨by kernel_rfl, ?ha13⟩) (by assumption) ?ra13
  case ha13 => (intro wt hSw; (try dsimp only at hSw); go_simp; try with_reducible rfl)
  simp only [Act.put, List.setIfInBounds_toArray, List.set_cons_zero, List.set_cons_succ]
  refine wpAnyF_one (i := 9) (o := { dst := some 27, op := Go.Op.call { callee := Go.Callee.value (Go.Operand.func 28), args := #[Go.Operand.tmp 26], argTypes := #[39] }, type := 3, pos := "pieces.go:62", after := #[{ on := 8, ground := Go.Ground.data }], guard := none }) rfl rfl (by kernel_rfl) ?_
  refine step_callx (f := 28) (args := #[.agg C.toArray]) (by first | kernel_rfl | go_simp) (H28.out w1.drew) ?_
  rintro v2 w2 ⟨rfl, hb2⟩
  have hr2 := HRD.out.kept hb2 HRD.out.lt
  refine ⟨fun _ => hr2, ?_⟩
  simp only [Act.put, List.setIfInBounds_toArray, List.set_cons_zero, List.set_cons_succ]
  refine wpAnyF_one (i := 12) (o := { dst := some 30, op := Go.Op.call { callee := Go.Callee.value (Go.Operand.func 8), args := #[Go.Operand.tmp 29], argTypes := #[22] }, type := 25, pos := "pieces.go:62", after := #[{ on := 11, ground := Go.Ground.data }, { on := 9, ground := Go.Ground.chain }], guard := none }) rfl rfl (by kernel_rfl) ?_
  have hb12 := HBd.out.trans (hb2.mono HBd.out.size)
  refine step_callx (f := 8) (args := #[.slice da n c]) (by first | kernel_rfl | go_simp) (H8.out w2 hb12) ?_
  rintro v3 w3 ⟨rfl, hb3⟩
  have hr3 := hr2.kept hb3 hr2.lt
  refine ⟨fun _ => hr3, ?_⟩
  simp only [Act.put, List.setIfInBounds_toArray, List.set_cons_zero, List.set_cons_succ]
  refine wpAnyF_one (i := 14) (o := { dst := some 32, op := Go.Op.call { callee := Go.Callee.value (Go.Operand.func 18), args := #[Go.Operand.tmp 22, Go.Operand.tmp 27, Go.Operand.tmp 28, Go.Operand.tmp 30, Go.Operand.tmp 31], argTypes := #[25, 3, 3, 25, 23] }, type := 4, pos := "pieces.go:62", after := #[{ on := 4, ground := Go.Ground.data }, { on := 9, ground := Go.Ground.data }, { on := 10, ground := Go.Ground.data }, { on := 12, ground := Go.Ground.data }, { on := 13, ground := Go.Ground.data }, { on := 12, ground := Go.Ground.chain }], guard := none }) rfl rfl (by kernel_rfl) ?_
  have hb13 := hb12.trans (hb3.mono hb12.size)
  refine step_callx (f := 18) (args := #[.agg (bcells rt).toArray, .int .i64 V, .int .i64 i, .agg (bcells LF).toArray, .slice pa PL.length pc]) (by first | kernel_rfl | go_simp) (H18.out w3 hb13) ?_
  rintro v4 w4 ⟨rfl, hb4⟩
  have hr4 := hr3.kept hb4 hr3.lt
  refine ⟨fun _ => hr4, ?_⟩
  simp only [Act.put, List.setIfInBounds_toArray, List.set_cons_zero, List.set_cons_succ]
  refine wpAnyF_one (i := 15) (o := { dst := some 33, op := Go.Op.unOp Go.UnOp.not 4 (Go.Operand.tmp 32), type := 4, pos := "pieces.go:62", after := #[{ on := 14, ground := Go.Ground.data }], guard := none }) rfl rfl (by kernel_rfl) ?_
  refine step_val (v := .bool (!LB)) (w' := w4) (by first | kernel_rfl | go_simp) ?_
  refine ⟨fun h => absurd rfl h, ?_⟩
  simp only [Act.put]
  refine wpAnyF_done (by kernel_rfl) ?_ _
  have HB4 : Hid (Below w.heap.size w w4) := hb13.trans (hb4.mono hb13.size)
  clear hNW hHeld hr2 hr3 hr4 hb2 hb3 hb4 hb12 hb13 HRD HBd H18 H8 H28 H63 HRT HCT HRW
  cases LB with
  | false =>
    go_wp2_with fail
    go_ret2
    exact ⟨rfl, HB4.out⟩
  | true =>
    go_wp2_with (go_at_call 64; refine Calls.mono (HKP.out rfl _ HB4.out) ?_; rintro e w5 ⟨b, rfl, hg⟩; have HG := hid hg; clear hg)
    go_ret2
    cases b with
    | false => exact .inl ⟨rfl, HG.out⟩
    | true => exact .inr ⟨rfl, HG.out⟩
end Go.Proofs.YtaklbofbhanjgaaDoor
