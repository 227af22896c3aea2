import Derived.Test.YtaklbofbhanjgaaDoorSl
import Derived.Test.YtaklbofbhanjgaaDoorDs1
namespace Go.Proofs.YtaklbofbhanjgaaDoor
open Go.RowKit
set_option maxRecDepth 100000
theorem bytes_cut2 {w : World} {g o : Nat} {l : List (BitVec 8)} (h : BytesAt w (some ⟨g, o, none⟩) l) (L p : Nat) : BytesAt w (some ⟨g, o + L, none⟩) ((l.drop L).take p) := fun k hk => by
  have hk2 : L + k < l.length := by simp at hk; omega
  obtain ⟨g', o', e, hc⟩ := h (L + k) hk2
  cases e
  refine ⟨g, o + L, rfl, ?_⟩
  rw [show o + L + k = o + (L + k) by omega, hc]
  simp
/-- Behind the manifest's making. -/
structure FlE (w wF : World) (b2 b6 g o : Nat) (l : List (BitVec 8)) (C : List Value) : Prop where
  r6 : Row wF b6 C 39
  r2 : Row wF b2 mfZ.cells 39
  bl : Below w.heap.size w wF
  by_ : BytesAt wF (some ⟨g, o, none⟩) l
  ge : w.heap.size ≤ b2
  lt : b2 < b6
theorem fl_end {w wd : World} {b2 g o : Nat} {l : List (BitVec 8)} {C : List Value} (h : Row wd b2 mfZ.cells 39 ∧ Below w.heap.size w wd ∧ w.heap.size = b2 ∧ Row (wd.alloc (.cells mfZ.cells.toArray 39)) wd.heap.size mfZ.cells 39 ∧ BytesAt (wd.alloc (.cells mfZ.cells.toArray 39)) (some ⟨g, o, none⟩) l) (hb : BytesAt w (some ⟨g, o, none⟩) l) :
    FlE w ((wd.alloc (.cells mfZ.cells.toArray 39)).setRow wd.heap.size C.toArray) b2 wd.heap.size g o l C := by
  obtain ⟨h1, h2, h3, h4, h5⟩ := h
  have hbl : Below w.heap.size w ((wd.alloc (.cells mfZ.cells.toArray 39)).setRow wd.heap.size C.toArray) := Go.below_setRow (h2.trans ((nb_new wd _).mono h2.size)) h2.size _
  have hlt := h1.lt
  exact ⟨h4.row _, (h1.alloc _).rowOther (by omega) _, hbl, hb.kept hbl, by omega, hlt⟩
theorem fl_copy {w wF : World} {b2 b6 g o n c s5 k : Nat} {l : List (BitVec 8)} {NM : ByteArray} {N1 N2 : Int} (h : FlE w wF b2 b6 g o l (Mf.cells ⟨NM, N1, N2, z32⟩)) (hl : l.length = n ∧ n = 49 + k) (hs : s5 = 13 + k) :
    (Builtin.copy_ #[22, 22] 3 #[.slice (some ⟨b6, 3, none⟩) 32 32, .slice (some ⟨g, o + s5, none⟩) (n - s5) (c - s5)]).run Tryd.prog wF.drew = .ok (.int .i64 32) (wF.drew.setRow b6 (Mf.cells ⟨NM, N1, N2, (l.drop (13 + k)).take 32⟩).toArray) := by
  have hR : ((l.drop (13 + k)).take 32).length = 32 := by simp; omega
  have hsrc := bytes_src (bytes_cut2 h.by_ (13 + k) 32)
  have R : Row wF.drew b6 (Mf.cells ⟨NM, N1, N2, z32⟩) 39 := ⟨h.r6.at_⟩
  have hrun := run_copy_row (P := Tryd.prog) wF.drew 22 22 3 5 b6 3 32 32 ⟨g, o + s5, none⟩ (n - s5) (c - s5) (Mf.cells ⟨NM, N1, N2, z32⟩).toArray 39 (bcells ((l.drop (13 + k)).take 32)) Tryd.underlying22 (by kernel_rfl) R.at_ (by rw [bcells_len, hR]; show 32 = min (n - s5) 32; omega) (fun j v hv => by rw [hs]; exact hsrc j v hv) (by rw [bcells_len, hR, List.size_toArray, Mf.cells_len rfl]; decide) (bcells_one _)
  rw [hrun]
  have e : (Mf.cells ⟨NM, N1, N2, z32⟩).take 3 ++ bcells ((l.drop (13 + k)).take 32) ++ (Mf.cells ⟨NM, N1, N2, z32⟩).drop (3 + (bcells ((l.drop (13 + k)).take 32)).length) = Mf.cells ⟨NM, N1, N2, (l.drop (13 + k)).take 32⟩ := by
    rw [bcells_len, hR]
    show ([.string NM, .int .i64 N1, .int .i64 N2] : List Value) ++ _ ++ [] = _
    rw [List.append_nil]
    rfl
  rw [bcells_len, hR] at e ⊢
  congr 1
  rw [← e]
  try simp
structure FlF (w wG : World) (b2 b6 : Nat) (C : List Value) : Prop where
  r6 : Row wG b6 C 39
  r2 : Row wG b2 mfZ.cells 39
  bl : Below w.heap.size w wG
  ge : w.heap.size ≤ b2
theorem fl_fin {w wF : World} {b2 b6 g o : Nat} {l : List (BitVec 8)} {C C2 : List Value} (h : FlE w wF b2 b6 g o l C) : FlF w (wF.drew.setRow b6 C2.toArray) b2 b6 C2 := by
  have R6 : Row wF.drew b6 C 39 := ⟨h.r6.at_⟩
  have R2 : Row wF.drew b2 mfZ.cells 39 := ⟨h.r2.at_⟩
  have hd : Below w.heap.size w wF.drew := ⟨h.bl.os, h.bl.tape, h.bl.output, h.bl.size, h.bl.block⟩
  have hlt := h.lt
  have hge := h.ge
  exact ⟨R6.row _, R2.rowOther (by omega) _, Go.below_setRow hd (by omega) _, h.ge⟩
theorem step_copy22 {ops : Array Oper} {o : Oper} {a : Act} {w : World} {K : Act → World → Prop} {Q : Exit → Act → World → Prop} {E : Prop} (hgd : o.guard = none) (d s : Operand)
    (ho : o.op = .call { callee := .builtin .copy, args := #[d, s], argTypes := #[22, 22] }) (hty : o.type = 3) (v u : Value) (hd : a.eval d = v) (hs : a.eval s = u) {v' : Value} {w' : World}
    (hr : (Builtin.copy_ #[22, 22] 3 #[v, u]).run Tryd.prog w = .ok v' w') (h : K (a.put o.dst v') w') :
    if Region.wanted o (yielded ops a.tmps) = true then Oper.wp Tryd.prog o a w K Q else E := by
  have hw : Region.wanted o (yielded ops a.tmps) = true := by simp [Region.wanted, hgd]
  rw [if_pos hw]
  rw [← hty] at hr
  unfold Oper.wp
  simp [execOp, ho, resolve, invoke, builtin, hd, hs, hr, Result.andThen]
  exact h
set_option maxHeartbeats 8000000 in
theorem fields_any {w : World} {a : Option Addr} {c k : Nat} {l : List (BitVec 8)} (hB : BytesAt w a l) (hc : l.length ≤ c) (hcm : c ≤ 9223372036854775807) (hk : k ≤ 255) (hl : l.length = 49 + k) (h4 : (l.getD 4 0#8).toNat = k) :
    Calls Tryd.prog 50 #[.slice a l.length c] w fun e w' => e = .returned (.agg (fldM l k).cells.toArray) ∧ Below w.heap.size w w' := by
  obtain ⟨g, o, rfl, hc4⟩ := hB 4 (by omega)
  have hl4 : ub (l[4]'(by omega)) = (k : Int) := by
    rw [List.getD_eq_getElem?_getD, List.getElem?_eq_getElem (by omega)] at h4
    unfold ub; exact_mod_cast h4
  rw [hl4] at hc4
  obtain ⟨n, hn⟩ : ∃ n, l.length = n := ⟨_, rfl⟩
  have HB : Hid (BytesAt w (some ⟨g, o, none⟩) l) := hB
  have HN : Hid (l.length = n ∧ n = 49 + k) := ⟨hn, by omega⟩
  rw [hn]
  have q1 : (n : Int) = 49 + (k : Int) := by omega
  have q2 : (k : Int) ≤ 255 := by omega
  have q3 : (n : Int) ≤ c := by omega
  have q4 : (c : Int) ≤ 9223372036854775807 := by omega
  clear hB hc hcm hk hl h4 hl4 hn
  go_enter Tryd.func50, Tryd.ntmps50
  go_upto_region 1 with (fail)
  refine wp_world fun wa HW => ?_
  have HR2 : Hid (Row wa w.heap.size mfZ.cells 39) := by show Row _ _ _ _; rw [HW.out]; exact Row.new' _ _ _ _ _ rfl rfl
  have HBa : Hid (Below w.heap.size w wa) := by show Below _ _ _; rw [HW.out]; exact nb_new _ _
  clear HW
  have d4 := cell_kept HBa.out hc4
  obtain ⟨b2, e2⟩ : ∃ b, w.heap.size = b := ⟨_, rfl⟩
  have HB2 : Hid (w.heap.size = b2) := e2
  rw [e2] at HR2 ⊢
  clear e2 hc4
  go_upto_region 4 with (fail)
  obtain ⟨s3, e3⟩ : ∃ s : Nat, (5 : Int) + (k : Int) = (s : Int) := ⟨5 + k, by omega⟩
  rw [e3]
  obtain ⟨s4, e4⟩ : ∃ s : Nat, (s3 : Int) + 4 = (s : Int) := ⟨s3 + 4, by omega⟩
  rw [e4]
  obtain ⟨s5, e5⟩ : ∃ s : Nat, (s4 : Int) + 4 = (s : Int) := ⟨s4 + 4, by omega⟩
  rw [e5]
  have HSS : Hid (s3 = 5 + k ∧ s4 = 9 + k ∧ s5 = 13 + k ∧ 49 + k ≤ c) := ⟨by omega, by omega, by omega, by omega⟩
  clear e3 e4 e5 d4 q1 q2 q3 q4
  have HBD : Hid (Below w.heap.size w wa.drew) := ⟨HBa.out.os, HBa.out.tape, HBa.out.output, HBa.out.size, HBa.out.block⟩
  have HCV : Hid (∀ wt, BytesAt wt (some ⟨g, o, none⟩) l → (convert 22 9 (.slice (some ⟨g, o + 5, none⟩) (s3 - 5) (c - 5))).run Tryd.prog wt = .ok (.string (strOf ((l.drop 5).take k))) wt) := fun wt hb => convert_any (bytes_cut2 hb 5 k) (by have := HSS.out; have := HN.out; simp; omega)
  have H1 : Hid (∀ wt, BytesAt wt (some ⟨g, o, none⟩) l → Calls Tryd.prog 79 #[.slice (some ⟨g, o + s3, none⟩) (s4 - s3) (c - s3)] wt fun e w' => ∃ v, e = .returned v ∧ (v = .int .i64 (numL ((l.drop (5 + k)).take 4) : Int) ∧ w' = wt)) := fun wt hb => by
    have hl : ((l.drop (5 + k)).take 4).length = 4 := by have := HN.out; simp; omega
    have h := number_any (cap := c - s3) (bytes_cut2 hb (5 + k) 4) (by omega)
    rw [hl] at h
    rw [show s3 = 5 + k from HSS.out.1, show s4 - (5 + k) = 4 by have := HSS.out; omega]
    rw [show s3 = 5 + k from HSS.out.1] at h
    exact h.mono fun e w' ⟨h1, h2⟩ => ⟨_, h1, rfl, h2⟩
  have H2 : Hid (∀ wt, BytesAt wt (some ⟨g, o, none⟩) l → Calls Tryd.prog 79 #[.slice (some ⟨g, o + s4, none⟩) (s5 - s4) (c - s4)] wt fun e w' => ∃ v, e = .returned v ∧ (v = .int .i64 (numL ((l.drop (9 + k)).take 4) : Int) ∧ w' = wt)) := fun wt hb => by
    have hl : ((l.drop (9 + k)).take 4).length = 4 := by have := HN.out; simp; omega
    have h := number_any (cap := c - s4) (bytes_cut2 hb (9 + k) 4) (by omega)
    rw [hl] at h
    rw [show s4 = 9 + k from HSS.out.2.1, show s5 - (9 + k) = 4 by have := HSS.out; omega]
    rw [show s4 = 9 + k from HSS.out.2.1] at h
    exact h.mono fun e w' ⟨h1, h2⟩ => ⟨_, h1, rfl, h2⟩
  have HFM : Hid (fldM l k = ⟨strOf ((l.drop 5).take k), (numL ((l.drop (5 + k)).take 4) : Int), (numL ((l.drop (9 + k)).take 4) : Int), (l.drop (13 + k)).take 32⟩) := rfl
  have hby : BytesAt wa.drew (some ⟨g, o, none⟩) l := HB.out.kept HBD.out
  have I35 := hid iMf
  generalize strOf ((l.drop 5).take k) = NM at *
  generalize (numL ((l.drop (5 + k)).take 4) : Int) = N1 at *
  generalize (numL ((l.drop (9 + k)).take 4) : Int) = N2 at *
  obtain ⟨wd, ewd⟩ : ∃ x, wa.drew = x := ⟨_, rfl⟩
  have HWD : Hid (Row wd b2 mfZ.cells 39 ∧ Below w.heap.size w wd ∧ w.heap.size = b2 ∧ Row (wd.alloc (.cells mfZ.cells.toArray 39)) wd.heap.size mfZ.cells 39 ∧ BytesAt (wd.alloc (.cells mfZ.cells.toArray 39)) (some ⟨g, o, none⟩) l) := by
    show _ ∧ _ ∧ _ ∧ _ ∧ _
    rw [← ewd]
    exact ⟨⟨HR2.out.at_⟩, HBD.out, HB2.out, Row.new _ _ _, hby.kept (nb_new _ _)⟩
  rw [ewd] at hby HBD
  refine wp_region_last (S := fun w' => BytesAt w' (some ⟨g, o, none⟩) l) (N := 16) (by kernel_rfl) (by kernel_rfl) fun hNW => ?_
  rw [ewd]
  have hHeld : (fun w' => BytesAt w' (some ⟨g, o, none⟩) l) wd := (HB.out.kept HBD.out)
  refine wpAnyF_take (i := 0) (oi := { dst := some 16, op := Go.Op.move (Go.Operand.tmp 0), type := 22, pos := "manifest.go:113", after := #[], guard := none }) (v := .slice (some ⟨g, o, none⟩) n c) hNW (by decide) rfl (by kernel_rfl) (by kernel_rfl) (by kernel_rfl) (by kernel_rfl) (fun _ _ _ h => h) (Or.inl ⟨by kernel_rfl, ?ha0⟩) (by assumption) ?ra0
  case ha0 => (intro wt hSw; (try dsimp only at hSw); go_simp; try with_reducible rfl)
  simp only [Act.put, List.setIfInBounds_toArray, List.set_cons_zero, List.set_cons_succ]
  refine wpAnyF_take (i := 1) (oi := { dst := some 17, op := Go.Op.move (Go.Operand.tmp 3), type := 3, pos := "manifest.go:113", after := #[], guard := none }) (v := .int .i64 (s3 : Int)) hNW (by decide) rfl (by kernel_rfl) (by kernel_rfl) (by kernel_rfl) (by kernel_rfl) (fun _ _ _ h => h) (Or.inl ⟨by kernel_rfl, ?ha1⟩) (by assumption) ?ra1
  case ha1 => (intro wt hSw; (try dsimp only at hSw); go_simp; try with_reducible rfl)
  simp only [Act.put, List.setIfInBounds_toArray, List.set_cons_zero, List.set_cons_succ]
  refine wpAnyF_take (i := 2) (oi := { dst := some 18, op := Go.Op.slice 22 (Go.Operand.tmp 16) (some (Go.Operand.const (Go.Value.int Go.IntKind.i64 5))) (some (Go.Operand.tmp 17)) none, type := 22, pos := "manifest.go:113", after := #[{ on := 0, ground := Go.Ground.data }, { on := 1, ground := Go.Ground.data }], guard := none }) (v := .slice (some ⟨g, o + 5, none⟩) (s3 - 5) (c - 5)) hNW (by decide) rfl (by kernel_rfl) (by kernel_rfl) (by kernel_rfl) (by kernel_rfl) (fun _ _ _ h => h) (Or.inl ⟨by kernel_rfl, ?ha2⟩) (by assumption) ?ra2
  case ha2 => (intro wt hSw; (try dsimp only at hSw); have h := slc5 (w := wt) (g := g) (o := o) (n := n) (c := c) (hi := s3) (by have := HSS.out; omega) (by have := HSS.out; omega) (by have := HSS.out; omega); simp [execOp, Act.eval, h])
  simp only [Act.put, List.setIfInBounds_toArray, List.set_cons_zero, List.set_cons_succ]
  refine wpAnyF_take (i := 3) (oi := { dst := some 19, op := Go.Op.convert 22 9 (Go.Operand.tmp 18), type := 9, pos := "manifest.go:113", after := #[{ on := 2, ground := Go.Ground.data }], guard := none }) (v := .string NM) hNW (by decide) rfl (by kernel_rfl) (by kernel_rfl) (by kernel_rfl) (by kernel_rfl) (fun _ _ _ h => h) (Or.inl ⟨by kernel_rfl, ?ha3⟩) (by assumption) ?ra3
  case ha3 => (intro wt hSw; (try dsimp only at hSw); have h := HCV.out wt hSw; simp [execOp, Act.eval, h])
  simp only [Act.put, List.setIfInBounds_toArray, List.set_cons_zero, List.set_cons_succ]
  refine wpAnyF_take (i := 4) (oi := { dst := some 20, op := Go.Op.move (Go.Operand.tmp 0), type := 22, pos := "manifest.go:113", after := #[], guard := none }) (v := .slice (some ⟨g, o, none⟩) n c) hNW (by decide) rfl (by kernel_rfl) (by kernel_rfl) (by kernel_rfl) (by kernel_rfl) (fun _ _ _ h => h) (Or.inl ⟨by kernel_rfl, ?ha4⟩) (by assumption) ?ra4
  case ha4 => (intro wt hSw; (try dsimp only at hSw); go_simp; try with_reducible rfl)
  simp only [Act.put, List.setIfInBounds_toArray, List.set_cons_zero, List.set_cons_succ]
  refine wpAnyF_take (i := 5) (oi := { dst := some 21, op := Go.Op.move (Go.Operand.tmp 3), type := 3, pos := "manifest.go:113", after := #[], guard := none }) (v := .int .i64 (s3 : Int)) hNW (by decide) rfl (by kernel_rfl) (by kernel_rfl) (by kernel_rfl) (by kernel_rfl) (fun _ _ _ h => h) (Or.inl ⟨by kernel_rfl, ?ha5⟩) (by assumption) ?ra5
  case ha5 => (intro wt hSw; (try dsimp only at hSw); go_simp; try with_reducible rfl)
  simp only [Act.put, List.setIfInBounds_toArray, List.set_cons_zero, List.set_cons_succ]
  refine wpAnyF_take (i := 6) (oi := { dst := some 22, op := Go.Op.move (Go.Operand.tmp 4), type := 3, pos := "manifest.go:113", after := #[], guard := none }) (v := .int .i64 (s4 : Int)) hNW (by decide) rfl (by kernel_rfl) (by kernel_rfl) (by kernel_rfl) (by kernel_rfl) (fun _ _ _ h => h) (Or.inl ⟨by kernel_rfl, ?ha6⟩) (by assumption) ?ra6
  case ha6 => (intro wt hSw; (try dsimp only at hSw); go_simp; try with_reducible rfl)
  simp only [Act.put, List.setIfInBounds_toArray, List.set_cons_zero, List.set_cons_succ]
  refine wpAnyF_take (i := 7) (oi := { dst := some 23, op := Go.Op.slice 22 (Go.Operand.tmp 20) (some (Go.Operand.tmp 21)) (some (Go.Operand.tmp 22)) none, type := 22, pos := "manifest.go:113", after := #[{ on := 4, ground := Go.Ground.data }, { on := 5, ground := Go.Ground.data }, { on := 6, ground := Go.Ground.data }], guard := none }) (v := .slice (some ⟨g, o + s3, none⟩) (s4 - s3) (c - s3)) hNW (by decide) rfl (by kernel_rfl) (by kernel_rfl) (by kernel_rfl) (by kernel_rfl) (fun _ _ _ h => h) (Or.inl ⟨by kernel_rfl, ?ha7⟩) (by assumption) ?ra7
  case ha7 => (intro wt hSw; (try dsimp only at hSw); have h := slcA (w := wt) (g := g) (o := o) (n := n) (c := c) (lo := s3) (hi := s4) (by have := HSS.out; omega) (by have := HSS.out; omega) (by have := HSS.out; omega); simp [execOp, Act.eval, h])
  simp only [Act.put, List.setIfInBounds_toArray, List.set_cons_zero, List.set_cons_succ]
  refine wpAnyF_take (i := 9) (oi := { dst := some 25, op := Go.Op.move (Go.Operand.tmp 0), type := 22, pos := "manifest.go:113", after := #[], guard := none }) (v := .slice (some ⟨g, o, none⟩) n c) hNW (by decide) rfl (by kernel_rfl) (by kernel_rfl) (by kernel_rfl) (by kernel_rfl) (fun _ _ _ h => h) (Or.inl ⟨by kernel_rfl, ?ha9⟩) (by assumption) ?ra9
  case ha9 => (intro wt hSw; (try dsimp only at hSw); go_simp; try with_reducible rfl)
  simp only [Act.put, List.setIfInBounds_toArray, List.set_cons_zero, List.set_cons_succ]
  refine wpAnyF_take (i := 10) (oi := { dst := some 26, op := Go.Op.move (Go.Operand.tmp 4), type := 3, pos := "manifest.go:113", after := #[], guard := none }) (v := .int .i64 (s4 : Int)) hNW (by decide) rfl (by kernel_rfl) (by kernel_rfl) (by kernel_rfl) (by kernel_rfl) (fun _ _ _ h => h) (Or.inl ⟨by kernel_rfl, ?ha10⟩) (by assumption) ?ra10
  case ha10 => (intro wt hSw; (try dsimp only at hSw); go_simp; try with_reducible rfl)
  simp only [Act.put, List.setIfInBounds_toArray, List.set_cons_zero, List.set_cons_succ]
  refine wpAnyF_take (i := 11) (oi := { dst := some 27, op := Go.Op.move (Go.Operand.tmp 5), type := 3, pos := "manifest.go:113", after := #[], guard := none }) (v := .int .i64 (s5 : Int)) hNW (by decide) rfl (by kernel_rfl) (by kernel_rfl) (by kernel_rfl) (by kernel_rfl) (fun _ _ _ h => h) (Or.inl ⟨by kernel_rfl, ?ha11⟩) (by assumption) ?ra11
  case ha11 => (intro wt hSw; (try dsimp only at hSw); go_simp; try with_reducible rfl)
  simp only [Act.put, List.setIfInBounds_toArray, List.set_cons_zero, List.set_cons_succ]
  refine wpAnyF_take (i := 12) (oi := { dst := some 28, op := Go.Op.slice 22 (Go.Operand.tmp 25) (some (Go.Operand.tmp 26)) (some (Go.Operand.tmp 27)) none, type := 22, pos := "manifest.go:113", after := #[{ on := 9, ground := Go.Ground.data }, { on := 10, ground := Go.Ground.data }, { on := 11, ground := Go.Ground.data }], guard := none }) (v := .slice (some ⟨g, o + s4, none⟩) (s5 - s4) (c - s4)) hNW (by decide) rfl (by kernel_rfl) (by kernel_rfl) (by kernel_rfl) (by kernel_rfl) (fun _ _ _ h => h) (Or.inl ⟨by kernel_rfl, ?ha12⟩) (by assumption) ?ra12
  case ha12 => (intro wt hSw; (try dsimp only at hSw); have h := slcA (w := wt) (g := g) (o := o) (n := n) (c := c) (lo := s4) (hi := s5) (by have := HSS.out; omega) (by have := HSS.out; omega) (by have := HSS.out; omega); simp [execOp, Act.eval, h])
  simp only [Act.put, List.setIfInBounds_toArray, List.set_cons_zero, List.set_cons_succ]
  refine wpAnyF_two (i := 8) (j := 15) (o := { dst := some 24, op := Go.Op.call { callee := Go.Callee.value (Go.Operand.func 79), args := #[Go.Operand.tmp 23], argTypes := #[22] }, type := 3, pos := "manifest.go:115", after := #[{ on := 7, ground := Go.Ground.data }], guard := none }) (o' := { dst := some 6, op := Go.Op.alloc 39, type := 0, pos := "manifest.go:113", after := #[], guard := none }) rfl rfl rfl rfl (by kernel_rfl) ?pAa ?pAb
  case pAa =>
    refine step_callx (f := 79) (args := #[.slice (some ⟨g, o + s3, none⟩) (s4 - s3) (c - s3)]) (by first | kernel_rfl | go_simp) (H1.out wd hby) ?_
    rintro v8 w8 ⟨rfl, e8⟩
    rw [e8]
    clear e8 w8
    refine ⟨fun _ => hby, ?_⟩
    simp only [Act.put, List.setIfInBounds_toArray, List.set_cons_zero, List.set_cons_succ]
    refine wpAnyF_two (i := 13) (j := 15) (o := { dst := some 29, op := Go.Op.call { callee := Go.Callee.value (Go.Operand.func 79), args := #[Go.Operand.tmp 28], argTypes := #[22] }, type := 3, pos := "manifest.go:116", after := #[{ on := 12, ground := Go.Ground.data }, { on := 8, ground := Go.Ground.chain }], guard := none }) (o' := { dst := some 6, op := Go.Op.alloc 39, type := 0, pos := "manifest.go:113", after := #[], guard := none }) rfl rfl rfl rfl (by kernel_rfl) ?pBa ?pBb
    case pBa =>
      refine step_callx (f := 79) (args := #[.slice (some ⟨g, o + s4, none⟩) (s5 - s4) (c - s4)]) (by first | kernel_rfl | go_simp) (H2.out wd hby) ?_
      rintro v13 w13 ⟨rfl, e13⟩
      rw [e13]
      clear e13 w13
      refine ⟨fun _ => hby, ?_⟩
      simp only [Act.put, List.setIfInBounds_toArray, List.set_cons_zero, List.set_cons_succ]
      refine wpAnyF_two (i := 14) (j := 15) (o := { dst := some 30, op := Go.Op.build 39 #[(0, Go.Operand.tmp 19), (1, Go.Operand.tmp 24), (2, Go.Operand.tmp 29)], type := 39, pos := "manifest.go:113", after := #[{ on := 3, ground := Go.Ground.data }, { on := 8, ground := Go.Ground.data }, { on := 13, ground := Go.Ground.data }], guard := none }) (o' := { dst := some 6, op := Go.Op.alloc 39, type := 0, pos := "manifest.go:113", after := #[], guard := none }) rfl rfl rfl rfl (by kernel_rfl) ?pCa ?pCb
      case pCa =>
        refine step_built (t := 39) (cells := (Mf.cells ⟨NM, N1, N2, z32⟩).toArray) rfl ((congrArg (fun l => Tryd.prog.built 39 l) (by first | rfl | simp [Act.eval])).trans (built39v NM N1 N2)) ?_
        refine ⟨fun _ => hby, ?_⟩
        simp only [Act.put, List.setIfInBounds_toArray, List.set_cons_zero, List.set_cons_succ]
        refine wpAnyF_one (i := 15) (o := { dst := some 6, op := Go.Op.alloc 39, type := 0, pos := "manifest.go:113", after := #[], guard := none }) rfl rfl (by kernel_rfl) ?_
        refine step_val (v := .pointer (some ⟨wd.heap.size, 0, none⟩)) (w' := (wd.alloc (.cells mfZ.cells.toArray 39))) (by first | kernel_rfl | go_simp) ?_
        refine ⟨fun _ => HWD.out.2.2.2.2, ?_⟩
        simp only [Act.put, List.setIfInBounds_toArray, List.set_cons_zero, List.set_cons_succ]
        refine wpAnyF_one (i := 16) (o := { dst := none, op := Go.Op.store 39 (Go.Operand.tmp 6) (Go.Operand.tmp 30), type := 0, pos := "manifest.go:113", after := #[{ on := 15, ground := Go.Ground.data }, { on := 14, ground := Go.Ground.data }, { on := 13, ground := Go.Ground.chain }, { on := 0, ground := Go.Ground.phase }, { on := 1, ground := Go.Ground.phase }, { on := 2, ground := Go.Ground.phase }, { on := 3, ground := Go.Ground.phase }, { on := 4, ground := Go.Ground.phase }, { on := 5, ground := Go.Ground.phase }, { on := 6, ground := Go.Ground.phase }, { on := 7, ground := Go.Ground.phase }, { on := 8, ground := Go.Ground.phase }, { on := 9, ground := Go.Ground.phase }, { on := 10, ground := Go.Ground.phase }, { on := 11, ground := Go.Ground.phase }, { on := 12, ground := Go.Ground.phase }, { on := 13, ground := Go.Ground.phase }, { on := 14, ground := Go.Ground.phase }, { on := 15, ground := Go.Ground.phase }], guard := none }) rfl rfl (by kernel_rfl) ?_
        refine step_storeA (g := wd.heap.size) (c := mfZ.cells) (c' := Mf.cells ⟨NM, N1, N2, z32⟩) HWD.out.2.2.2.1 rfl rfl rfl rfl (Mf.cells_one _) (by rw [Mf.cells_len rfl]; exact I35.out) ?_
        refine ⟨fun h => absurd rfl h, ?_⟩
        simp only [Act.put]
        refine wpAnyF_done (by kernel_rfl) ?_ _
        clear hNW hHeld
        have HF : Hid (FlE w ((wd.alloc (.cells mfZ.cells.toArray 39)).setRow wd.heap.size (Mf.cells ⟨NM, N1, N2, z32⟩).toArray) b2 wd.heap.size g o l (Mf.cells ⟨NM, N1, N2, z32⟩)) := fl_end HWD.out HB.out
        generalize (wd.alloc (.cells mfZ.cells.toArray 39)).setRow wd.heap.size (Mf.cells ⟨NM, N1, N2, z32⟩).toArray = wF at *
        generalize wd.heap.size = b6 at *
        clear H1 H2 HCV HBD hby HWD
        go_upto_region 5 with (fail)
        have HCP : Hid ((Builtin.copy_ #[22, 22] 3 #[.slice (some ⟨b6, 3, none⟩) 32 32, .slice (some ⟨g, o + s5, none⟩) (n - s5) (c - s5)]).run Tryd.prog wF.drew = .ok (.int .i64 32) (wF.drew.setRow b6 (Mf.cells ⟨NM, N1, N2, (l.drop (13 + k)).take 32⟩).toArray)) := fl_copy (c := c) HF.out HN.out HSS.out.2.2.1
        have HFF : Hid (FlF w (wF.drew.setRow b6 (Mf.cells ⟨NM, N1, N2, (l.drop (13 + k)).take 32⟩).toArray) b2 b6 (fldM l k).cells) := by rw [HFM.out]; exact fl_fin HF.out
        have HFL : Hid ((fldM l k).cells.length = 35 ∧ ∀ x ∈ (fldM l k).cells, x.oneCell' = true) := ⟨Mf.cells_len (by rw [HFM.out]; have := HN.out; simp; omega), Mf.cells_one _⟩
        generalize wF.drew.setRow b6 (Mf.cells ⟨NM, N1, N2, (l.drop (13 + k)).take 32⟩).toArray = wG at *
        have r1 : (0 : Int) ≤ s5 ∧ (s5 : Int) ≤ n := by have := HSS.out; have := HN.out; omega
        have r2 : ¬ c = s5 := by have := HSS.out; omega
        clear HF
        go_region_law (refine step_copy22 rfl (.tmp 32) (.tmp 35) rfl rfl _ _ (by simp [Act.eval, Act.put]) (by simp [Act.eval, Act.put]) HCP.out ?_)
        all_goals go_wp2_with (first
          | (show wpList _ _ _ (Oper.mk (some 37) (.load 39 (.tmp 6)) _ _ _ _ :: _) _ _; refine HFF.out.r6.wpLoad 39 (.tmp 6) rfl rfl rfl _ Tryd.underlying39 rfl (by rw [HFL.out.1]; exact I35.out) ?_)
          | (show wpList _ _ _ (Oper.mk none (.store 39 (.tmp 2) (.tmp 37)) _ _ _ _ :: _) _ _; refine HFF.out.r2.wpStore' 39 (.tmp 2) (.tmp 37) (fldM l k).cells rfl rfl rfl rfl (by rw [HFL.out.1]; rfl) HFL.out.2 (by rw [HFL.out.1]; exact I35.out) ?_; intro wH HZ))
        all_goals exact bodyPost_ret (v := .agg (fldM l k).cells.toArray) (Row.result (w := wH) (g := b2) (c := (fldM l k).cells) (t := 39) (by rw [HZ.out]; exact HFF.out.r2.row _) Tryd.results50 _ rfl _ Tryd.underlying39 rfl (by rw [HFL.out.1]; exact I35.out)) rfl ⟨rfl, by rw [HZ.out]; exact Go.below_setRow HFF.out.bl HFF.out.ge _⟩
      case pCb =>
        refine step_val (v := .pointer (some ⟨wd.heap.size, 0, none⟩)) (w' := (wd.alloc (.cells mfZ.cells.toArray 39))) (by first | kernel_rfl | go_simp) ?_
        refine ⟨fun _ => HWD.out.2.2.2.2, ?_⟩
        simp only [Act.put, List.setIfInBounds_toArray, List.set_cons_zero, List.set_cons_succ]
        refine wpAnyF_one (i := 14) (o := { dst := some 30, op := Go.Op.build 39 #[(0, Go.Operand.tmp 19), (1, Go.Operand.tmp 24), (2, Go.Operand.tmp 29)], type := 39, pos := "manifest.go:113", after := #[{ on := 3, ground := Go.Ground.data }, { on := 8, ground := Go.Ground.data }, { on := 13, ground := Go.Ground.data }], guard := none }) rfl rfl (by kernel_rfl) ?_
        refine step_built (t := 39) (cells := (Mf.cells ⟨NM, N1, N2, z32⟩).toArray) rfl ((congrArg (fun l => Tryd.prog.built 39 l) (by first | rfl | simp [Act.eval])).trans (built39v NM N1 N2)) ?_
        refine ⟨fun _ => HWD.out.2.2.2.2, ?_⟩
        simp only [Act.put, List.setIfInBounds_toArray, List.set_cons_zero, List.set_cons_succ]
        refine wpAnyF_one (i := 16) (o := { dst := none, op := Go.Op.store 39 (Go.Operand.tmp 6) (Go.Operand.tmp 30), type := 0, pos := "manifest.go:113", after := #[{ on := 15, ground := Go.Ground.data }, { on := 14, ground := Go.Ground.data }, { on := 13, ground := Go.Ground.chain }, { on := 0, ground := Go.Ground.phase }, { on := 1, ground := Go.Ground.phase }, { on := 2, ground := Go.Ground.phase }, { on := 3, ground := Go.Ground.phase }, { on := 4, ground := Go.Ground.phase }, { on := 5, ground := Go.Ground.phase }, { on := 6, ground := Go.Ground.phase }, { on := 7, ground := Go.Ground.phase }, { on := 8, ground := Go.Ground.phase }, { on := 9, ground := Go.Ground.phase }, { on := 10, ground := Go.Ground.phase }, { on := 11, ground := Go.Ground.phase }, { on := 12, ground := Go.Ground.phase }, { on := 13, ground := Go.Ground.phase }, { on := 14, ground := Go.Ground.phase }, { on := 15, ground := Go.Ground.phase }], guard := none }) rfl rfl (by kernel_rfl) ?_
        refine step_storeA (g := wd.heap.size) (c := mfZ.cells) (c' := Mf.cells ⟨NM, N1, N2, z32⟩) HWD.out.2.2.2.1 rfl rfl rfl rfl (Mf.cells_one _) (by rw [Mf.cells_len rfl]; exact I35.out) ?_
        refine ⟨fun h => absurd rfl h, ?_⟩
        simp only [Act.put]
        refine wpAnyF_done (by kernel_rfl) ?_ _
        clear hNW hHeld
        have HF : Hid (FlE w ((wd.alloc (.cells mfZ.cells.toArray 39)).setRow wd.heap.size (Mf.cells ⟨NM, N1, N2, z32⟩).toArray) b2 wd.heap.size g o l (Mf.cells ⟨NM, N1, N2, z32⟩)) := fl_end HWD.out HB.out
        generalize (wd.alloc (.cells mfZ.cells.toArray 39)).setRow wd.heap.size (Mf.cells ⟨NM, N1, N2, z32⟩).toArray = wF at *
        generalize wd.heap.size = b6 at *
        clear H1 H2 HCV HBD hby HWD
        go_upto_region 5 with (fail)
        have HCP : Hid ((Builtin.copy_ #[22, 22] 3 #[.slice (some ⟨b6, 3, none⟩) 32 32, .slice (some ⟨g, o + s5, none⟩) (n - s5) (c - s5)]).run Tryd.prog wF.drew = .ok (.int .i64 32) (wF.drew.setRow b6 (Mf.cells ⟨NM, N1, N2, (l.drop (13 + k)).take 32⟩).toArray)) := fl_copy (c := c) HF.out HN.out HSS.out.2.2.1
        have HFF : Hid (FlF w (wF.drew.setRow b6 (Mf.cells ⟨NM, N1, N2, (l.drop (13 + k)).take 32⟩).toArray) b2 b6 (fldM l k).cells) := by rw [HFM.out]; exact fl_fin HF.out
        have HFL : Hid ((fldM l k).cells.length = 35 ∧ ∀ x ∈ (fldM l k).cells, x.oneCell' = true) := ⟨Mf.cells_len (by rw [HFM.out]; have := HN.out; simp; omega), Mf.cells_one _⟩
        generalize wF.drew.setRow b6 (Mf.cells ⟨NM, N1, N2, (l.drop (13 + k)).take 32⟩).toArray = wG at *
        have r1 : (0 : Int) ≤ s5 ∧ (s5 : Int) ≤ n := by have := HSS.out; have := HN.out; omega
        have r2 : ¬ c = s5 := by have := HSS.out; omega
        clear HF
        go_region_law (refine step_copy22 rfl (.tmp 32) (.tmp 35) rfl rfl _ _ (by simp [Act.eval, Act.put]) (by simp [Act.eval, Act.put]) HCP.out ?_)
        all_goals go_wp2_with (first
          | (show wpList _ _ _ (Oper.mk (some 37) (.load 39 (.tmp 6)) _ _ _ _ :: _) _ _; refine HFF.out.r6.wpLoad 39 (.tmp 6) rfl rfl rfl _ Tryd.underlying39 rfl (by rw [HFL.out.1]; exact I35.out) ?_)
          | (show wpList _ _ _ (Oper.mk none (.store 39 (.tmp 2) (.tmp 37)) _ _ _ _ :: _) _ _; refine HFF.out.r2.wpStore' 39 (.tmp 2) (.tmp 37) (fldM l k).cells rfl rfl rfl rfl (by rw [HFL.out.1]; rfl) HFL.out.2 (by rw [HFL.out.1]; exact I35.out) ?_; intro wH HZ))
        all_goals exact bodyPost_ret (v := .agg (fldM l k).cells.toArray) (Row.result (w := wH) (g := b2) (c := (fldM l k).cells) (t := 39) (by rw [HZ.out]; exact HFF.out.r2.row _) Tryd.results50 _ rfl _ Tryd.underlying39 rfl (by rw [HFL.out.1]; exact I35.out)) rfl ⟨rfl, by rw [HZ.out]; exact Go.below_setRow HFF.out.bl HFF.out.ge _⟩
    case pBb =>
      refine step_val (v := .pointer (some ⟨wd.heap.size, 0, none⟩)) (w' := (wd.alloc (.cells mfZ.cells.toArray 39))) (by first | kernel_rfl | go_simp) ?_
      refine ⟨fun _ => HWD.out.2.2.2.2, ?_⟩
      simp only [Act.put, List.setIfInBounds_toArray, List.set_cons_zero, List.set_cons_succ]
      refine wpAnyF_one (i := 13) (o := { dst := some 29, op := Go.Op.call { callee := Go.Callee.value (Go.Operand.func 79), args := #[Go.Operand.tmp 28], argTypes := #[22] }, type := 3, pos := "manifest.go:116", after := #[{ on := 12, ground := Go.Ground.data }, { on := 8, ground := Go.Ground.chain }], guard := none }) rfl rfl (by kernel_rfl) ?_
      refine step_callx (f := 79) (args := #[.slice (some ⟨g, o + s4, none⟩) (s5 - s4) (c - s4)]) (by first | kernel_rfl | go_simp) (H2.out (wd.alloc (.cells mfZ.cells.toArray 39)) HWD.out.2.2.2.2) ?_
      rintro v13 w13 ⟨rfl, e13⟩
      rw [e13]
      clear e13 w13
      refine ⟨fun _ => HWD.out.2.2.2.2, ?_⟩
      simp only [Act.put, List.setIfInBounds_toArray, List.set_cons_zero, List.set_cons_succ]
      refine wpAnyF_one (i := 14) (o := { dst := some 30, op := Go.Op.build 39 #[(0, Go.Operand.tmp 19), (1, Go.Operand.tmp 24), (2, Go.Operand.tmp 29)], type := 39, pos := "manifest.go:113", after := #[{ on := 3, ground := Go.Ground.data }, { on := 8, ground := Go.Ground.data }, { on := 13, ground := Go.Ground.data }], guard := none }) rfl rfl (by kernel_rfl) ?_
      refine step_built (t := 39) (cells := (Mf.cells ⟨NM, N1, N2, z32⟩).toArray) rfl ((congrArg (fun l => Tryd.prog.built 39 l) (by first | rfl | simp [Act.eval])).trans (built39v NM N1 N2)) ?_
      refine ⟨fun _ => HWD.out.2.2.2.2, ?_⟩
      simp only [Act.put, List.setIfInBounds_toArray, List.set_cons_zero, List.set_cons_succ]
      refine wpAnyF_one (i := 16) (o := { dst := none, op := Go.Op.store 39 (Go.Operand.tmp 6) (Go.Operand.tmp 30), type := 0, pos := "manifest.go:113", after := #[{ on := 15, ground := Go.Ground.data }, { on := 14, ground := Go.Ground.data }, { on := 13, ground := Go.Ground.chain }, { on := 0, ground := Go.Ground.phase }, { on := 1, ground := Go.Ground.phase }, { on := 2, ground := Go.Ground.phase }, { on := 3, ground := Go.Ground.phase }, { on := 4, ground := Go.Ground.phase }, { on := 5, ground := Go.Ground.phase }, { on := 6, ground := Go.Ground.phase }, { on := 7, ground := Go.Ground.phase }, { on := 8, ground := Go.Ground.phase }, { on := 9, ground := Go.Ground.phase }, { on := 10, ground := Go.Ground.phase }, { on := 11, ground := Go.Ground.phase }, { on := 12, ground := Go.Ground.phase }, { on := 13, ground := Go.Ground.phase }, { on := 14, ground := Go.Ground.phase }, { on := 15, ground := Go.Ground.phase }], guard := none }) rfl rfl (by kernel_rfl) ?_
      refine step_storeA (g := wd.heap.size) (c := mfZ.cells) (c' := Mf.cells ⟨NM, N1, N2, z32⟩) HWD.out.2.2.2.1 rfl rfl rfl rfl (Mf.cells_one _) (by rw [Mf.cells_len rfl]; exact I35.out) ?_
      refine ⟨fun h => absurd rfl h, ?_⟩
      simp only [Act.put]
      refine wpAnyF_done (by kernel_rfl) ?_ _
      clear hNW hHeld
      have HF : Hid (FlE w ((wd.alloc (.cells mfZ.cells.toArray 39)).setRow wd.heap.size (Mf.cells ⟨NM, N1, N2, z32⟩).toArray) b2 wd.heap.size g o l (Mf.cells ⟨NM, N1, N2, z32⟩)) := fl_end HWD.out HB.out
      generalize (wd.alloc (.cells mfZ.cells.toArray 39)).setRow wd.heap.size (Mf.cells ⟨NM, N1, N2, z32⟩).toArray = wF at *
      generalize wd.heap.size = b6 at *
      clear H1 H2 HCV HBD hby HWD
      go_upto_region 5 with (fail)
      have HCP : Hid ((Builtin.copy_ #[22, 22] 3 #[.slice (some ⟨b6, 3, none⟩) 32 32, .slice (some ⟨g, o + s5, none⟩) (n - s5) (c - s5)]).run Tryd.prog wF.drew = .ok (.int .i64 32) (wF.drew.setRow b6 (Mf.cells ⟨NM, N1, N2, (l.drop (13 + k)).take 32⟩).toArray)) := fl_copy (c := c) HF.out HN.out HSS.out.2.2.1
      have HFF : Hid (FlF w (wF.drew.setRow b6 (Mf.cells ⟨NM, N1, N2, (l.drop (13 + k)).take 32⟩).toArray) b2 b6 (fldM l k).cells) := by rw [HFM.out]; exact fl_fin HF.out
      have HFL : Hid ((fldM l k).cells.length = 35 ∧ ∀ x ∈ (fldM l k).cells, x.oneCell' = true) := ⟨Mf.cells_len (by rw [HFM.out]; have := HN.out; simp; omega), Mf.cells_one _⟩
      generalize wF.drew.setRow b6 (Mf.cells ⟨NM, N1, N2, (l.drop (13 + k)).take 32⟩).toArray = wG at *
      have r1 : (0 : Int) ≤ s5 ∧ (s5 : Int) ≤ n := by have := HSS.out; have := HN.out; omega
      have r2 : ¬ c = s5 := by have := HSS.out; omega
      clear HF
      go_region_law (refine step_copy22 rfl (.tmp 32) (.tmp 35) rfl rfl _ _ (by simp [Act.eval, Act.put]) (by simp [Act.eval, Act.put]) HCP.out ?_)
      all_goals go_wp2_with (first
        | (show wpList _ _ _ (Oper.mk (some 37) (.load 39 (.tmp 6)) _ _ _ _ :: _) _ _; refine HFF.out.r6.wpLoad 39 (.tmp 6) rfl rfl rfl _ Tryd.underlying39 rfl (by rw [HFL.out.1]; exact I35.out) ?_)
        | (show wpList _ _ _ (Oper.mk none (.store 39 (.tmp 2) (.tmp 37)) _ _ _ _ :: _) _ _; refine HFF.out.r2.wpStore' 39 (.tmp 2) (.tmp 37) (fldM l k).cells rfl rfl rfl rfl (by rw [HFL.out.1]; rfl) HFL.out.2 (by rw [HFL.out.1]; exact I35.out) ?_; intro wH HZ))
      all_goals exact bodyPost_ret (v := .agg (fldM l k).cells.toArray) (Row.result (w := wH) (g := b2) (c := (fldM l k).cells) (t := 39) (by rw [HZ.out]; exact HFF.out.r2.row _) Tryd.results50 _ rfl _ Tryd.underlying39 rfl (by rw [HFL.out.1]; exact I35.out)) rfl ⟨rfl, by rw [HZ.out]; exact Go.below_setRow HFF.out.bl HFF.out.ge _⟩
  case pAb =>
    refine step_val (v := .pointer (some ⟨wd.heap.size, 0, none⟩)) (w' := (wd.alloc (.cells mfZ.cells.toArray 39))) (by first | kernel_rfl | go_simp) ?_
    refine ⟨fun _ => HWD.out.2.2.2.2, ?_⟩
    simp only [Act.put, List.setIfInBounds_toArray, List.set_cons_zero, List.set_cons_succ]
    refine wpAnyF_one (i := 8) (o := { dst := some 24, op := Go.Op.call { callee := Go.Callee.value (Go.Operand.func 79), args := #[Go.Operand.tmp 23], argTypes := #[22] }, type := 3, pos := "manifest.go:115", after := #[{ on := 7, ground := Go.Ground.data }], guard := none }) rfl rfl (by kernel_rfl) ?_
    refine step_callx (f := 79) (args := #[.slice (some ⟨g, o + s3, none⟩) (s4 - s3) (c - s3)]) (by first | kernel_rfl | go_simp) (H1.out (wd.alloc (.cells mfZ.cells.toArray 39)) HWD.out.2.2.2.2) ?_
    rintro v8 w8 ⟨rfl, e8⟩
    rw [e8]
    clear e8 w8
    refine ⟨fun _ => HWD.out.2.2.2.2, ?_⟩
    simp only [Act.put, List.setIfInBounds_toArray, List.set_cons_zero, List.set_cons_succ]
    refine wpAnyF_one (i := 13) (o := { dst := some 29, op := Go.Op.call { callee := Go.Callee.value (Go.Operand.func 79), args := #[Go.Operand.tmp 28], argTypes := #[22] }, type := 3, pos := "manifest.go:116", after := #[{ on := 12, ground := Go.Ground.data }, { on := 8, ground := Go.Ground.chain }], guard := none }) rfl rfl (by kernel_rfl) ?_
    refine step_callx (f := 79) (args := #[.slice (some ⟨g, o + s4, none⟩) (s5 - s4) (c - s4)]) (by first | kernel_rfl | go_simp) (H2.out (wd.alloc (.cells mfZ.cells.toArray 39)) HWD.out.2.2.2.2) ?_
    rintro v13 w13 ⟨rfl, e13⟩
    rw [e13]
    clear e13 w13
    refine ⟨fun _ => HWD.out.2.2.2.2, ?_⟩
    simp only [Act.put, List.setIfInBounds_toArray, List.set_cons_zero, List.set_cons_succ]
    refine wpAnyF_one (i := 14) (o := { dst := some 30, op := Go.Op.build 39 #[(0, Go.Operand.tmp 19), (1, Go.Operand.tmp 24), (2, Go.Operand.tmp 29)], type := 39, pos := "manifest.go:113", after := #[{ on := 3, ground := Go.Ground.data }, { on := 8, ground := Go.Ground.data }, { on := 13, ground := Go.Ground.data }], guard := none }) rfl rfl (by kernel_rfl) ?_
    refine step_built (t := 39) (cells := (Mf.cells ⟨NM, N1, N2, z32⟩).toArray) rfl ((congrArg (fun l => Tryd.prog.built 39 l) (by first | rfl | simp [Act.eval])).trans (built39v NM N1 N2)) ?_
    refine ⟨fun _ => HWD.out.2.2.2.2, ?_⟩
    simp only [Act.put, List.setIfInBounds_toArray, List.set_cons_zero, List.set_cons_succ]
    refine wpAnyF_one (i := 16) (o := { dst := none, op := Go.Op.store 39 (Go.Operand.tmp 6) (Go.Operand.tmp 30), type := 0, pos := "manifest.go:113", after := #[{ on := 15, ground := Go.Ground.data }, { on := 14, ground := Go.Ground.data }, { on := 13, ground := Go.Ground.chain }, { on := 0, ground := Go.Ground.phase }, { on := 1, ground := Go.Ground.phase }, { on := 2, ground := Go.Ground.phase }, { on := 3, ground := Go.Ground.phase }, { on := 4, ground := Go.Ground.phase }, { on := 5, ground := Go.Ground.phase }, { on := 6, ground := Go.Ground.phase }, { on := 7, ground := Go.Ground.phase }, { on := 8, ground := Go.Ground.phase }, { on := 9, ground := Go.Ground.phase }, { on := 10, ground := Go.Ground.phase }, { on := 11, ground := Go.Ground.phase }, { on := 12, ground := Go.Ground.phase }, { on := 13, ground := Go.Ground.phase }, { on := 14, ground := Go.Ground.phase }, { on := 15, ground := Go.Ground.phase }], guard := none }) rfl rfl (by kernel_rfl) ?_
    refine step_storeA (g := wd.heap.size) (c := mfZ.cells) (c' := Mf.cells ⟨NM, N1, N2, z32⟩) HWD.out.2.2.2.1 rfl rfl rfl rfl (Mf.cells_one _) (by rw [Mf.cells_len rfl]; exact I35.out) ?_
    refine ⟨fun h => absurd rfl h, ?_⟩
    simp only [Act.put]
    refine wpAnyF_done (by kernel_rfl) ?_ _
    clear hNW hHeld
    have HF : Hid (FlE w ((wd.alloc (.cells mfZ.cells.toArray 39)).setRow wd.heap.size (Mf.cells ⟨NM, N1, N2, z32⟩).toArray) b2 wd.heap.size g o l (Mf.cells ⟨NM, N1, N2, z32⟩)) := fl_end HWD.out HB.out
    generalize (wd.alloc (.cells mfZ.cells.toArray 39)).setRow wd.heap.size (Mf.cells ⟨NM, N1, N2, z32⟩).toArray = wF at *
    generalize wd.heap.size = b6 at *
    clear H1 H2 HCV HBD hby HWD
    go_upto_region 5 with (fail)
    have HCP : Hid ((Builtin.copy_ #[22, 22] 3 #[.slice (some ⟨b6, 3, none⟩) 32 32, .slice (some ⟨g, o + s5, none⟩) (n - s5) (c - s5)]).run Tryd.prog wF.drew = .ok (.int .i64 32) (wF.drew.setRow b6 (Mf.cells ⟨NM, N1, N2, (l.drop (13 + k)).take 32⟩).toArray)) := fl_copy (c := c) HF.out HN.out HSS.out.2.2.1
    have HFF : Hid (FlF w (wF.drew.setRow b6 (Mf.cells ⟨NM, N1, N2, (l.drop (13 + k)).take 32⟩).toArray) b2 b6 (fldM l k).cells) := by rw [HFM.out]; exact fl_fin HF.out
    have HFL : Hid ((fldM l k).cells.length = 35 ∧ ∀ x ∈ (fldM l k).cells, x.oneCell' = true) := ⟨Mf.cells_len (by rw [HFM.out]; have := HN.out; simp; omega), Mf.cells_one _⟩
    generalize wF.drew.setRow b6 (Mf.cells ⟨NM, N1, N2, (l.drop (13 + k)).take 32⟩).toArray = wG at *
    have r1 : (0 : Int) ≤ s5 ∧ (s5 : Int) ≤ n := by have := HSS.out; have := HN.out; omega
    have r2 : ¬ c = s5 := by have := HSS.out; omega
    clear HF
    go_region_law (refine step_copy22 rfl (.tmp 32) (.tmp 35) rfl rfl _ _ (by simp [Act.eval, Act.put]) (by simp [Act.eval, Act.put]) HCP.out ?_)
    all_goals go_wp2_with (first
      | (show wpList _ _ _ (Oper.mk (some 37) (.load 39 (.tmp 6)) _ _ _ _ :: _) _ _; refine HFF.out.r6.wpLoad 39 (.tmp 6) rfl rfl rfl _ Tryd.underlying39 rfl (by rw [HFL.out.1]; exact I35.out) ?_)
      | (show wpList _ _ _ (Oper.mk none (.store 39 (.tmp 2) (.tmp 37)) _ _ _ _ :: _) _ _; refine HFF.out.r2.wpStore' 39 (.tmp 2) (.tmp 37) (fldM l k).cells rfl rfl rfl rfl (by rw [HFL.out.1]; rfl) HFL.out.2 (by rw [HFL.out.1]; exact I35.out) ?_; intro wH HZ))
    all_goals exact bodyPost_ret (v := .agg (fldM l k).cells.toArray) (Row.result (w := wH) (g := b2) (c := (fldM l k).cells) (t := 39) (by rw [HZ.out]; exact HFF.out.r2.row _) Tryd.results50 _ rfl _ Tryd.underlying39 rfl (by rw [HFL.out.1]; exact I35.out)) rfl ⟨rfl, by rw [HZ.out]; exact Go.below_setRow HFF.out.bl HFF.out.ge _⟩
end Go.Proofs.YtaklbofbhanjgaaDoor
