import Derived.Test.YtaklbofbhanjgaaDoorPt0
import Derived.Test.YtaklbofbhanjgaaDoorRegL
namespace Go.Proofs.YtaklbofbhanjgaaDoor
open Go.RowKit
set_option maxRecDepth 100000

theorem step_val {P : Program} {o : Oper} {a : Act} {w w' : World} {v : Value} {K : Act → World → Prop} {Q : Exit → Act → World → Prop} (e : (execOp a.eval o).run P w = .ok (.value v) w') (h : K (a.put o.dst v) w') : Oper.wp P o a w K Q := by
  unfold Oper.wp
  rw [e]
  exact h
theorem step_callx {P : Program} {o : Oper} {a : Act} {w : World} {K : Act → World → Prop} {Q : Exit → Act → World → Prop} {f : FuncId} {args : Array Value} {G : Value → World → Prop} (e : (execOp a.eval o).run P w = .ok (.enter f args) w)
    (hc : Calls P f args w fun e w' => ∃ v, e = .returned v ∧ G v w') (h : ∀ v w', G v w' → K (a.put o.dst v) w') : Oper.wp P o a w K Q := by
  unfold Oper.wp
  rw [e, Oper.upon_enter]
  refine Calls.mono hc ?_
  rintro e w' ⟨v, rfl, hg⟩
  exact h v w' hg
theorem step_storeA {o : Oper} {a : Act} {w : World} {K : Act → World → Prop} {Q : Exit → Act → World → Prop} {t : TypeId} {x y : Operand} {g : Nat} {c c' : List Value} (R : Row w g c t) (ho : o.op = .store t x y) (hx : a.eval x = .pointer (some ⟨g, 0, none⟩)) (hy : a.eval y = .agg c'.toArray) (hl : c.length = c'.length) (h1 : ∀ v ∈ c', v.oneCell' = true) (hi : (Tryd.prog.info? t).map (·.size) = some c'.length)
    (h : K (a.put o.dst undef) (w.setRow g c'.toArray)) : Oper.wp Tryd.prog o a w K Q := by
  have hs := R.store (P := Tryd.prog) t c' hl h1 hi
  have e : (execOp a.eval o).run Tryd.prog w = .ok .skip (w.setRow g c'.toArray) := by
    generalize a.eval = r at *
    simp [execOp, ho, hx, hy, hs]
  unfold Oper.wp
  rw [e]
  exact h
theorem parts_three {w : World} {g : Nat} {ad bd cd : Option Addr} {c d e : Nat} {x y z : List (BitVec 8)} (hr : Row w g [.slice ad x.length c, .slice bd y.length d, .slice cd z.length e] 22) (hx : BytesAt w ad x) (hy : BytesAt w bd y) (hz : BytesAt w cd z) (h1 : x.length ≤ c) (h2 : c ≤ 9223372036854775807) (h3 : y.length ≤ d) (h4 : d ≤ 9223372036854775807) (h5 : z.length ≤ e) (h6 : e ≤ 9223372036854775807) : PartsC w (some ⟨g, 0, none⟩) [x, y, z] := fun k hk => by
  have hk2 : k = 0 ∨ k = 1 ∨ k = 2 := by simp at hk; omega
  rcases hk2 with rfl | rfl | rfl
  · exact ⟨g, 0, ad, c, rfl, hr.cell 0 _ rfl, hx, h1, h2⟩
  · exact ⟨g, 0, bd, d, rfl, hr.cell 1 _ rfl, hy, h3, h4⟩
  · exact ⟨g, 0, cd, e, rfl, hr.cell 2 _ rfl, hz, h5, h6⟩
set_option maxHeartbeats 2000000 in
theorem node_any {w : World} {x y : List (BitVec 8)} (hx : x.length = 32) (hy : y.length = 32) (hK : KTab w) (h2 : 2 ≤ w.heap.size) :
    Calls Tryd.prog 76 #[.agg (bcells x).toArray, .agg (bcells y).toArray] w fun e w' => e = .returned (.agg (bcells (nodeS x y)).toArray) ∧ Below w.heap.size w w' := by
  have HK := hid hK
  have H2 := hid h2
  have HXY := hid (And.intro hx hy)
  have I73 := hid i44
  clear hK h2 hx hy
  go_enter Tryd.func76, Tryd.ntmps76
  go_upto_region 1 with (fail)
  refine wp_world fun wa HW => ?_
  have HBa : Hid (Below w.heap.size w wa) := by show Below _ _ _; rw [HW.out]; exact ((Below.refl _ _).alloc (Nat.le_refl _) _).alloc (by simp) _ |>.alloc (by simp; omega) _
  have HR : Hid (Row wa w.heap.size (bcells x) 25 ∧ Row wa (w.heap.size + 1) (bcells y) 25 ∧ Row wa (w.heap.size + 1 + 1) (bcells z32) 25) := by
    show _ ∧ _ ∧ _
    rw [HW.out]
    refine ⟨((Row.new w (bcells x) 25).alloc _).alloc _, ?_, ?_⟩
    · have := (Row.new (w.alloc (.cells (bcells x).toArray 25)) (bcells y) 25).alloc (.cells (bcells z32).toArray 25)
      rw [show (w.alloc (.cells (bcells x).toArray 25)).heap.size = w.heap.size + 1 by simp] at this
      exact this
    · have := Row.new ((w.alloc (.cells (bcells x).toArray 25)).alloc (.cells (bcells y).toArray 25)) (bcells z32) 25
      rw [show ((w.alloc (.cells (bcells x).toArray 25)).alloc (.cells (bcells y).toArray 25)).heap.size = w.heap.size + 1 + 1 by simp] at this
      exact this
  clear HW
  obtain ⟨b0, hb0⟩ : ∃ b, w.heap.size = b := ⟨_, rfl⟩
  have HB0 := hid hb0
  rw [hb0] at HR ⊢
  obtain ⟨b1, hb1⟩ : ∃ b, b0 + 1 = b := ⟨_, rfl⟩
  rw [hb1] at HR ⊢
  obtain ⟨b2, hb2⟩ : ∃ b, b1 + 1 = b := ⟨_, rfl⟩
  rw [hb2] at HR ⊢
  have HB2 : Hid (w.heap.size ≤ b2) := by show _ ≤ _; omega
  clear hb0 hb1 hb2
  have HLS : Hid ((nodeS x y).length = 32) := sha_len _
  have HO : Hid (Calls Tryd.prog 37 #[.slice (some ⟨(wa.drew.alloc (.cells #[.int .u8 1] 5)).heap.size, 0, none⟩) 3 3] ((wa.drew.alloc (.cells #[.int .u8 1] 5)).alloc (.cells #[.slice (some ⟨wa.drew.heap.size, 0, none⟩) 1 1, .slice (some ⟨b0, 0, none⟩) 32 32, .slice (some ⟨b1, 0, none⟩) 32 32] 22)) fun e w' => ∃ v, e = .returned v ∧ (v = .agg (bcells (nodeS x y)).toArray ∧ Below wa.heap.size wa w')) := by
    have bd : Below wa.heap.size wa wa.drew := ⟨rfl, rfl, rfl, Nat.le_refl _, fun _ _ => rfl⟩
    have q1 := below_new wa.drew (.cells #[.int .u8 1] 5)
    have q2 := below_new (wa.drew.alloc (.cells #[.int .u8 1] 5)) (.cells #[.slice (some ⟨wa.drew.heap.size, 0, none⟩) 1 1, .slice (some ⟨b0, 0, none⟩) 32 32, .slice (some ⟨b1, 0, none⟩) 32 32] 22)
    have q3 : Below wa.heap.size wa ((wa.drew.alloc (.cells #[.int .u8 1] 5)).alloc (.cells #[.slice (some ⟨wa.drew.heap.size, 0, none⟩) 1 1, .slice (some ⟨b0, 0, none⟩) 32 32, .slice (some ⟨b1, 0, none⟩) 32 32] 22)) := bd.trans ((q1.trans (q2.mono q1.size)))
    have r1 := (Row.new wa.drew (bcells [1#8]) 5).kept q2 (Row.new wa.drew (bcells [1#8]) 5).lt
    have r2 := Row.new (wa.drew.alloc (.cells #[.int .u8 1] 5)) [.slice (some ⟨wa.drew.heap.size, 0, none⟩) 1 1, .slice (some ⟨b0, 0, none⟩) 32 32, .slice (some ⟨b1, 0, none⟩) 32 32] 22
    have hP := parts_three (x := [1#8]) (y := x) (z := y) (by rw [HXY.out.1, HXY.out.2]; exact r2) r1.bytesAt (HR.out.1.kept q3 HR.out.1.lt).bytesAt (HR.out.2.1.kept q3 HR.out.2.1.lt).bytesAt (Nat.le_refl _) (by decide) (by rw [HXY.out.1]; exact Nat.le_refl _) (by decide) (by rw [HXY.out.2]; exact Nat.le_refl _) (by decide)
    refine (of_any hP (by simp) ((HK.out.kept HBa.out).kept q3) (Nat.le_trans (Nat.le_trans H2.out HBa.out.size) q3.size)).mono ?_
    rintro e w' ⟨rfl, hb⟩
    exact ⟨_, rfl, by unfold nodeS; simp, q3.trans (hb.mono q3.size)⟩
  have HRD : Hid (Row wa.drew b2 (bcells z32) 25) := ⟨HR.out.2.2.at_⟩
  generalize hE : nodeS x y = E at *
  have HEE := hid hE
  clear hE
  refine wp_region_last (S := fun w' => Row w' b2 (bcells z32) 25) (N := 5) (by kernel_rfl) (by kernel_rfl) fun hNW => ?_
  have hHeld := (show (fun w' => Row w' b2 (bcells z32) 25) wa.drew from HRD.out)
  refine wpAnyF_take (i := 1) (oi := { dst := some 6, op := Go.Op.slice 25 (Go.Operand.tmp 2) none none none, type := 22, pos := "tree.go:20", after := #[], guard := none }) (v := .slice (some ⟨b0, 0, none⟩) 32 32) hNW (by decide) rfl (by kernel_rfl) (by kernel_rfl) (by kernel_rfl) (by kernel_rfl) (fun _ _ _ h => h) (Or.inl ⟨by kernel_rfl, ?h501_1⟩) (by assumption) ?r501_1
  case h501_1 => (intro wt hSw; (try dsimp only at hSw); go_simp; try with_reducible rfl)
  simp only [Act.put, List.setIfInBounds_toArray, List.set_cons_zero, List.set_cons_succ]
  refine wpAnyF_take (i := 2) (oi := { dst := some 7, op := Go.Op.slice 25 (Go.Operand.tmp 3) none none none, type := 22, pos := "tree.go:20", after := #[], guard := none }) (v := .slice (some ⟨b1, 0, none⟩) 32 32) hNW (by decide) rfl (by kernel_rfl) (by kernel_rfl) (by kernel_rfl) (by kernel_rfl) (fun _ _ _ h => h) (Or.inl ⟨by kernel_rfl, ?h501_2⟩) (by assumption) ?r501_2
  case h501_2 => (intro wt hSw; (try dsimp only at hSw); go_simp; try with_reducible rfl)
  simp only [Act.put, List.setIfInBounds_toArray, List.set_cons_zero, List.set_cons_succ]
  refine wpAnyF_one (i := 0) (o := { dst := some 5, op := Go.Op.buildSlice 22 1 #[(0, Go.Operand.const (Go.Value.int Go.IntKind.u8 1))], type := 22, pos := "tree.go:20", after := #[], guard := none }) rfl rfl (by kernel_rfl) ?_
  refine step_val (v := .slice (some ⟨wa.drew.heap.size, 0, none⟩) 1 1) (w' := (wa.drew.alloc (.cells #[.int .u8 1] 5))) (by first | kernel_rfl | go_simp) ?_
  refine ⟨fun _ => HRD.out.alloc _, ?_⟩
  simp only [Act.put, List.setIfInBounds_toArray, List.set_cons_zero, List.set_cons_succ]
  refine wpAnyF_one (i := 3) (o := { dst := some 8, op := Go.Op.buildSlice 102 3 #[(0, Go.Operand.tmp 5), (1, Go.Operand.tmp 6), (2, Go.Operand.tmp 7)], type := 102, pos := "tree.go:20", after := #[{ on := 0, ground := Go.Ground.data }, { on := 1, ground := Go.Ground.data }, { on := 2, ground := Go.Ground.data }], guard := none }) rfl rfl (by kernel_rfl) ?_
  refine step_val (v := .slice (some ⟨(wa.drew.alloc (.cells #[.int .u8 1] 5)).heap.size, 0, none⟩) 3 3) (w' := ((wa.drew.alloc (.cells #[.int .u8 1] 5)).alloc (.cells #[.slice (some ⟨wa.drew.heap.size, 0, none⟩) 1 1, .slice (some ⟨b0, 0, none⟩) 32 32, .slice (some ⟨b1, 0, none⟩) 32 32] 22))) (by first | kernel_rfl | go_simp) ?_
  refine ⟨fun _ => (HRD.out.alloc _).alloc _, ?_⟩
  simp only [Act.put, List.setIfInBounds_toArray, List.set_cons_zero, List.set_cons_succ]
  refine wpAnyF_one (i := 4) (o := { dst := some 9, op := Go.Op.call { callee := Go.Callee.value (Go.Operand.func 37), args := #[Go.Operand.tmp 8], argTypes := #[102] }, type := 25, pos := "tree.go:20", after := #[{ on := 3, ground := Go.Ground.data }], guard := none }) rfl rfl (by kernel_rfl) ?_
  refine step_callx (f := 37) (args := #[.slice (some ⟨(wa.drew.alloc (.cells #[.int .u8 1] 5)).heap.size, 0, none⟩) 3 3]) (by first | kernel_rfl | go_simp) HO.out ?_
  rintro v4 w4 ⟨rfl, hb4⟩
  have hr4 := HR.out.2.2.kept hb4 HR.out.2.2.lt
  refine ⟨fun _ => hr4, ?_⟩
  simp only [Act.put, List.setIfInBounds_toArray, List.set_cons_zero, List.set_cons_succ]
  refine wpAnyF_one (i := 5) (o := { dst := none, op := Go.Op.store 25 (Go.Operand.tmp 4) (Go.Operand.tmp 9), type := 0, pos := "tree.go:20", after := #[{ on := 4, ground := Go.Ground.data }, { on := 4, ground := Go.Ground.chain }, { on := 0, ground := Go.Ground.phase }, { on := 1, ground := Go.Ground.phase }, { on := 2, ground := Go.Ground.phase }, { on := 3, ground := Go.Ground.phase }, { on := 4, ground := Go.Ground.phase }], guard := none }) rfl rfl (by kernel_rfl) ?_
  refine step_storeA (g := b2) (c := bcells z32) (c' := bcells E) hr4 rfl rfl rfl (by rw [bcells_len, bcells_len, HLS.out]; rfl) (bcells_one _) (by rw [bcells_len, HLS.out]; exact I73.out) ?_
  refine ⟨fun h => absurd rfl h, ?_⟩
  simp only [Act.put]
  refine wpAnyF_done (by kernel_rfl) ?_ _
  have R : Row (w4.setRow b2 (bcells E).toArray) b2 (bcells E) 25 := hr4.row _
  have hB : Below w.heap.size w (w4.setRow b2 (bcells E).toArray) := Go.below_setRow (HBa.out.trans (hb4.mono HBa.out.size)) HB2.out _
  clear hNW hHeld
  go_wp2_with fail
  exact bodyPost_ret (v := .agg (bcells E).toArray) (R.result Tryd.results76 _ rfl _ Tryd.underlying25 rfl (by rw [bcells_len, HLS.out]; exact I73.out)) rfl ⟨by rw [HEE.out], hB⟩
end Go.Proofs.YtaklbofbhanjgaaDoor
