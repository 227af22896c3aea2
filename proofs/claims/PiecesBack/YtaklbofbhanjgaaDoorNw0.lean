import Derived.Test.YtaklbofbhanjgaaDoorMf0
import Derived.Test.YtaklbofbhanjgaaDoorNew0
import Derived.Test.YtaklbofbhanjgaaDoorBvAddW
import Derived.Test.YtaklbofbhanjgaaDoorBd4
import Derived.Carry
namespace Go.Proofs.YtaklbofbhanjgaaDoor
open Go.RowKit
set_option maxRecDepth 100000
set_option maxHeartbeats 400000 in
theorem setcount_any {w : World} {p : Nat} {a : Option Addr} {cap : Nat} {L : List Rg} (V : View w p a cap L) (F : Fit L) :
    Calls Tryd.prog 59 #[.pointer (some ⟨p, 0, none⟩)] w fun e w' => e = .returned (.int .u64 (total L)) ∧ Below w.heap.size w w' := by
  have hd := V.head
  have hfew := V.few
  have HV : Hid _ := V
  have HF : Hid (Fit L) := F
  clear V F
  go_enter Tryd.func59, Tryd.ntmps59
  go_wp2
  go_loopw [3, 11] (fun n i wr => ∃ k : Nat, k ≤ L.length ∧ i = .int .i64 k ∧ n = .int .u64 (total (L.take k)) ∧ Below w.heap.size w wr) (fun _ i _ => L.length - (intOf i).toNat)
  case atStart => exact ⟨0, Nat.zero_le _, rfl, rfl, Below.refl _ _⟩
  case round =>
    obtain ⟨k, hk, rfl, rfl, hb⟩ := hrel
    by_cases hlt : k < L.length
    · obtain ⟨g, rfl, c1, c2⟩ := HV.out.row k hlt
      have d1 := cell_kept hb c1
      have d2 := cell_kept hb c2
      have hs := total_snoc L k hlt
      have hbd := total_bd L HF.out k hk
      have hbd2 := total_bd L HF.out (k + 1) hlt
      have hf := HF.out.at k hlt
      clear c1 c2
      generalize L[k] = r at *
      obtain ⟨rl, rh⟩ := r
      simp only at d1 d2 hs hf
      generalize total (L.take k) = t at *
      have hbd3 : 0 ≤ t + (rh - rl) ∧ t + (rh - rl) ≤ 18446744073709551615 := by rw [← hs]; exact hbd2
      have HS : Hid _ := hs
      have HB : Hid _ := hb
      clear hs hbd2 hb
      go_wp2
      go_roundw
      case rel => exact ⟨k + 1, hlt, by go_num, by rw [HS.out], HB.out.alloc HB.out.size _⟩
      case measure => simp [intOf]; omega
    · have e : k = L.length := by omega
      subst e
      have HB : Hid _ := hb
      clear hb
      rw [List.take_length]
      go_wp2
      go_ret
      exact ⟨rfl, HB.out⟩


theorem i63 : (Tryd.prog.info? 63).map (·.size) = some 3 := by kernel_rfl
theorem i65 : (Tryd.prog.info? 65).map (·.size) = some 39 := by kernel_rfl
set_option maxHeartbeats 1000000 in
theorem bodyOf_any {a : Option Addr} {n c : Nat} {p : Int} {w : World} : Calls Tryd.prog 52 #[.slice a n c, .int .i64 p] w fun e w' => ∃ mm, e = .returned (.agg #[.slice a n c, .int .i64 p, .map (some mm)]) ∧ w.heap.size ≤ mm ∧ w'.heap[mm]? = some (.map #[] 0) ∧ mm < w'.heap.size ∧ Below w.heap.size w w' := by
  have I63 := hid i63
  go_enter Tryd.func52, Tryd.ntmps52
  go_upto_region 1 with (fail)
  refine wp_world fun wa HW => ?_
  have HBa : Hid (Below w.heap.size w wa) := by show Below _ _ _; rw [HW.out]; exact below_new _ _
  have HR : Hid (Row wa w.heap.size [.slice none 0 0, .int .i64 0, .map none] 63) := by show Row _ _ _ _; rw [HW.out]; exact Row.new' _ _ _ _ _ rfl rfl
  clear HW
  have HR2 : Hid (Row (wa.alloc (.map #[] 0)) w.heap.size [.slice none 0 0, .int .i64 0, .map none] 63) := HR.out.alloc _
  have HB2 : Hid (Below w.heap.size w (wa.alloc (.map #[] 0))) := HBa.out.trans ((below_new wa _).mono HBa.out.size)
  have HM : Hid ((wa.alloc (.map #[] 0)).heap[wa.heap.size]? = some (.map #[] 0) ∧ wa.heap.size < (wa.alloc (.map #[] 0)).heap.size ∧ w.heap.size < wa.heap.size) := ⟨(Go.MapKept.heap_alloc wa _).1, by simp, HR.out.lt⟩
  go_wp2_with (first
    | (show Oper.upon _ { dst := some 7, op := _, type := _, pos := _, after := _, guard := _ } _ _ _ _; rw [run_makeMap])
    | (show wpList _ _ _ (Oper.mk none (.store 63 (.tmp 4) (.tmp 8)) _ _ _ _ :: _) _ _; refine HR2.out.wpStore' 63 (.tmp 4) (.tmp 8) [.slice a n c, .int .i64 p, .map (some wa.heap.size)] rfl rfl rfl rfl rfl (by simp [Value.oneCell']) I63.out ?_; intro wz HZ))
  have R : Row wz w.heap.size [.slice a n c, .int .i64 p, .map (some wa.heap.size)] 63 := by rw [HZ.out]; exact HR2.out.row _
  have hB : Below w.heap.size w wz := by rw [HZ.out]; exact Go.below_setRow HB2.out (Nat.le_refl _) _
  have hM : wz.heap[wa.heap.size]? = some (.map #[] 0) := by
    rw [HZ.out, setRow_other _ _ _ _ (by have := HM.out.2.2; omega)]
    exact HM.out.1
  exact bodyPost_ret (v := .agg #[.slice a n c, .int .i64 p, .map (some wa.heap.size)]) (R.result Tryd.results52 _ rfl _ Tryd.underlying63 rfl I63.out) rfl ⟨_, rfl, Nat.le_of_lt HM.out.2.2, hM, (Array.getElem?_eq_some_iff.1 hM).1, hB⟩
end Go.Proofs.YtaklbofbhanjgaaDoor
namespace Go.Proofs.YtaklbofbhanjgaaDoor
open Go.RowKit
set_option maxRecDepth 100000
theorem list35 {α : Type} (l : List α) (h : l.length = 35) : ∃ v0 v1 v2 v3 v4 v5 v6 v7 v8 v9 v10 v11 v12 v13 v14 v15 v16 v17 v18 v19 v20 v21 v22 v23 v24 v25 v26 v27 v28 v29 v30 v31 v32 v33 v34, l = [v0, v1, v2, v3, v4, v5, v6, v7, v8, v9, v10, v11, v12, v13, v14, v15, v16, v17, v18, v19, v20, v21, v22, v23, v24, v25, v26, v27, v28, v29, v30, v31, v32, v33, v34] := by
  rcases l with _ | ⟨v0, l⟩
  · simp at h
  rcases l with _ | ⟨v1, l⟩
  · simp at h
  rcases l with _ | ⟨v2, l⟩
  · simp at h
  rcases l with _ | ⟨v3, l⟩
  · simp at h
  rcases l with _ | ⟨v4, l⟩
  · simp at h
  rcases l with _ | ⟨v5, l⟩
  · simp at h
  rcases l with _ | ⟨v6, l⟩
  · simp at h
  rcases l with _ | ⟨v7, l⟩
  · simp at h
  rcases l with _ | ⟨v8, l⟩
  · simp at h
  rcases l with _ | ⟨v9, l⟩
  · simp at h
  rcases l with _ | ⟨v10, l⟩
  · simp at h
  rcases l with _ | ⟨v11, l⟩
  · simp at h
  rcases l with _ | ⟨v12, l⟩
  · simp at h
  rcases l with _ | ⟨v13, l⟩
  · simp at h
  rcases l with _ | ⟨v14, l⟩
  · simp at h
  rcases l with _ | ⟨v15, l⟩
  · simp at h
  rcases l with _ | ⟨v16, l⟩
  · simp at h
  rcases l with _ | ⟨v17, l⟩
  · simp at h
  rcases l with _ | ⟨v18, l⟩
  · simp at h
  rcases l with _ | ⟨v19, l⟩
  · simp at h
  rcases l with _ | ⟨v20, l⟩
  · simp at h
  rcases l with _ | ⟨v21, l⟩
  · simp at h
  rcases l with _ | ⟨v22, l⟩
  · simp at h
  rcases l with _ | ⟨v23, l⟩
  · simp at h
  rcases l with _ | ⟨v24, l⟩
  · simp at h
  rcases l with _ | ⟨v25, l⟩
  · simp at h
  rcases l with _ | ⟨v26, l⟩
  · simp at h
  rcases l with _ | ⟨v27, l⟩
  · simp at h
  rcases l with _ | ⟨v28, l⟩
  · simp at h
  rcases l with _ | ⟨v29, l⟩
  · simp at h
  rcases l with _ | ⟨v30, l⟩
  · simp at h
  rcases l with _ | ⟨v31, l⟩
  · simp at h
  rcases l with _ | ⟨v32, l⟩
  · simp at h
  rcases l with _ | ⟨v33, l⟩
  · simp at h
  rcases l with _ | ⟨v34, l⟩
  · simp at h
  rcases l with _ | ⟨x, l⟩
  · exact ⟨v0, v1, v2, v3, v4, v5, v6, v7, v8, v9, v10, v11, v12, v13, v14, v15, v16, v17, v18, v19, v20, v21, v22, v23, v24, v25, v26, v27, v28, v29, v30, v31, v32, v33, v34, rfl⟩
  · simp at h
theorem built65v (s v0 v1 v2 v3 v4 v5 v6 v7 v8 v9 v10 v11 v12 v13 v14 v15 v16 v17 v18 v19 v20 v21 v22 v23 v24 v25 v26 v27 v28 v29 v30 v31 v32 v33 v34 a b c : Value) : Tryd.prog.built 65 [(0, .agg #[s]), (1, .agg #[v0, v1, v2, v3, v4, v5, v6, v7, v8, v9, v10, v11, v12, v13, v14, v15, v16, v17, v18, v19, v20, v21, v22, v23, v24, v25, v26, v27, v28, v29, v30, v31, v32, v33, v34]), (2, .agg #[a, b, c])] = some #[s, v0, v1, v2, v3, v4, v5, v6, v7, v8, v9, v10, v11, v12, v13, v14, v15, v16, v17, v18, v19, v20, v21, v22, v23, v24, v25, v26, v27, v28, v29, v30, v31, v32, v33, v34, a, b, c] := by kernel_rfl
theorem built65 (s a b c : Value) {C : List Value} (h : C.length = 35) : Tryd.prog.built 65 [(0, .agg #[s]), (1, .agg C.toArray), (2, .agg #[a, b, c])] = some (s :: (C ++ [a, b, c])).toArray := by
  obtain ⟨v0, v1, v2, v3, v4, v5, v6, v7, v8, v9, v10, v11, v12, v13, v14, v15, v16, v17, v18, v19, v20, v21, v22, v23, v24, v25, v26, v27, v28, v29, v30, v31, v32, v33, v34, rfl⟩ := list35 C h
  exact built65v s v0 v1 v2 v3 v4 v5 v6 v7 v8 v9 v10 v11 v12 v13 v14 v15 v16 v17 v18 v19 v20 v21 v22 v23 v24 v25 v26 v27 v28 v29 v30 v31 v32 v33 v34 a b c
theorem built39v (nm : ByteArray) (sz pc : Int) : Tryd.prog.built 39 [(0, .string nm), (1, .int .i64 sz), (2, .int .i64 pc)] = some (Mf.cells ⟨nm, sz, pc, z32⟩).toArray := by kernel_rfl
def mfZ : Mf := ⟨⟨#[]⟩, 0, 0, z32⟩
theorem built39z' : Tryd.prog.built 39 [] = some mfZ.cells.toArray := by kernel_rfl
theorem zeroMf : (Tryd.prog.info? 39).map (fun i => (i.zero, i.size)) = some (some (.agg mfZ.cells.toArray), 35) := by kernel_rfl
theorem zMf (w : World) : (zeroValue 39).run Tryd.prog w = .ok (.agg mfZ.cells.toArray) w := (zero_of_info zeroMf).1 w
end Go.Proofs.YtaklbofbhanjgaaDoor
namespace Go.Proofs.YtaklbofbhanjgaaDoor
open Go.RowKit
set_option maxRecDepth 100000
section
variable {P : Program} {ops : Array Oper} {Q : Exit → Act → World → Prop} {md : Region.Mode} {S : World → Prop} {N : Nat}
/-- Two may come up. -/
theorem wpAnyF_two {i j : Nat} {o o' : Oper} {fuel : Nat} {listed : Array Bool} {a : Act} {w : World} (ho : ops[i]? = some o) (ho' : ops[j]? = some o') (hg : o.guard = none) (hg' : o'.guard = none) (hr : Region.ready md ops listed = [i, j])
    (h : o.wp P a w (fun a' w' => (i ≠ N → S w') ∧ wpAnyF P md ops Q S N fuel (listed.setIfInBounds i true) a' w') Q) (h' : o'.wp P a w (fun a' w' => (j ≠ N → S w') ∧ wpAnyF P md ops Q S N fuel (listed.setIfInBounds j true) a' w') Q) : wpAnyF P md ops Q S N (fuel + 1) listed a w := by
  refine ⟨fun h0 => (by rw [hr] at h0; cases h0), fun k hk => ?_⟩
  rw [hr] at hk
  rcases List.mem_cons.1 hk with e | hk
  · subst e
    unfold wpOp
    simp only [ho, Region.wanted, hg]
    exact .inl h
  · rw [List.mem_singleton] at hk
    subst hk
    unfold wpOp
    simp only [ho', Region.wanted, hg']
    exact .inl h'
theorem step_built {o : Oper} {a : Act} {w : World} {K : Act → World → Prop} {Q : Exit → Act → World → Prop} {t : TypeId} {parts : Array (Nat × Operand)} {cells : Array Value} (ho : o.op = .build t parts) (hf : P.built t (parts.map fun (i, x) => (i, a.eval x)).toList = some cells) (h : K (a.put o.dst (.agg cells)) w) : Oper.wp P o a w K Q := by
  refine wp_build _ _ ho (by rw [hf]; rfl) ?_
  rw [hf]
  exact h
end
theorem i60 : (Tryd.prog.info? 60).map (·.size) = some ([.slice none 0 0] : List Value).length := by kernel_rfl
/-- A Store that New gave. -/
structure NewAt (w w' : World) (m : Mf) (p mm : Nat) : Prop where
  st : w'.heap[p]? = some (.cells (.slice none 0 0 :: (m.cells ++ [.slice none 0 0, .int .i64 m.pc, .map (some mm)])).toArray 65 (0, 0))
  mp : w'.heap[mm]? = some (.map #[] 0)
  p0 : w.heap.size ≤ p
  m0 : w.heap.size ≤ mm
  lt : mm < p
  bl : Below w.heap.size w w'
theorem newAt_of {w w2 w3 w4 : World} {C : List Value} {nm : ByteArray} {sz pc : Int} {rt : List (BitVec 8)} {mm : Nat} (hb : Below w.heap.size w w2) (hC : Mf.cells ⟨nm, sz, pc, rt⟩ = C) (hb3 : Below w2.drew.heap.size w2.drew w3) (hb4 : Below w3.heap.size w3 w4) (h1 : w3.heap.size ≤ mm) (h2 : w4.heap[mm]? = some (.map #[] 0)) (h3 : mm < w4.heap.size) :
    NewAt w (w4.alloc (.cells (.slice none 0 0 :: (C ++ [.slice none 0 0, .int .i64 pc, .map (some mm)])).toArray 65)) ⟨nm, sz, pc, rt⟩ w4.heap.size mm := by
  have s3 := hb3.size
  have s2 := hb.size
  have s4 := hb4.size
  have hd : w2.drew.heap.size = w2.heap.size := rfl
  refine ⟨by rw [hC]; exact heap_alloc_last w4 _, ?_, by omega, by omega, by omega, ?_⟩
  · rw [Below.heap_alloc _ _ _ h3]; exact h2
  · have hdr : Below w.heap.size w2 w2.drew := ⟨rfl, rfl, rfl, Nat.le_refl _, fun _ _ => rfl⟩
    exact (((hb.trans hdr).trans (hb3.mono (by omega))).trans (hb4.mono (by omega))).trans ((below_new w4 _).mono (by omega))
set_option maxHeartbeats 4000000 in
theorem new_ok {m : Mf} {w : World} (hr : m.rt.length = 32) (hE : fitE m = 0) : Calls Tryd.prog 46 #[.agg m.cells.toArray] w fun e w' => ∃ p mm, e = .returned (.tuple #[.pointer (some ⟨p, 0, none⟩), .int .i64 0]) ∧ NewAt w w' m p mm := by
  have HFC : Hid (∀ w, Calls Tryd.prog 22 #[.agg m.cells.toArray] w fun e w' => e = .returned (.int .i64 0) ∧ Below w.heap.size w w') := fun w => hE ▸ fit_any
  have HL : Hid (m.cells.length = 35) := Mf.cells_len hr
  have I35 := hid iMf
  have H77 : Hid (∀ w, Calls Tryd.prog 77 #[.slice none 0 0] w fun e w' => ∃ v, e = .returned v ∧ ∃ p, v = .pointer (some ⟨p, 0, none⟩) ∧ w'.heap[p]? = some (.cells #[.slice none 0 0] 60 (0, 0)) ∧ Below w.heap.size w w') := fun w => (new_none w).mono fun e w' ⟨p, h1, h2, h3⟩ => ⟨_, h1, p, rfl, h2, h3⟩
  have H52 : Hid (∀ w, Calls Tryd.prog 52 #[.slice none 0 0, .int .i64 m.pc] w fun e w' => ∃ v, e = .returned v ∧ ∃ mm, v = .agg #[.slice none 0 0, .int .i64 m.pc, .map (some mm)] ∧ w.heap.size ≤ mm ∧ w'.heap[mm]? = some (.map #[] 0) ∧ mm < w'.heap.size ∧ Below w.heap.size w w') := fun w => (bodyOf_any (a := none) (n := 0) (c := 0) (p := m.pc) (w := w)).mono fun e w' ⟨mm, h1, h2, h3, h4, h5⟩ => ⟨_, h1, mm, rfl, h2, h3, h4, h5⟩
  obtain ⟨nm, sz, pc, rt⟩ := m
  dsimp only at H52
  obtain ⟨C, hC⟩ : ∃ C, Mf.cells ⟨nm, sz, pc, rt⟩ = C := ⟨_, rfl⟩
  have hc2 : C[2]? = some (.int .i64 pc) := by rw [← hC]; rfl
  rw [hC] at HFC HL ⊢
  have HC := hid hc2
  have HW2 := hid hC
  clear hC hc2 hr hE
  go_enter Tryd.func46, Tryd.ntmps46
  go_upto_region 1 with (fail)
  refine wp_world fun wa HW => ?_
  have HBa : Hid (Below w.heap.size w wa) := by show Below _ _ _; rw [HW.out]; exact below_new _ _
  have HR : Hid (Row wa w.heap.size C 39) := by show Row _ _ _ _; rw [HW.out]; exact Row.new' _ _ _ _ _ rfl rfl
  clear HW
  obtain ⟨b, hb⟩ : ∃ b, w.heap.size = b := ⟨_, rfl⟩
  rw [hb] at HR ⊢
  clear hb
  go_upto_region 4 with (first
    | (show wpList _ _ _ (Oper.mk (some 5) (.load 39 (.tmp 1)) _ _ _ _ :: _) _ _; refine HR.out.wpLoad 39 (.tmp 1) rfl rfl rfl _ Tryd.underlying39 rfl (by rw [HL.out]; exact I35.out) ?_)
    | (go_at_call 22; refine Calls.mono (HFC.out _) ?_; rintro e w2 ⟨rfl, hb2⟩
       have HB2 := hid hb2
       have HRD : Hid (Row w2.drew b C 39) := ⟨(HR.out.kept hb2 HR.out.lt).at_⟩
       clear hb2))
  refine wp_region_last (S := fun w' => Row w' b C 39) (N := 10) (by kernel_rfl) (by kernel_rfl) fun hNW => ?_
  have hHeld : (fun w' => Row w' b C 39) w2.drew := HRD.out
  refine wpAnyF_take (i := 3) (oi := { dst := some 13, op := Go.Op.load 39 (Go.Operand.tmp 1), type := 39, pos := "pieces.go:23", after := #[], guard := none }) (v := .agg C.toArray) hNW (by decide) rfl (by kernel_rfl) (by kernel_rfl) (by kernel_rfl) (by kernel_rfl) (fun _ _ _ h => h) (Or.inl ⟨by kernel_rfl, ?ha3⟩) (by assumption) ?ra3
  case ha3 => (intro wt hSw; (try dsimp only at hSw); have hl := hSw.load (P := Tryd.prog) 39 _ Tryd.underlying39 rfl (by rw [HL.out]; exact I35.out); simp [execOp, Act.eval, hl])
  simp only [Act.put, List.setIfInBounds_toArray, List.set_cons_zero, List.set_cons_succ]
  refine wpAnyF_take (i := 4) (oi := { dst := some 14, op := Go.Op.fieldAddr 39 (Go.Operand.tmp 1) 2, type := 0, pos := "pieces.go:23", after := #[], guard := none }) (v := .pointer (some ⟨b, 2, none⟩)) hNW (by decide) rfl (by kernel_rfl) (by kernel_rfl) (by kernel_rfl) (by kernel_rfl) (fun _ _ _ h => h) (Or.inl ⟨by kernel_rfl, ?ha4⟩) (by assumption) ?ra4
  case ha4 => (intro wt hSw; (try dsimp only at hSw); go_simp; try with_reducible rfl)
  simp only [Act.put, List.setIfInBounds_toArray, List.set_cons_zero, List.set_cons_succ]
  refine wpAnyF_take (i := 5) (oi := { dst := some 15, op := Go.Op.load 3 (Go.Operand.tmp 14), type := 3, pos := "pieces.go:23", after := #[{ on := 4, ground := Go.Ground.data }], guard := none }) (v := .int .i64 pc) hNW (by decide) rfl (by kernel_rfl) (by kernel_rfl) (by kernel_rfl) (by kernel_rfl) (fun _ _ _ h => h) (Or.inl ⟨by kernel_rfl, ?ha5⟩) (by assumption) ?ra5
  case ha5 => (intro wt hSw; (try dsimp only at hSw); have d2 := hSw.cell 2 _ HC.out; go_simp; try with_reducible rfl)
  simp only [Act.put, List.setIfInBounds_toArray, List.set_cons_zero, List.set_cons_succ]
  refine wpAnyF_one (i := 0) (o := { dst := some 10, op := Go.Op.call { callee := Go.Callee.value (Go.Operand.func 77), args := #[Go.Operand.const (Go.Value.slice none 0 0)], argTypes := #[58] }, type := 120, pos := "pieces.go:23", after := #[], guard := none }) rfl rfl (by kernel_rfl) ?_
  refine step_callx (f := 77) (args := #[.slice none 0 0]) (by first | kernel_rfl | go_simp) (H77.out w2.drew) ?_
  rintro v3 w3 ⟨p0, rfl, hp0, hb3⟩
  have hr3 := HRD.out.kept hb3 HRD.out.lt
  refine ⟨fun _ => hr3, ?_⟩
  simp only [Act.put, List.setIfInBounds_toArray, List.set_cons_zero, List.set_cons_succ]
  refine wpAnyF_take (i := 1) (oi := { dst := some 11, op := Go.Op.nilCheck (Go.Operand.tmp 10), type := 0, pos := "pieces.go:23", after := #[{ on := 0, ground := Go.Ground.data }], guard := none }) (v := .pointer (some ⟨p0, 0, none⟩)) hNW (by decide) rfl (by kernel_rfl) (by kernel_rfl) (by kernel_rfl) (by kernel_rfl) (fun _ _ _ h => h) (Or.inl ⟨by kernel_rfl, ?ha1⟩) (by assumption) ?ra1
  case ha1 => (intro wt hSw; (try dsimp only at hSw); go_simp; try with_reducible rfl)
  simp only [Act.put, List.setIfInBounds_toArray, List.set_cons_zero, List.set_cons_succ]
  have hq3 : Row w3 p0 [.slice none 0 0] 60 := ⟨hp0⟩
  refine wpAnyF_two (i := 2) (j := 6) (o := { dst := some 12, op := Go.Op.load 60 (Go.Operand.tmp 11), type := 60, pos := "pieces.go:23", after := #[{ on := 1, ground := Go.Ground.data }], guard := none }) (o' := { dst := some 16, op := Go.Op.call { callee := Go.Callee.value (Go.Operand.func 52), args := #[Go.Operand.const (Go.Value.slice none 0 0), Go.Operand.tmp 15], argTypes := #[22, 3] }, type := 63, pos := "pieces.go:23", after := #[{ on := 5, ground := Go.Ground.data }, { on := 0, ground := Go.Ground.chain }], guard := none }) rfl rfl rfl rfl (by kernel_rfl) ?path1 ?path2
  case path1 =>
    refine step_val (v := .agg #[.slice none 0 0]) (w' := w3) (by have hl := hq3.load (P := Tryd.prog) 60 _ Tryd.underlying60 rfl i60; simp [execOp, Act.eval, hl]) ?_
    refine ⟨fun _ => hr3, ?_⟩
    simp only [Act.put, List.setIfInBounds_toArray, List.set_cons_zero, List.set_cons_succ]
    refine wpAnyF_one (i := 6) (o := { dst := some 16, op := Go.Op.call { callee := Go.Callee.value (Go.Operand.func 52), args := #[Go.Operand.const (Go.Value.slice none 0 0), Go.Operand.tmp 15], argTypes := #[22, 3] }, type := 63, pos := "pieces.go:23", after := #[{ on := 5, ground := Go.Ground.data }, { on := 0, ground := Go.Ground.chain }], guard := none }) rfl rfl (by kernel_rfl) ?_
    refine step_callx (f := 52) (args := #[.slice none 0 0, .int .i64 pc]) (by first | kernel_rfl | go_simp) (H52.out w3) ?_
    rintro v4 w4 ⟨mm, rfl, hm1, hm2, hm3, hb4⟩
    have hr4 := hr3.kept hb4 hr3.lt
    refine ⟨fun _ => hr4, ?_⟩
    simp only [Act.put, List.setIfInBounds_toArray, List.set_cons_zero, List.set_cons_succ]
    refine wpAnyF_one (i := 7) (o := { dst := some 17, op := Go.Op.build 65 #[(0, Go.Operand.tmp 12), (1, Go.Operand.tmp 13), (2, Go.Operand.tmp 16)], type := 65, pos := "pieces.go:23", after := #[{ on := 2, ground := Go.Ground.data }, { on := 3, ground := Go.Ground.data }, { on := 6, ground := Go.Ground.data }], guard := none }) rfl rfl (by kernel_rfl) ?_
    refine step_built (t := 65) (cells := (.slice none 0 0 :: (C ++ [.slice none 0 0, .int .i64 pc, .map (some mm)])).toArray) rfl ((congrArg (fun l => Tryd.prog.built 65 l) (by first | rfl | simp [Act.eval])).trans (built65 (.slice none 0 0) (.slice none 0 0) (.int .i64 pc) (.map (some mm)) HL.out)) ?_
    refine ⟨fun _ => hr4, ?_⟩
    simp only [Act.put, List.setIfInBounds_toArray, List.set_cons_zero, List.set_cons_succ]
    refine wpAnyF_one (i := 8) (o := { dst := some 18, op := Go.Op.box 65 (Go.Operand.tmp 17), type := 49, pos := "pieces.go:23", after := #[{ on := 7, ground := Go.Ground.data }], guard := none }) rfl rfl (by kernel_rfl) ?_
    refine step_val (v := .pointer (some ⟨w4.heap.size, 0, none⟩)) (w' := w4.alloc (.cells (.slice none 0 0 :: (C ++ [.slice none 0 0, .int .i64 pc, .map (some mm)])).toArray 65)) (by first | kernel_rfl | go_simp) ?_
    refine ⟨fun _ => hr4.alloc _, ?_⟩
    simp only [Act.put, List.setIfInBounds_toArray, List.set_cons_zero, List.set_cons_succ]
    refine wpAnyF_one (i := 9) (o := { dst := some 2, op := Go.Op.assign (Go.Operand.tmp 18), type := 49, pos := "pieces.go:23", after := #[{ on := 8, ground := Go.Ground.data }, { on := 6, ground := Go.Ground.chain }, { on := 0, ground := Go.Ground.phase }, { on := 1, ground := Go.Ground.phase }, { on := 2, ground := Go.Ground.phase }, { on := 3, ground := Go.Ground.phase }, { on := 4, ground := Go.Ground.phase }, { on := 5, ground := Go.Ground.phase }, { on := 6, ground := Go.Ground.phase }, { on := 7, ground := Go.Ground.phase }, { on := 8, ground := Go.Ground.phase }], guard := none }) rfl rfl (by kernel_rfl) ?_
    refine step_val (v := .pointer (some ⟨w4.heap.size, 0, none⟩)) (w' := w4.alloc (.cells (.slice none 0 0 :: (C ++ [.slice none 0 0, .int .i64 pc, .map (some mm)])).toArray 65)) (by first | kernel_rfl | go_simp) ?_
    refine ⟨fun _ => hr4.alloc _, ?_⟩
    simp only [Act.put, List.setIfInBounds_toArray, List.set_cons_zero, List.set_cons_succ]
    refine wpAnyF_one (i := 10) (o := { dst := some 3, op := Go.Op.assign (Go.Operand.const (Go.Value.int Go.IntKind.i64 0)), type := 31, pos := "pieces.go:23", after := #[{ on := 9, ground := Go.Ground.chain }, { on := 0, ground := Go.Ground.phase }, { on := 1, ground := Go.Ground.phase }, { on := 2, ground := Go.Ground.phase }, { on := 3, ground := Go.Ground.phase }, { on := 4, ground := Go.Ground.phase }, { on := 5, ground := Go.Ground.phase }, { on := 6, ground := Go.Ground.phase }, { on := 7, ground := Go.Ground.phase }, { on := 8, ground := Go.Ground.phase }, { on := 9, ground := Go.Ground.phase }], guard := none }) rfl rfl (by kernel_rfl) ?_
    refine step_val (v := .int .i64 0) (w' := w4.alloc (.cells (.slice none 0 0 :: (C ++ [.slice none 0 0, .int .i64 pc, .map (some mm)])).toArray 65)) (by first | kernel_rfl | go_simp) ?_
    refine ⟨fun h => absurd rfl h, ?_⟩
    simp only [Act.put]
    refine wpAnyF_done (by kernel_rfl) ?_ _
    have hFin := newAt_of (sz := sz) (nm := nm) (HBa.out.trans (HB2.out.mono HBa.out.size)) HW2.out hb3 hb4 hm1 hm2 hm3
    clear hNW hHeld hr3 hr4 hq3 hp0 hb3 hb4 hm2 hm3 HRD HC H77 H52 hm1
    have HF := hid hFin
    clear hFin
    go_wp2_with fail
    go_ret2
    exact ⟨_, _, rfl, HF.out⟩
  case path2 =>
    refine step_callx (f := 52) (args := #[.slice none 0 0, .int .i64 pc]) (by first | kernel_rfl | go_simp) (H52.out w3) ?_
    rintro v4 w4 ⟨mm, rfl, hm1, hm2, hm3, hb4⟩
    have hr4 := hr3.kept hb4 hr3.lt
    have hq4 := hq3.kept hb4 hq3.lt
    refine ⟨fun _ => hr4, ?_⟩
    simp only [Act.put, List.setIfInBounds_toArray, List.set_cons_zero, List.set_cons_succ]
    refine wpAnyF_one (i := 2) (o := { dst := some 12, op := Go.Op.load 60 (Go.Operand.tmp 11), type := 60, pos := "pieces.go:23", after := #[{ on := 1, ground := Go.Ground.data }], guard := none }) rfl rfl (by kernel_rfl) ?_
    refine step_val (v := .agg #[.slice none 0 0]) (w' := w4) (by have hl := hq4.load (P := Tryd.prog) 60 _ Tryd.underlying60 rfl i60; simp [execOp, Act.eval, hl]) ?_
    refine ⟨fun _ => hr4, ?_⟩
    simp only [Act.put, List.setIfInBounds_toArray, List.set_cons_zero, List.set_cons_succ]
    refine wpAnyF_one (i := 7) (o := { dst := some 17, op := Go.Op.build 65 #[(0, Go.Operand.tmp 12), (1, Go.Operand.tmp 13), (2, Go.Operand.tmp 16)], type := 65, pos := "pieces.go:23", after := #[{ on := 2, ground := Go.Ground.data }, { on := 3, ground := Go.Ground.data }, { on := 6, ground := Go.Ground.data }], guard := none }) rfl rfl (by kernel_rfl) ?_
    refine step_built (t := 65) (cells := (.slice none 0 0 :: (C ++ [.slice none 0 0, .int .i64 pc, .map (some mm)])).toArray) rfl ((congrArg (fun l => Tryd.prog.built 65 l) (by first | rfl | simp [Act.eval])).trans (built65 (.slice none 0 0) (.slice none 0 0) (.int .i64 pc) (.map (some mm)) HL.out)) ?_
    refine ⟨fun _ => hr4, ?_⟩
    simp only [Act.put, List.setIfInBounds_toArray, List.set_cons_zero, List.set_cons_succ]
    refine wpAnyF_one (i := 8) (o := { dst := some 18, op := Go.Op.box 65 (Go.Operand.tmp 17), type := 49, pos := "pieces.go:23", after := #[{ on := 7, ground := Go.Ground.data }], guard := none }) rfl rfl (by kernel_rfl) ?_
    refine step_val (v := .pointer (some ⟨w4.heap.size, 0, none⟩)) (w' := w4.alloc (.cells (.slice none 0 0 :: (C ++ [.slice none 0 0, .int .i64 pc, .map (some mm)])).toArray 65)) (by first | kernel_rfl | go_simp) ?_
    refine ⟨fun _ => hr4.alloc _, ?_⟩
    simp only [Act.put, List.setIfInBounds_toArray, List.set_cons_zero, List.set_cons_succ]
    refine wpAnyF_one (i := 9) (o := { dst := some 2, op := Go.Op.assign (Go.Operand.tmp 18), type := 49, pos := "pieces.go:23", after := #[{ on := 8, ground := Go.Ground.data }, { on := 6, ground := Go.Ground.chain }, { on := 0, ground := Go.Ground.phase }, { on := 1, ground := Go.Ground.phase }, { on := 2, ground := Go.Ground.phase }, { on := 3, ground := Go.Ground.phase }, { on := 4, ground := Go.Ground.phase }, { on := 5, ground := Go.Ground.phase }, { on := 6, ground := Go.Ground.phase }, { on := 7, ground := Go.Ground.phase }, { on := 8, ground := Go.Ground.phase }], guard := none }) rfl rfl (by kernel_rfl) ?_
    refine step_val (v := .pointer (some ⟨w4.heap.size, 0, none⟩)) (w' := w4.alloc (.cells (.slice none 0 0 :: (C ++ [.slice none 0 0, .int .i64 pc, .map (some mm)])).toArray 65)) (by first | kernel_rfl | go_simp) ?_
    refine ⟨fun _ => hr4.alloc _, ?_⟩
    simp only [Act.put, List.setIfInBounds_toArray, List.set_cons_zero, List.set_cons_succ]
    refine wpAnyF_one (i := 10) (o := { dst := some 3, op := Go.Op.assign (Go.Operand.const (Go.Value.int Go.IntKind.i64 0)), type := 31, pos := "pieces.go:23", after := #[{ on := 9, ground := Go.Ground.chain }, { on := 0, ground := Go.Ground.phase }, { on := 1, ground := Go.Ground.phase }, { on := 2, ground := Go.Ground.phase }, { on := 3, ground := Go.Ground.phase }, { on := 4, ground := Go.Ground.phase }, { on := 5, ground := Go.Ground.phase }, { on := 6, ground := Go.Ground.phase }, { on := 7, ground := Go.Ground.phase }, { on := 8, ground := Go.Ground.phase }, { on := 9, ground := Go.Ground.phase }], guard := none }) rfl rfl (by kernel_rfl) ?_
    refine step_val (v := .int .i64 0) (w' := w4.alloc (.cells (.slice none 0 0 :: (C ++ [.slice none 0 0, .int .i64 pc, .map (some mm)])).toArray 65)) (by first | kernel_rfl | go_simp) ?_
    refine ⟨fun h => absurd rfl h, ?_⟩
    simp only [Act.put]
    refine wpAnyF_done (by kernel_rfl) ?_ _
    have hFin := newAt_of (sz := sz) (nm := nm) (HBa.out.trans (HB2.out.mono HBa.out.size)) HW2.out hb3 hb4 hm1 hm2 hm3
    clear hNW hHeld hr3 hr4 hq3 hp0 hb3 hb4 hm2 hm3 HRD HC H77 H52 hm1
    have HF := hid hFin
    clear hFin
    go_wp2_with fail
    go_ret2
    exact ⟨_, _, rfl, HF.out⟩
end Go.Proofs.YtaklbofbhanjgaaDoor
