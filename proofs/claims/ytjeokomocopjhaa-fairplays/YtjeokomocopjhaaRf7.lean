import Derived.Test.YtjeokomocopjhaaRf4
namespace Go.Proofs.Ytjeokomocopjhaa
open Go.RowKit Go.Maps
set_option maxRecDepth 100000

theorem step_store71 {o : Oper} {a : Act} {w : World} {K : Act → World → Prop} {Q : Exit → Act → World → Prop} {x1 x2 : Operand} {b k : Nat} {y : Sm} {u0 u1 u2 u3 u4 u5 : Value} (ho : o.op = .store 71 x1 x2) (hx : a.eval x1 = .pointer (some ⟨b, k, none⟩)) (hy : a.eval x2 = .agg #[.int .u64 y.num, .int .i64 y.cls, .int .i64 y.shr, .int .i64 y.wt, .int .i64 y.cr, .bool y.on])
    (z0 : w.cell? ⟨b, k, none⟩ = some u0) (z1 : w.cell? ⟨b, k + 1, none⟩ = some u1) (z2 : w.cell? ⟨b, k + 2, none⟩ = some u2) (z3 : w.cell? ⟨b, k + 3, none⟩ = some u3) (z4 : w.cell? ⟨b, k + 4, none⟩ = some u4) (z5 : w.cell? ⟨b, k + 5, none⟩ = some u5)
    (f0 : w.frozen? ⟨b, k, none⟩ = false) (f1 : w.frozen? ⟨b, k + 1, none⟩ = false) (f2 : w.frozen? ⟨b, k + 2, none⟩ = false) (f3 : w.frozen? ⟨b, k + 3, none⟩ = false) (f4 : w.frozen? ⟨b, k + 4, none⟩ = false) (f5 : w.frozen? ⟨b, k + 5, none⟩ = false)
    (h : K (a.put o.dst undef) ((((((w.setCell ⟨b, k, none⟩ (.int .u64 y.num)).setCell ⟨b, k + 1, none⟩ (.int .i64 y.cls)).setCell ⟨b, k + 2, none⟩ (.int .i64 y.shr)).setCell ⟨b, k + 3, none⟩ (.int .i64 y.wt)).setCell ⟨b, k + 4, none⟩ (.int .i64 y.cr)).setCell ⟨b, k + 5, none⟩ (.bool y.on))) : Oper.wp Try.prog o a w K Q := by
  have e : (execOp a.eval o).run Try.prog w = .ok .skip ((((((w.setCell ⟨b, k, none⟩ (.int .u64 y.num)).setCell ⟨b, k + 1, none⟩ (.int .i64 y.cls)).setCell ⟨b, k + 2, none⟩ (.int .i64 y.shr)).setCell ⟨b, k + 3, none⟩ (.int .i64 y.wt)).setCell ⟨b, k + 4, none⟩ (.int .i64 y.cr)).setCell ⟨b, k + 5, none⟩ (.bool y.on)) := by
    generalize a.eval = r at *
    simp [execOp, ho, hx, hy, z0, z1, z2, z3, z4, z5, f0, f1, f2, f3, f4, f5, go_sem]
  unfold Oper.wp
  rw [e]
  exact h
theorem six {w : World} {r : Nat} {V : Nat → Value} {q : Int} {R : Nat → List Int} {g cap n : Nat} {A B : List Sm} {x : Sm} (h : RfAt w r (.slice (some ⟨g, 0, none⟩) n cap) V q (A ++ x :: B) R) {m : Nat} (hm : A.length = m) :
    w.cell? ⟨g, m * 6, none⟩ = some (.int .u64 x.num) ∧ w.cell? ⟨g, m * 6 + 1, none⟩ = some (.int .i64 x.cls) ∧ w.cell? ⟨g, m * 6 + 2, none⟩ = some (.int .i64 x.shr) ∧ w.cell? ⟨g, m * 6 + 3, none⟩ = some (.int .i64 x.wt) ∧ w.cell? ⟨g, m * 6 + 4, none⟩ = some (.int .i64 x.cr) ∧ w.cell? ⟨g, m * 6 + 5, none⟩ = some (.bool x.on) ∧
      w.frozen? ⟨g, m * 6, none⟩ = false ∧ w.frozen? ⟨g, m * 6 + 1, none⟩ = false ∧ w.frozen? ⟨g, m * 6 + 2, none⟩ = false ∧ w.frozen? ⟨g, m * 6 + 3, none⟩ = false ∧ w.frozen? ⟨g, m * 6 + 4, none⟩ = false ∧ w.frozen? ⟨g, m * 6 + 5, none⟩ = false := by
  subst hm
  obtain ⟨hc, hf, -, -⟩ := lst_at h.lst
  exact ⟨hc 0 _ rfl, hc 1 _ rfl, hc 2 _ rfl, hc 3 _ rfl, hc 4 _ rfl, hc 5 _ rfl, hf _, hf _, hf _, hf _, hf _, hf _⟩
set_option maxHeartbeats 8000000 in
theorem radd_ok {w : World} {r : Nat} {vL : Value} {V : Nat → Value} {q : Int} {l : List Sm} {R : Nat → List Int} (h : RfAt w r vL V q l R) {id shr : Int} {cls : Nat} (hl : l.length < 1024) (hA : ∀ a ∈ l, a.num ≠ id) (hc : cls ≤ 7) (hs0 : 1 ≤ shr) (hs1 : shr ≤ 255) :
    Calls Try.prog 27 #[pt r 0, .int .u64 id, .int .i64 cls, .int .i64 shr] w fun e w' => e = .returned (.int .i64 0) ∧ ∃ vL' i, i ≤ l.length ∧ (∀ x ∈ l.drop i, id < x.num) ∧ (∀ x, l[i - 1]? = some x → 0 < i → x.num < id) ∧ RMv r vL V w vL' V q (l.take i ++ ⟨id, cls, shr, 0, 0, false⟩ :: l.drop i) R w' := by
  have hP := place_miss h hA (by omega)
  have c1 := h.row.cell 1 _ rfl
  have HA := hid2 hA
  have HLL := hid2 hl
  obtain ⟨a, cap, hv⟩ : ∃ a cap, vL = .slice a l.length cap := by
    rcases lst_shape h.lst with ⟨rfl, rfl⟩ | ⟨g, cap, rfl, _⟩
    · exact ⟨none, 0, rfl⟩
    · exact ⟨_, cap, rfl⟩
  have hba := below_box w (.cells smz.cells.toArray 71)
  have hRz := Row.new w smz.cells 71
  have h1 := h.below hba
  obtain ⟨v', w1, hrun, hO, hg, hn⟩ := app_run (c := 1) (ad := ⟨w.heap.size, 0, none⟩) (m := [smz]) (l := l) (k := 1) rfl h1.lst (Nat.zero_le _) (by omega) (fun j u hu => by rw [Addr.add_mid, Nat.zero_add]; exact hRz.cell j u (by simpa [flatS] using hu)) 64
  have hF1 : Fr (fun k => vL.ownBlock = some k) (w.alloc (.cells smz.cells.toArray 71)) w1 := Fr.of_grown hg (fun k e => .inl e)
  have hM := RMv.ahead hba (h1.lay hF1 hO hn)
  obtain ⟨g, cap2, rfl⟩ := lst_some (A := l) (x := smz) (B := []) hO
  have HM := hid2 hM
  have rb := (hF1.row h1.row h1.lr)
  have b1 := rb.cell 1 _ rfl
  have fb := rb.frozen 1
  have a1 := h1.row.cell 1 _ rfl
  have HRUN := hid2 hrun
  have hbd := rbuild71
  have hbs := rbsl71
  have hbd2 := rbuild44
  have hbd3 := rbuild71b
  have hc1 : ¬ (cls : Int) < 0 := by omega
  have hc2 : ¬ 7 < (cls : Int) := by omega
  have hs2 : ¬ shr < 1 := by omega
  have hs3 : ¬ 255 < shr := by omega
  have hl1 : ¬ (1024 : Int) ≤ (l.length : Int) := by omega
  have hl2 : (l.length : Int) ≤ 1023 := by omega
  have hln : (l ++ [smz]).length = l.length + 1 := by simp
  subst hv
  rw [hln] at HM HRUN
  clear h hA hba hRz h1 hrun hO hg hn hF1 hM rb hln
  go_enter Try.func27, Try.ntmps27
  go_wp2_with (first
    | (go_at_call 36; refine hP.mono ?_; rintro e w' ⟨rfl, rfl⟩)
    | (at_builtin; refine wpList_append_by rfl (.tmp 45) (.tmp 47) 64 rfl rfl rfl HRUN.out ?_))
  go_loopw [9] (fun s wr => ∃ k : Nat, k ≤ l.length ∧ s = .int .i64 k ∧ ∃ z, (∀ x ∈ l.drop k, id < x.num) ∧ RMv r (.slice a l.length cap) V w' (.slice (some ⟨g, 0, none⟩) (l.length + 1) cap2) V q (l.take k ++ z :: l.drop k) R wr) (fun s _ => (intOf s).toNat)
  case atStart => exact ⟨l.length, Nat.le_refl _, rfl, smz, by simp, by rw [List.take_length, List.drop_length]; exact HM.out⟩
  case round =>
    obtain ⟨k, hk, rfl, z, hgt, hM⟩ := hrel
    have HMv := hid2 hM
    have HG := hid2 hgt
    have p1 := hM.at_.row.cell 1 _ rfl
    have hk1 : (k : Int) < (l.length : Int) + 1 := by omega
    have hk2 : (k : Int) ≤ 1023 := by omega
    clear hgt
    have EX : Hid (∀ y, RMv r (.slice a l.length cap) V w' (.slice (some ⟨g, 0, none⟩) (l.length + 1) cap2) V q (l.take k ++ y :: l.drop k) R ((((((wr.setCell ⟨g, k * 6, none⟩ (.int .u64 y.num)).setCell ⟨g, k * 6 + 1, none⟩ (.int .i64 y.cls)).setCell ⟨g, k * 6 + 2, none⟩ (.int .i64 y.shr)).setCell ⟨g, k * 6 + 3, none⟩ (.int .i64 y.wt)).setCell ⟨g, k * 6 + 4, none⟩ (.int .i64 y.cr)).setCell ⟨g, k * 6 + 5, none⟩ (.bool y.on))) := fun y => hM.trans (hM.at_.elem y (by simp; omega))
    obtain ⟨z0, z1, z2, z3, z4, z5, f0, f1, f2, f3, f4, f5⟩ := six hM.at_ (m := k) (by simp; omega)
    have hbk : (k : Int) < ((l.length + 1 : Nat) : Int) := by omega
    have hkn : ¬ (k : Int) < 0 := by omega
    rcases k with _ | k
    · clear hM
      go_wp2_with fail
      go_ret
      exact ⟨rfl, _, 0, Nat.zero_le _, HG.out, fun _ _ h0 => absurd h0 (Nat.lt_irrefl 0), EX.out ⟨id, cls, shr, 0, 0, false⟩⟩
    · have hkl : k < l.length := hk
      obtain ⟨x, hx⟩ : ∃ x, l[k] = x := ⟨_, rfl⟩
      have HX := hid2 hx
      have eL : l.take (k + 1) ++ z :: l.drop (k + 1) = l.take k ++ x :: (z :: l.drop (k + 1)) := by
        rw [List.take_succ_eq_append_getElem hkl, hx, List.append_assoc]; rfl
      have hM2 := hM
      rw [eL] at hM2
      obtain ⟨q0, q1, q2, q3, q4, q5, -, -, -, -, -, -⟩ := six hM2.at_ (m := k) (by simp; omega)
      have hxA : x.num ≠ id := by rw [← hx]; exact HA.out _ (List.getElem_mem _)
      have eD : l.drop k = x :: l.drop (k + 1) := by rw [← hx]; exact List.drop_eq_getElem_cons hkl
      have HQ : Hid (l.take (k + 1) ++ x :: l.drop (k + 1) = l.take k ++ x :: l.drop k) := by
        show _ = _
        rw [List.take_succ_eq_append_getElem hkl, hx, List.append_assoc, eD]; rfl
      have HD : Hid (l.drop k = x :: l.drop (k + 1)) := eD
      clear hM hM2 eL hx eD
      have hk3 : (k : Int) < (l.length : Int) + 1 := by omega
      have hk5 : (0 : Int) ≤ (k : Int) + 1 := by omega
      have hk4 : (k : Int) + 1 < (l.length : Int) + 1 := by omega
      by_cases hgt : id < x.num
      · go_upto_region 12 with fail
        refine wp_region_last (S := fun w' => w'.cell? ⟨r, 1, none⟩ = some (.slice (some ⟨g, 0, none⟩) (l.length + 1) cap2) ∧ w'.cell? ⟨g, k * 6, none⟩ = some (.int .u64 x.num) ∧ w'.cell? ⟨g, k * 6 + 1, none⟩ = some (.int .i64 x.cls) ∧ w'.cell? ⟨g, k * 6 + 2, none⟩ = some (.int .i64 x.shr) ∧ w'.cell? ⟨g, k * 6 + 3, none⟩ = some (.int .i64 x.wt) ∧ w'.cell? ⟨g, k * 6 + 4, none⟩ = some (.int .i64 x.cr) ∧ w'.cell? ⟨g, k * 6 + 5, none⟩ = some (.bool x.on)) (N := 14) (by kernel_rfl) (by kernel_rfl) fun hNW => ?_
        have hHeld := (show (fun w' => w'.cell? ⟨r, 1, none⟩ = some (.slice (some ⟨g, 0, none⟩) (l.length + 1) cap2) ∧ w'.cell? ⟨g, k * 6, none⟩ = some (.int .u64 x.num) ∧ w'.cell? ⟨g, k * 6 + 1, none⟩ = some (.int .i64 x.cls) ∧ w'.cell? ⟨g, k * 6 + 2, none⟩ = some (.int .i64 x.shr) ∧ w'.cell? ⟨g, k * 6 + 3, none⟩ = some (.int .i64 x.wt) ∧ w'.cell? ⟨g, k * 6 + 4, none⟩ = some (.int .i64 x.cr) ∧ w'.cell? ⟨g, k * 6 + 5, none⟩ = some (.bool x.on)) wr.drew from ⟨p1, q0, q1, q2, q3, q4, q5⟩)
        refine wpAnyF_take (i := 0) (oi := { dst := some 67, op := Go.Op.move (Go.Operand.tmp 0), type := 47, pos := "ref.go:67", after := #[], guard := none }) (v := ?v1_0) hNW (by decide) rfl (by kernel_rfl) (by kernel_rfl) (by kernel_rfl) (by kernel_rfl) (fun _ _ _ h => h) (Or.inl ⟨by kernel_rfl, ?h1_0⟩) (by assumption) ?r1_0
        case h1_0 => (intro wt hSw; (try dsimp only at hSw); go_simp; try with_reducible rfl)
        simp only [Act.put, List.setIfInBounds_toArray, List.set_cons_zero, List.set_cons_succ]
        refine wpAnyF_take (i := 1) (oi := { dst := some 68, op := Go.Op.nilCheck (Go.Operand.tmp 67), type := 0, pos := "ref.go:67", after := #[{ on := 0, ground := Go.Ground.data }], guard := none }) (v := ?v1_1) hNW (by decide) rfl (by kernel_rfl) (by kernel_rfl) (by kernel_rfl) (by kernel_rfl) (fun _ _ _ h => h) (Or.inl ⟨by kernel_rfl, ?h1_1⟩) (by assumption) ?r1_1
        case h1_1 => (intro wt hSw; (try dsimp only at hSw); go_simp; try with_reducible rfl)
        simp only [Act.put, List.setIfInBounds_toArray, List.set_cons_zero, List.set_cons_succ]
        refine wpAnyF_take (i := 2) (oi := { dst := some 69, op := Go.Op.fieldAddr 66 (Go.Operand.tmp 68) 1, type := 0, pos := "ref.go:67", after := #[{ on := 1, ground := Go.Ground.data }], guard := none }) (v := ?v1_2) hNW (by decide) rfl (by kernel_rfl) (by kernel_rfl) (by kernel_rfl) (by kernel_rfl) (fun _ _ _ h => h) (Or.inl ⟨by kernel_rfl, ?h1_2⟩) (by assumption) ?r1_2
        case h1_2 => (intro wt hSw; (try dsimp only at hSw); go_simp; try with_reducible rfl)
        simp only [Act.put, List.setIfInBounds_toArray, List.set_cons_zero, List.set_cons_succ]
        refine wpAnyF_take (i := 3) (oi := { dst := some 70, op := Go.Op.load 64 (Go.Operand.tmp 69), type := 64, pos := "ref.go:67", after := #[{ on := 2, ground := Go.Ground.data }], guard := none }) (v := ?v1_3) hNW (by decide) rfl (by kernel_rfl) (by kernel_rfl) (by kernel_rfl) (by kernel_rfl) (fun _ _ _ h => h) (Or.inl ⟨by kernel_rfl, ?h1_3⟩) (by assumption) ?r1_3
        case h1_3 => (intro wt hSw; (try dsimp only at hSw); go_simp; try with_reducible rfl)
        simp only [Act.put, List.setIfInBounds_toArray, List.set_cons_zero, List.set_cons_succ]
        refine wpAnyF_take (i := 4) (oi := { dst := some 71, op := Go.Op.move (Go.Operand.tmp 9), type := 3, pos := "ref.go:67", after := #[], guard := none }) (v := ?v1_4) hNW (by decide) rfl (by kernel_rfl) (by kernel_rfl) (by kernel_rfl) (by kernel_rfl) (fun _ _ _ h => h) (Or.inl ⟨by kernel_rfl, ?h1_4⟩) (by assumption) ?r1_4
        case h1_4 => (intro wt hSw; (try dsimp only at hSw); go_simp; try with_reducible rfl)
        simp only [Act.put, List.setIfInBounds_toArray, List.set_cons_zero, List.set_cons_succ]
        refine wpAnyF_take (i := 5) (oi := { dst := some 72, op := Go.Op.move (Go.Operand.tmp 0), type := 47, pos := "ref.go:67", after := #[], guard := none }) (v := ?v1_5) hNW (by decide) rfl (by kernel_rfl) (by kernel_rfl) (by kernel_rfl) (by kernel_rfl) (fun _ _ _ h => h) (Or.inl ⟨by kernel_rfl, ?h1_5⟩) (by assumption) ?r1_5
        case h1_5 => (intro wt hSw; (try dsimp only at hSw); go_simp; try with_reducible rfl)
        simp only [Act.put, List.setIfInBounds_toArray, List.set_cons_zero, List.set_cons_succ]
        refine wpAnyF_take (i := 6) (oi := { dst := some 73, op := Go.Op.nilCheck (Go.Operand.tmp 72), type := 0, pos := "ref.go:67", after := #[{ on := 5, ground := Go.Ground.data }], guard := none }) (v := ?v1_6) hNW (by decide) rfl (by kernel_rfl) (by kernel_rfl) (by kernel_rfl) (by kernel_rfl) (fun _ _ _ h => h) (Or.inl ⟨by kernel_rfl, ?h1_6⟩) (by assumption) ?r1_6
        case h1_6 => (intro wt hSw; (try dsimp only at hSw); go_simp; try with_reducible rfl)
        simp only [Act.put, List.setIfInBounds_toArray, List.set_cons_zero, List.set_cons_succ]
        refine wpAnyF_take (i := 7) (oi := { dst := some 74, op := Go.Op.fieldAddr 66 (Go.Operand.tmp 73) 1, type := 0, pos := "ref.go:67", after := #[{ on := 6, ground := Go.Ground.data }], guard := none }) (v := ?v1_7) hNW (by decide) rfl (by kernel_rfl) (by kernel_rfl) (by kernel_rfl) (by kernel_rfl) (fun _ _ _ h => h) (Or.inl ⟨by kernel_rfl, ?h1_7⟩) (by assumption) ?r1_7
        case h1_7 => (intro wt hSw; (try dsimp only at hSw); go_simp; try with_reducible rfl)
        simp only [Act.put, List.setIfInBounds_toArray, List.set_cons_zero, List.set_cons_succ]
        refine wpAnyF_take (i := 8) (oi := { dst := some 75, op := Go.Op.load 64 (Go.Operand.tmp 74), type := 64, pos := "ref.go:67", after := #[{ on := 7, ground := Go.Ground.data }], guard := none }) (v := ?v1_8) hNW (by decide) rfl (by kernel_rfl) (by kernel_rfl) (by kernel_rfl) (by kernel_rfl) (fun _ _ _ h => h) (Or.inl ⟨by kernel_rfl, ?h1_8⟩) (by assumption) ?r1_8
        case h1_8 => (intro wt hSw; (try dsimp only at hSw); go_simp; try with_reducible rfl)
        simp only [Act.put, List.setIfInBounds_toArray, List.set_cons_zero, List.set_cons_succ]
        refine wpAnyF_take (i := 9) (oi := { dst := some 76, op := Go.Op.move (Go.Operand.tmp 9), type := 3, pos := "ref.go:67", after := #[], guard := none }) (v := ?v1_9) hNW (by decide) rfl (by kernel_rfl) (by kernel_rfl) (by kernel_rfl) (by kernel_rfl) (fun _ _ _ h => h) (Or.inl ⟨by kernel_rfl, ?h1_9⟩) (by assumption) ?r1_9
        case h1_9 => (intro wt hSw; (try dsimp only at hSw); go_simp; try with_reducible rfl)
        simp only [Act.put, List.setIfInBounds_toArray, List.set_cons_zero, List.set_cons_succ]
        refine wpAnyF_take (i := 10) (oi := { dst := some 77, op := Go.Op.binOp Go.BinOp.sub 3 (Go.Operand.tmp 76) (Go.Operand.const (Go.Value.int Go.IntKind.i64 1)) 3, type := 3, pos := "ref.go:67", after := #[{ on := 9, ground := Go.Ground.data }], guard := none }) (v := .int .i64 k) hNW (by decide) rfl (by kernel_rfl) (by kernel_rfl) (by kernel_rfl) (by kernel_rfl) (fun _ _ _ h => h) (Or.inl ⟨by kernel_rfl, ?h1_10⟩) (by assumption) ?r1_10
        case h1_10 => (intro wt hSw; (try dsimp only at hSw); go_simp; first | with_reducible rfl | (rw [IntKind.wrap_i64]; omega))
        simp only [Act.put, List.setIfInBounds_toArray, List.set_cons_zero, List.set_cons_succ]
        refine wpAnyF_take (i := 11) (oi := { dst := some 78, op := Go.Op.indexAddr 64 (Go.Operand.tmp 75) (Go.Operand.tmp 77), type := 0, pos := "ref.go:67", after := #[{ on := 8, ground := Go.Ground.data }, { on := 10, ground := Go.Ground.data }], guard := none }) (v := ?v1_11) hNW (by decide) rfl (by kernel_rfl) (by kernel_rfl) (by kernel_rfl) (by kernel_rfl) (fun _ _ _ h => h) (Or.inl ⟨by kernel_rfl, ?h1_11⟩) (by assumption) ?r1_11
        case h1_11 => (intro wt hSw; (try dsimp only at hSw); go_simp; try with_reducible rfl)
        simp only [Act.put, List.setIfInBounds_toArray, List.set_cons_zero, List.set_cons_succ]
        refine wpAnyF_take (i := 12) (oi := { dst := some 79, op := Go.Op.load 71 (Go.Operand.tmp 78), type := 71, pos := "ref.go:67", after := #[{ on := 11, ground := Go.Ground.data }], guard := none }) (v := ?v1_12) hNW (by decide) rfl (by kernel_rfl) (by kernel_rfl) (by kernel_rfl) (by kernel_rfl) (fun _ _ _ h => h) (Or.inl ⟨by kernel_rfl, ?h1_12⟩) (by assumption) ?r1_12
        case h1_12 => (intro wt hSw; (try dsimp only at hSw); go_simp; try with_reducible rfl)
        simp only [Act.put, List.setIfInBounds_toArray, List.set_cons_zero, List.set_cons_succ]
        refine wpAnyF_take (i := 13) (oi := { dst := some 80, op := Go.Op.indexAddr 64 (Go.Operand.tmp 70) (Go.Operand.tmp 71), type := 0, pos := "ref.go:67", after := #[{ on := 3, ground := Go.Ground.data }, { on := 4, ground := Go.Ground.data }, { on := 0, ground := Go.Ground.phase }, { on := 1, ground := Go.Ground.phase }, { on := 2, ground := Go.Ground.phase }, { on := 3, ground := Go.Ground.phase }, { on := 4, ground := Go.Ground.phase }, { on := 5, ground := Go.Ground.phase }, { on := 6, ground := Go.Ground.phase }, { on := 7, ground := Go.Ground.phase }, { on := 8, ground := Go.Ground.phase }, { on := 9, ground := Go.Ground.phase }, { on := 10, ground := Go.Ground.phase }, { on := 11, ground := Go.Ground.phase }, { on := 12, ground := Go.Ground.phase }], guard := none }) (v := ?v1_13) hNW (by decide) rfl (by kernel_rfl) (by kernel_rfl) (by kernel_rfl) (by kernel_rfl) (fun _ _ _ h => h) (Or.inl ⟨by kernel_rfl, ?h1_13⟩) (by assumption) ?r1_13
        case h1_13 => (intro wt hSw; (try dsimp only at hSw); go_simp; try with_reducible rfl)
        simp only [Act.put, List.setIfInBounds_toArray, List.set_cons_zero, List.set_cons_succ]
        refine wpAnyF_one (i := 14) (o := { dst := none, op := Go.Op.store 71 (Go.Operand.tmp 80) (Go.Operand.tmp 79), type := 0, pos := "ref.go:67", after := #[{ on := 13, ground := Go.Ground.data }, { on := 12, ground := Go.Ground.data }, { on := 0, ground := Go.Ground.phase }, { on := 1, ground := Go.Ground.phase }, { on := 2, ground := Go.Ground.phase }, { on := 3, ground := Go.Ground.phase }, { on := 4, ground := Go.Ground.phase }, { on := 5, ground := Go.Ground.phase }, { on := 6, ground := Go.Ground.phase }, { on := 7, ground := Go.Ground.phase }, { on := 8, ground := Go.Ground.phase }, { on := 9, ground := Go.Ground.phase }, { on := 10, ground := Go.Ground.phase }, { on := 11, ground := Go.Ground.phase }, { on := 12, ground := Go.Ground.phase }], guard := none }) rfl rfl (by kernel_rfl) ?_
        refine step_store71 (b := g) (k := (k + 1) * 6) (y := x) rfl rfl rfl z0 z1 z2 z3 z4 z5 f0 f1 f2 f3 f4 f5 ?_
        refine ⟨fun h => absurd rfl h, ?_⟩
        simp only [Act.put]
        refine wpAnyF_done (by kernel_rfl) ?_ _
        clear hNW hHeld
        have HE := hid2 (EX.out x)
        go_wp2_with fail
        go_roundw
        case rel => exact ⟨k, by omega, by first | rfl | go_num, x, fun y hy => by
          rw [HD.out] at hy
          rcases List.mem_cons.1 hy with rfl | hy
          · exact hgt
          · exact HG.out y hy, by rw [← HQ.out]; exact HE.out.drewN 1⟩
        case measure => simp [intOf]
      · have hlt : x.num < id := by omega
        go_wp2_with fail
        go_ret
        refine ⟨rfl, _, k + 1, hk, HG.out, fun y hy _ => ?_, EX.out ⟨id, cls, shr, 0, 0, false⟩⟩
        rw [Nat.add_sub_cancel, List.getElem?_eq_getElem hkl, HX.out] at hy
        cases hy
        exact hlt
end Go.Proofs.Ytjeokomocopjhaa
