import Derived.Test.YtjeokomocopjhaaRf5
namespace Go.Proofs.Ytjeokomocopjhaa
open Go.RowKit Go.Maps
set_option maxRecDepth 100000

theorem own_zero {w : World} {base : Nat} {v : Value} {n : Nat} {xs : List Value} (h : w.ownsRow base 26 1 v n xs) : w.ownsRow 0 26 1 v n xs :=
  ⟨h.1, h.2.imp id fun ⟨g, cap, cur, h1, _, h3⟩ => ⟨g, cap, cur, h1, Nat.zero_le _, h3⟩⟩
theorem own_new {w : World} {base : Nat} {v : Value} {n : Nat} {xs : List Value} (h : w.ownsRow base 26 1 v n xs) {g : Nat} (e : v.ownBlock = some g) : base ≤ g := by
  obtain ⟨_, ⟨rfl, _⟩ | ⟨g', cap, cur, rfl, hb, _⟩⟩ := h
  · cases e
  · cases e; exact hb
theorem step_callx {P : Program} {o : Oper} {a : Act} {w : World} {K : Act → World → Prop} {Q : Exit → Act → World → Prop} {f : FuncId} {args : Array Value} {G : Value → World → Prop} (e : (execOp a.eval o).run P w = .ok (.enter f args) w)
    (hc : Calls P f args w fun e w' => ∃ v, e = .returned v ∧ G v w') (h : ∀ v w', G v w' → K (a.put o.dst v) w') : Oper.wp P o a w K Q := by
  unfold Oper.wp
  rw [e, Oper.upon_enter]
  refine Calls.mono hc ?_
  rintro e w' ⟨v, rfl, hg⟩
  exact h v w' hg
set_option maxHeartbeats 2000000 in
theorem rrem_none {w : World} {r : Nat} {vL : Value} {V : Nat → Value} {q : Int} {l : List Sm} {R : Nat → List Int} (h : RfAt w r vL V q l R) {id : Int} (hA : ∀ a ∈ l, a.num ≠ id) (hl : l.length ≤ 2048) :
    Calls Try.prog 28 #[pt r 0, .int .u64 id] w fun e w' => e = .returned (.int .i64 190) ∧ w' = w := by
  have hP := place_miss h hA hl
  clear h hA hl
  go_enter Try.func28, Try.ntmps28
  go_wp2_with (go_at_call 36; refine hP.mono ?_; rintro e w' ⟨rfl, rfl⟩)
  go_ret
  exact ⟨rfl, rfl⟩
set_option maxHeartbeats 4000000 in
theorem rrem_ok {w : World} {r : Nat} {vL : Value} {V : Nat → Value} {q : Int} {A B : List Sm} {x : Sm} {R : Nat → List Int} (h : RfAt w r vL V q (A ++ x :: B) R) (hA : ∀ a ∈ A, a.num ≠ x.num) (hl : (A ++ x :: B).length ≤ 2048) (hc8 : x.cls < 8) (hlR : (R x.cls).length ≤ 2048) :
    Calls Try.prog 28 #[pt r 0, .int .u64 x.num] w fun e w' => e = .returned (.int .i64 0) ∧ ∃ vL' V', RMv r vL V w vL' V' q (A ++ B) (upR R x.cls (outL (R x.cls) x.num)) w' := by
  have hP := place_hit h hA hl
  obtain ⟨g, cap, rfl⟩ := lst_some h.lst
  have hD := h.below (Below.refl _ _).drew
  have hO := out_any (hD.own _ hc8) hlR x.num
  have HD := hid2 hD
  obtain ⟨hc, -, -, hlc⟩ := lst_at h.lst
  have c1 := h.row.cell 1 _ rfl
  have c2 := h.row.cell _ _ (rcells_get q _ V hc8)
  have d1 := hc 1 _ rfl
  obtain ⟨a, capR, hv, -⟩ := own_slice (h.own _ hc8)
  have HV := hid2 hv
  rw [hv] at c2 hO
  have k1 : (0 : Int) ≤ (x.cls : Int) := by omega
  have k2 : (x.cls : Int) < 8 := by omega
  have hAB : (A ++ x :: B).length = A.length + (B.length + 1) := by simp
  have HL := hid2 hl
  have HT : Hid (B ≠ [] → (if cap = A.length + 1 then (⟨g, 0, none⟩ : Addr) else ⟨g, (A.length + 1) * 6, none⟩) = ⟨g, (A.length + 1) * 6, none⟩) := fun hB => by
    have : 0 < B.length := List.length_pos_iff.2 hB
    rw [if_neg (by omega)]
  clear h hD hA hl hc hv
  obtain ⟨m, hm⟩ : ∃ m, A.length = m := ⟨_, rfl⟩
  have HMM := hid2 hm
  rw [hm] at d1 hP hAB HT
  have hNB : Hid ((A ++ x :: B).length = m + (B.length + 1)) := hAB
  obtain ⟨N, hN⟩ : ∃ N, (A ++ x :: B).length = N := ⟨_, rfl⟩
  have HNN := hid2 hN
  rw [hN] at c1 hlc HD hAB ⊢
  have hmN : (m : Int) < (N : Int) := by omega
  have hm0 : ¬ (m : Int) < 0 := by omega
  have hm1 : (m : Int) + 1 ≤ (N : Int) := by omega
  have hm2 : (N : Int) ≤ 2048 := by have := HL.out; omega
  have hNc : (N : Int) ≤ (cap : Int) := by omega
  clear hm hN hAB
  go_enter Try.func28, Try.ntmps28
  go_upto_region 5 with (go_at_call 36; refine hP.mono ?_; rintro e w' ⟨rfl, rfl⟩)
  refine wp_region_last (S := fun w' => w'.cell? ⟨r, 2 + x.cls, none⟩ = some (.slice a (R x.cls).length capR)) (N := 13) (by kernel_rfl) (by kernel_rfl) fun hNW => ?_
  have hHeld := (show (fun w' => w'.cell? ⟨r, 2 + x.cls, none⟩ = some (.slice a (R x.cls).length capR)) w'.drew from c2)
  refine wpAnyF_take (i := 0) (oi := { dst := some 22, op := Go.Op.move (Go.Operand.tmp 0), type := 47, pos := "ref.go:92", after := #[], guard := none }) (v := ?v1_0) hNW (by decide) rfl (by kernel_rfl) (by kernel_rfl) (by kernel_rfl) (by kernel_rfl) (fun _ _ _ h => h) (Or.inl ⟨by kernel_rfl, ?h1_0⟩) (by assumption) ?r1_0
  case h1_0 => (intro wt hSw; (try dsimp only at hSw); go_simp; try with_reducible rfl)
  simp only [Act.put, List.setIfInBounds_toArray, List.set_cons_zero, List.set_cons_succ]
  refine wpAnyF_take (i := 1) (oi := { dst := some 23, op := Go.Op.move (Go.Operand.tmp 6), type := 3, pos := "ref.go:92", after := #[], guard := none }) (v := ?v1_1) hNW (by decide) rfl (by kernel_rfl) (by kernel_rfl) (by kernel_rfl) (by kernel_rfl) (fun _ _ _ h => h) (Or.inl ⟨by kernel_rfl, ?h1_1⟩) (by assumption) ?r1_1
  case h1_1 => (intro wt hSw; (try dsimp only at hSw); go_simp; try with_reducible rfl)
  simp only [Act.put, List.setIfInBounds_toArray, List.set_cons_zero, List.set_cons_succ]
  refine wpAnyF_take (i := 2) (oi := { dst := some 24, op := Go.Op.move (Go.Operand.tmp 0), type := 47, pos := "ref.go:92", after := #[], guard := none }) (v := ?v1_2) hNW (by decide) rfl (by kernel_rfl) (by kernel_rfl) (by kernel_rfl) (by kernel_rfl) (fun _ _ _ h => h) (Or.inl ⟨by kernel_rfl, ?h1_2⟩) (by assumption) ?r1_2
  case h1_2 => (intro wt hSw; (try dsimp only at hSw); go_simp; try with_reducible rfl)
  simp only [Act.put, List.setIfInBounds_toArray, List.set_cons_zero, List.set_cons_succ]
  refine wpAnyF_take (i := 3) (oi := { dst := some 25, op := Go.Op.move (Go.Operand.tmp 6), type := 3, pos := "ref.go:92", after := #[], guard := none }) (v := ?v1_3) hNW (by decide) rfl (by kernel_rfl) (by kernel_rfl) (by kernel_rfl) (by kernel_rfl) (fun _ _ _ h => h) (Or.inl ⟨by kernel_rfl, ?h1_3⟩) (by assumption) ?r1_3
  case h1_3 => (intro wt hSw; (try dsimp only at hSw); go_simp; try with_reducible rfl)
  simp only [Act.put, List.setIfInBounds_toArray, List.set_cons_zero, List.set_cons_succ]
  refine wpAnyF_take (i := 4) (oi := { dst := some 26, op := Go.Op.nilCheck (Go.Operand.tmp 24), type := 0, pos := "ref.go:92", after := #[{ on := 2, ground := Go.Ground.data }], guard := none }) (v := ?v1_4) hNW (by decide) rfl (by kernel_rfl) (by kernel_rfl) (by kernel_rfl) (by kernel_rfl) (fun _ _ _ h => h) (Or.inl ⟨by kernel_rfl, ?h1_4⟩) (by assumption) ?r1_4
  case h1_4 => (intro wt hSw; (try dsimp only at hSw); go_simp; try with_reducible rfl)
  simp only [Act.put, List.setIfInBounds_toArray, List.set_cons_zero, List.set_cons_succ]
  refine wpAnyF_take (i := 5) (oi := { dst := some 27, op := Go.Op.fieldAddr 66 (Go.Operand.tmp 26) 2, type := 0, pos := "ref.go:92", after := #[{ on := 4, ground := Go.Ground.data }], guard := none }) (v := ?v1_5) hNW (by decide) rfl (by kernel_rfl) (by kernel_rfl) (by kernel_rfl) (by kernel_rfl) (fun _ _ _ h => h) (Or.inl ⟨by kernel_rfl, ?h1_5⟩) (by assumption) ?r1_5
  case h1_5 => (intro wt hSw; (try dsimp only at hSw); go_simp; try with_reducible rfl)
  simp only [Act.put, List.setIfInBounds_toArray, List.set_cons_zero, List.set_cons_succ]
  refine wpAnyF_take (i := 6) (oi := { dst := some 28, op := Go.Op.indexAddr 55 (Go.Operand.tmp 27) (Go.Operand.tmp 25), type := 0, pos := "ref.go:92", after := #[{ on := 5, ground := Go.Ground.data }, { on := 3, ground := Go.Ground.data }], guard := none }) (v := ?v1_6) hNW (by decide) rfl (by kernel_rfl) (by kernel_rfl) (by kernel_rfl) (by kernel_rfl) (fun _ _ _ h => h) (Or.inl ⟨by kernel_rfl, ?h1_6⟩) (by assumption) ?r1_6
  case h1_6 => (intro wt hSw; (try dsimp only at hSw); go_simp; try with_reducible rfl)
  simp only [Act.put, List.setIfInBounds_toArray, List.set_cons_zero, List.set_cons_succ]
  refine wpAnyF_take (i := 7) (oi := { dst := some 29, op := Go.Op.load 54 (Go.Operand.tmp 28), type := 54, pos := "ref.go:92", after := #[{ on := 6, ground := Go.Ground.data }], guard := none }) (v := ?v1_7) hNW (by decide) rfl (by kernel_rfl) (by kernel_rfl) (by kernel_rfl) (by kernel_rfl) (fun _ _ _ h => h) (Or.inl ⟨by kernel_rfl, ?h1_7⟩) (by assumption) ?r1_7
  case h1_7 => (intro wt hSw; (try dsimp only at hSw); go_simp; try with_reducible rfl)
  simp only [Act.put, List.setIfInBounds_toArray, List.set_cons_zero, List.set_cons_succ]
  refine wpAnyF_take (i := 8) (oi := { dst := some 30, op := Go.Op.move (Go.Operand.tmp 1), type := 26, pos := "ref.go:92", after := #[], guard := none }) (v := ?v1_8) hNW (by decide) rfl (by kernel_rfl) (by kernel_rfl) (by kernel_rfl) (by kernel_rfl) (fun _ _ _ h => h) (Or.inl ⟨by kernel_rfl, ?h1_8⟩) (by assumption) ?r1_8
  case h1_8 => (intro wt hSw; (try dsimp only at hSw); go_simp; try with_reducible rfl)
  simp only [Act.put, List.setIfInBounds_toArray, List.set_cons_zero, List.set_cons_succ]
  refine wpAnyF_take (i := 10) (oi := { dst := some 32, op := Go.Op.nilCheck (Go.Operand.tmp 22), type := 0, pos := "ref.go:92", after := #[{ on := 0, ground := Go.Ground.data }], guard := none }) (v := ?v1_10) hNW (by decide) rfl (by kernel_rfl) (by kernel_rfl) (by kernel_rfl) (by kernel_rfl) (fun _ _ _ h => h) (Or.inl ⟨by kernel_rfl, ?h1_10⟩) (by assumption) ?r1_10
  case h1_10 => (intro wt hSw; (try dsimp only at hSw); go_simp; try with_reducible rfl)
  simp only [Act.put, List.setIfInBounds_toArray, List.set_cons_zero, List.set_cons_succ]
  refine wpAnyF_take (i := 11) (oi := { dst := some 33, op := Go.Op.fieldAddr 66 (Go.Operand.tmp 32) 2, type := 0, pos := "ref.go:92", after := #[{ on := 10, ground := Go.Ground.data }], guard := none }) (v := ?v1_11) hNW (by decide) rfl (by kernel_rfl) (by kernel_rfl) (by kernel_rfl) (by kernel_rfl) (fun _ _ _ h => h) (Or.inl ⟨by kernel_rfl, ?h1_11⟩) (by assumption) ?r1_11
  case h1_11 => (intro wt hSw; (try dsimp only at hSw); go_simp; try with_reducible rfl)
  simp only [Act.put, List.setIfInBounds_toArray, List.set_cons_zero, List.set_cons_succ]
  refine wpAnyF_one (i := 9) (o := { dst := some 31, op := Go.Op.call { callee := Go.Callee.value (Go.Operand.func 37), args := #[Go.Operand.tmp 29, Go.Operand.tmp 30], argTypes := #[54, 26] }, type := 54, pos := "ref.go:92", after := #[{ on := 7, ground := Go.Ground.data }, { on := 8, ground := Go.Ground.data }], guard := none }) rfl rfl (by kernel_rfl) ?_
  refine step_callx (f := 37) (args := #[.slice a (R x.cls).length capR, .int .u64 x.num]) (by first | kernel_rfl | go_simp) hO ?_
  rintro v' w2 ⟨ho, hb⟩
  have hD2 := HD.out.below hb
  have k2 := hD2.row.cell _ _ (rcells_get q _ V hc8)
  have fb := hD2.row.frozen (2 + x.cls)
  rw [HV.out] at k2
  have ho0 : OwnN w2 v' (outL (R x.cls) x.num) := own_zero ho
  have M := HD.out.put hc8 (Fr.of_below hb (Nat.le_refl _)) ho0 (fun g e => .inr (own_new ho e))
  clear hD2 hb ho
  obtain ⟨a', cap', hv', -⟩ := own_slice ho0
  subst hv'
  clear ho0
  generalize (outL (R x.cls) x.num).length = nR' at *
  have HM := hid2 M
  obtain ⟨v1, w3, v2, w4, r1, r2, hs1, hs2, q1, q2, q3, ML⟩ := rem_lists M.at_ HL.out (T := if cap = m + 1 then ⟨g, 0, none⟩ else ⟨g, (m + 1) * 6, none⟩) (by rw [HMM.out]; exact HT.out) cap (cap - (m + 1))
  have HML := hid2 ML
  have p1 := M.at_.row.cell 1 _ rfl
  rw [HMM.out] at r1
  have eT : (some (if cap = m + 1 then (⟨g, 0, none⟩ : Addr) else ⟨g, (m + 1) * 6, none⟩)) = if cap = m + 1 then some ⟨g, 0, none⟩ else some ⟨g, (m + 1) * 6, none⟩ := by split <;> rfl
  have eB : B.length = N - (m + 1) := by have h1 := hNB.out; have h2 := HNN.out; omega
  rw [eT, eB] at r2
  clear eT eB
  have R1 := hid2 r1
  have R2 := hid2 r2
  clear ML M r1 r2
  obtain ⟨a1, k1, rfl⟩ := hs1
  obtain ⟨a2, k3, rfl⟩ := hs2
  generalize (A ++ B).length = nAB at *
  refine ⟨fun _ => k2, ?_⟩
  simp only [Act.put, List.setIfInBounds_toArray, List.set_cons_zero, List.set_cons_succ]
  have hHeld2 := (show (fun w' => w'.cell? ⟨r, 2 + x.cls, none⟩ = some (.slice a (R x.cls).length capR)) w2 from k2)
  refine wpAnyF_take (i := 12) (oi := { dst := some 34, op := Go.Op.indexAddr 55 (Go.Operand.tmp 33) (Go.Operand.tmp 23), type := 0, pos := "ref.go:92", after := #[{ on := 11, ground := Go.Ground.data }, { on := 1, ground := Go.Ground.data }, { on := 0, ground := Go.Ground.phase }, { on := 1, ground := Go.Ground.phase }, { on := 2, ground := Go.Ground.phase }, { on := 3, ground := Go.Ground.phase }, { on := 4, ground := Go.Ground.phase }, { on := 5, ground := Go.Ground.phase }, { on := 6, ground := Go.Ground.phase }, { on := 7, ground := Go.Ground.phase }, { on := 8, ground := Go.Ground.phase }, { on := 9, ground := Go.Ground.phase }], guard := none }) (v := ?v1_12) hNW (by decide) rfl (by kernel_rfl) (by kernel_rfl) (by kernel_rfl) (by kernel_rfl) (fun _ _ _ h => h) (Or.inl ⟨by kernel_rfl, ?h1_12⟩) (by assumption) ?r1_12
  case h1_12 => (intro wt hSw; (try dsimp only at hSw); go_simp; try with_reducible rfl)
  simp only [Act.put, List.setIfInBounds_toArray, List.set_cons_zero, List.set_cons_succ]
  refine wpAnyF_one (i := 13) (o := { dst := none, op := Go.Op.store 54 (Go.Operand.tmp 34) (Go.Operand.tmp 31), type := 0, pos := "ref.go:92", after := #[{ on := 12, ground := Go.Ground.data }, { on := 9, ground := Go.Ground.data }, { on := 9, ground := Go.Ground.chain }, { on := 0, ground := Go.Ground.phase }, { on := 1, ground := Go.Ground.phase }, { on := 2, ground := Go.Ground.phase }, { on := 3, ground := Go.Ground.phase }, { on := 4, ground := Go.Ground.phase }, { on := 5, ground := Go.Ground.phase }, { on := 6, ground := Go.Ground.phase }, { on := 7, ground := Go.Ground.phase }, { on := 8, ground := Go.Ground.phase }, { on := 9, ground := Go.Ground.phase }], guard := none }) rfl rfl (by kernel_rfl) ?_
  refine step_store54 (b := r) (k := 2 + x.cls) (av := a') (n := nR') (c := cap') rfl rfl rfl k2 fb ?_
  refine ⟨fun h => absurd rfl h, ?_⟩
  simp only [Act.put]
  refine wpAnyF_done (by kernel_rfl) ?_ _
  clear hNW hHeld hHeld2 k2 fb c1 c2 d1
  generalize w2.setCell ⟨r, 2 + x.cls, none⟩ (.slice a' nR' cap') = W at *
  go_upto_region 8 with (at_builtin; refine wpList_append_by rfl (.tmp 35) (.tmp 41) 64 rfl rfl rfl R1.out ?_)
  go_wp2_with (at_builtin; refine wpList_append_by rfl (.tmp 44) (.tmp 51) 64 rfl rfl rfl R2.out ?_)
  all_goals (go_ret; first | exact ⟨rfl, _, _, RMv.ahead (Below.refl _ _).drew (HM.out.trans HML.out)⟩ | (rw [h] at HM HML; exact ⟨rfl, _, _, RMv.ahead (Below.refl _ _).drew (HM.out.trans HML.out)⟩))
end Go.Proofs.Ytjeokomocopjhaa
