import Derived.Test.YtaklbofbhanjgaaDoorBd2
namespace Go.Proofs.YtaklbofbhanjgaaDoor
open Go.RowKit Go.Maps
set_option maxRecDepth 100000
theorem step_mapup {o : Oper} {a : Act} {w w' : World} {K : Act → World → Prop} {Q : Exit → Act → World → Prop} {t : TypeId} {x y z : Operand} {u k v : Value} (hs : (Instr.mapUpdate t u k v).run Tryd.prog w = .ok () w') (ho : o.op = .mapUpdate t x y z) (hx : a.eval x = u) (hy : a.eval y = k) (hz : a.eval z = v)
    (h : K (a.put o.dst undef) w') : Oper.wp Tryd.prog o a w K Q := by
  have e : (execOp a.eval o).run Tryd.prog w = .ok .skip w' := by
    generalize a.eval = r at *
    simp [execOp, ho, hx, hy, hz, hs]
  unfold Oper.wp
  rw [e]
  exact h
theorem leavesL_le (bs : List (BitVec 8)) {p : Nat} (hp : 1 ≤ p) : (leavesL bs p).length ≤ bs.length := by
  rcases Nat.lt_or_ge bs.length (leavesL bs p).length with h | h
  · have h1 := leavesL_at hp h
    have h2 := Nat.le_mul_of_pos_right bs.length hp
    omega
  · exact h
set_option maxHeartbeats 2000000 in
theorem over_miss {g o c p m B lo hi : Nat} {a : Option Addr} {bs : List (BitVec 8)} {w : World} (h : BdI g o a c p m bs B w) (hlh : lo < hi) (hh : hi ≤ 16777216) (hhP : hi ≤ (leavesL bs p).length) (hp1 : 1 ≤ p) (hp2 : p ≤ 65536) (hn : bs.length ≤ 16777216) (hc : bs.length ≤ c) (hc2 : c ≤ 9223372036854775807) (hBw : B ≤ w.heap.size) (hKT : KTab w) (h2 : 2 ≤ w.heap.size)
    (hcl : ∀ wx, Below w.heap.size w wx → Calls Tryd.prog 43 #[.int .i64 (lo : Int), .int .i64 (hi : Int), .int .i64 (lo : Int), .agg (bcells ((leavesL bs p).getD lo z32)).toArray, .func (.func 53) #[.pointer (some ⟨g, o, none⟩)] #[]] wx fun e w' => e = .returned (.agg (bcells (overL (leavesL bs p) lo hi)).toArray) ∧ Fr (fun k => k = m) wx w' ∧ BdI g o a c p m bs B w')
    (hl : ∀ w' : World, w'.heap[m]? = w.heap[m]? → (Instr.lookup 61 (.map (some m)) (kv lo hi) true).run Tryd.prog w' = .ok (.tuple #[.agg (bcells z32).toArray, .bool false]) w') :
    Calls Tryd.prog 53 #[.pointer (some ⟨g, o, none⟩), .int .i64 (lo : Int), .int .i64 (hi : Int)] w fun e w' => e = .returned (.agg (bcells (overL (leavesL bs p) lo hi)).toArray) ∧ Fr (fun k => k = m) w w' ∧ BdI g o a c p m bs B w' := by
  have H := hid h
  have I73 := hid i44
  have q1 : (lo : Int) < hi := by omega
  have q2 : (hi : Int) ≤ 16777216 := by omega
  have HL := hid hl
  have HCL := hid hcl
  have hloP : lo < (leavesL bs p).length := by omega
  have HLO : Hid (lo * p < bs.length) := leavesL_at hp1 hloP
  have HLF : Hid ((leavesL bs p).getD lo z32 = leafS ((bs.drop (lo * p)).take p)) := leavesL_get hloP
  have HNM := hid (And.intro hp1 (And.intro hp2 (And.intro hn (And.intro hc hc2))))
  have HKT := hid (And.intro hKT (And.intro h2 hBw))
  have HOL : Hid ((overL (leavesL bs p) lo hi).length = 32) := overL_len (leavesL_32 bs p) (by omega)
  have HPU : Hid (∀ w', BdI g o a c p m bs B w' → ∃ w2, (Instr.mapUpdate 61 (.map (some m)) (kv lo hi) (.agg (bcells (overL (leavesL bs p) lo hi)).toArray)).run Tryd.prog w' = .ok () w2 ∧ MemoAt w2 m (leavesL bs p) ∧ Fr (fun k => k = m) w' w2) := fun w' hb => hb.cr.put (Nat.le_trans (leavesL_le bs hp1) hn) hlh hhP
  clear h hlh hh hl hcl hloP hhP hp1 hp2 hn hc hc2 hBw hKT h2
  go_enter Tryd.func53, Tryd.ntmps53
  go_upto_region 1 with (fail)
  refine wp_world fun wa HW => ?_
  have HRr : Hid (Row wa w.heap.size (bcells z32) 25) := by show Row _ _ _ _; rw [HW.out]; exact Row.new' _ _ _ _ _ rfl rfl
  have HBa : Hid (Below w.heap.size w wa) := by show Below _ _ _; rw [HW.out]; exact (Below.refl _ _).alloc (Nat.le_refl _) _
  clear HW
  go_upto_region 4 with (fail)
  refine wp_world fun wb HW => ?_
  have hb1 : Below wa.heap.size wa wb := by rw [HW.out]; exact below_new _ _
  obtain ⟨b0, e0⟩ : ∃ b, w.heap.size = b := ⟨_, rfl⟩
  obtain ⟨b1, e1⟩ : ∃ b, wa.heap.size = b := ⟨_, rfl⟩
  rw [e0, e1]
  have HK : Hid (Row wb.drew b1 [.int .u64 (lo : Int), .int .u64 (hi : Int)] 92) := by
    have : Row wb b1 [.int .u64 (lo : Int), .int .u64 (hi : Int)] 92 := by { rw [HW.out, ← e1]; exact Row.new _ _ _ }
    exact ⟨this.at_⟩
  have HR6 : Hid (Row wb.drew b0 (bcells z32) 25) := by
    have := HRr.out.kept hb1 HRr.out.lt
    rw [e0] at this
    exact ⟨this.at_⟩
  have bd : Below wb.heap.size wb wb.drew := ⟨rfl, rfl, rfl, Nat.le_refl _, fun _ _ => rfl⟩
  have HBd : Hid (Below w.heap.size w wb.drew) := hid ((HBa.out.trans (hb1.mono HBa.out.size)).trans (bd.mono (Nat.le_trans HBa.out.size hb1.size)))
  have HMm : Hid (wb.drew.heap[m]? = w.heap[m]?) := hid (HBd.out.block m H.out.cr.lt)
  have HCM : Hid (wb.drew.cell? ⟨g, o + 2, none⟩ = some (.map (some m))) := hid (cell_kept HBd.out H.out.cm)
  have HE := hid (And.intro e0 e1)
  clear HW hb1 bd e0 e1 HRr
  have S10 : Hid (((wb.drew.alloc (.cells (bcells z32).toArray 25)).setRow wb.drew.heap.size (bcells z32).toArray).cell? ⟨g, o + 2, none⟩ = some (.map (some m)) ∧ Row ((wb.drew.alloc (.cells (bcells z32).toArray 25)).setRow wb.drew.heap.size (bcells z32).toArray) b1 [.int .u64 (lo : Int), .int .u64 (hi : Int)] 92 ∧ ((wb.drew.alloc (.cells (bcells z32).toArray 25)).setRow wb.drew.heap.size (bcells z32).toArray).heap[m]? = w.heap[m]?) := by
    have hb : Below wb.drew.heap.size wb.drew ((wb.drew.alloc (.cells (bcells z32).toArray 25)).setRow wb.drew.heap.size (bcells z32).toArray) := Go.below_setRow (below_new _ _) (Nat.le_refl _) _
    exact ⟨cell_kept hb HCM.out, HK.out.kept hb HK.out.lt, (hb.block m (Nat.lt_of_lt_of_le H.out.cr.lt HBd.out.size)).trans HMm.out⟩
  refine wp_region_last (S := fun w' => w'.cell? ⟨g, o + 2, none⟩ = some (.map (some m)) ∧ Row w' b1 [.int .u64 (lo : Int), .int .u64 (hi : Int)] 92 ∧ w'.heap[m]? = w.heap[m]?) (N := 11) (by kernel_rfl) (by kernel_rfl) fun hNW => ?_
  have hHeld := (show (fun w' => w'.cell? ⟨g, o + 2, none⟩ = some (.map (some m)) ∧ Row w' b1 [.int .u64 (lo : Int), .int .u64 (hi : Int)] 92 ∧ w'.heap[m]? = w.heap[m]?) wb.drew from ⟨HCM.out, HK.out, HMm.out⟩)
  refine wpAnyF_take (i := 0) (oi := { dst := some 21, op := Go.Op.move (Go.Operand.tmp 0), type := 124, pos := "body.go:36", after := #[], guard := none }) (v := ?v701_0) hNW (by decide) rfl (by kernel_rfl) (by kernel_rfl) (by kernel_rfl) (by kernel_rfl) (fun _ _ _ h => h) (Or.inl ⟨by kernel_rfl, ?h701_0⟩) (by assumption) ?r701_0
  case h701_0 => (intro wt hSw; (try dsimp only at hSw); go_simp; try with_reducible rfl)
  simp only [Act.put, List.setIfInBounds_toArray, List.set_cons_zero, List.set_cons_succ]
  refine wpAnyF_take (i := 1) (oi := { dst := some 22, op := Go.Op.nilCheck (Go.Operand.tmp 21), type := 0, pos := "body.go:36", after := #[{ on := 0, ground := Go.Ground.data }], guard := none }) (v := ?v701_1) hNW (by decide) rfl (by kernel_rfl) (by kernel_rfl) (by kernel_rfl) (by kernel_rfl) (fun _ _ _ h => h) (Or.inl ⟨by kernel_rfl, ?h701_1⟩) (by assumption) ?r701_1
  case h701_1 => (intro wt hSw; (try dsimp only at hSw); go_simp; try with_reducible rfl)
  simp only [Act.put, List.setIfInBounds_toArray, List.set_cons_zero, List.set_cons_succ]
  refine wpAnyF_take (i := 2) (oi := { dst := some 23, op := Go.Op.fieldAddr 63 (Go.Operand.tmp 22) 2, type := 0, pos := "body.go:36", after := #[{ on := 1, ground := Go.Ground.data }], guard := none }) (v := ?v701_2) hNW (by decide) rfl (by kernel_rfl) (by kernel_rfl) (by kernel_rfl) (by kernel_rfl) (fun _ _ _ h => h) (Or.inl ⟨by kernel_rfl, ?h701_2⟩) (by assumption) ?r701_2
  case h701_2 => (intro wt hSw; (try dsimp only at hSw); go_simp; try with_reducible rfl)
  simp only [Act.put, List.setIfInBounds_toArray, List.set_cons_zero, List.set_cons_succ]
  refine wpAnyF_take (i := 3) (oi := { dst := some 24, op := Go.Op.load 61 (Go.Operand.tmp 23), type := 61, pos := "body.go:36", after := #[{ on := 2, ground := Go.Ground.data }], guard := none }) (v := .map (some m)) hNW (by decide) rfl (by kernel_rfl) (by kernel_rfl) (by kernel_rfl) (by kernel_rfl) (fun _ _ _ h => h) (Or.inl ⟨by kernel_rfl, ?h701_3⟩) (by assumption) ?r701_3
  case h701_3 => (intro wt hSw; (try dsimp only at hSw); go_simp; try with_reducible rfl)
  simp only [Act.put, List.setIfInBounds_toArray, List.set_cons_zero, List.set_cons_succ]
  refine wpAnyF_take (i := 4) (oi := { dst := some 25, op := Go.Op.load 92 (Go.Operand.tmp 7), type := 92, pos := "body.go:36", after := #[], guard := none }) (v := .agg #[.int .u64 (lo : Int), .int .u64 (hi : Int)]) hNW (by decide) rfl (by kernel_rfl) (by kernel_rfl) (by kernel_rfl) (by kernel_rfl) (fun _ _ _ h => h) (Or.inl ⟨by kernel_rfl, ?h701_4⟩) (by assumption) ?r701_4
  case h701_4 => (intro wt hSw; exact exec_load (hSw.2.1.load 92 _ Tryd.underlying92 rfl (by kernel_rfl)) rfl rfl)
  simp only [Act.put, List.setIfInBounds_toArray, List.set_cons_zero, List.set_cons_succ]
  refine wpAnyF_take (i := 5) (oi := { dst := some 26, op := Go.Op.lookup 61 (Go.Operand.tmp 24) (Go.Operand.tmp 25) true, type := 81, pos := "body.go:36", after := #[{ on := 3, ground := Go.Ground.data }, { on := 4, ground := Go.Ground.data }], guard := none }) (v := .tuple #[.agg (bcells z32).toArray, .bool false]) hNW (by decide) rfl (by kernel_rfl) (by kernel_rfl) (by kernel_rfl) (by kernel_rfl) (fun _ _ _ h => h) (Or.inl ⟨by kernel_rfl, ?h701_5⟩) (by assumption) ?r701_5
  case h701_5 => (intro wt hSw; exact exec_look (HL.out wt hSw.2.2) rfl rfl rfl)
  simp only [Act.put, List.setIfInBounds_toArray, List.set_cons_zero, List.set_cons_succ]
  refine wpAnyF_take (i := 6) (oi := { dst := some 20, op := Go.Op.move (Go.Operand.tmp 26), type := 81, pos := "body.go:36", after := #[{ on := 5, ground := Go.Ground.data }], guard := none }) (v := .tuple #[.agg (bcells z32).toArray, .bool false]) hNW (by decide) rfl (by kernel_rfl) (by kernel_rfl) (by kernel_rfl) (by kernel_rfl) (fun _ _ _ h => h) (Or.inl ⟨by kernel_rfl, ?h701_6⟩) (by assumption) ?r701_6
  case h701_6 => (intro wt hSw; (try dsimp only at hSw); go_simp; try with_reducible rfl)
  simp only [Act.put, List.setIfInBounds_toArray, List.set_cons_zero, List.set_cons_succ]
  refine wpAnyF_take (i := 7) (oi := { dst := some 27, op := Go.Op.extract (Go.Operand.tmp 20) 0, type := 25, pos := "body.go:36", after := #[{ on := 6, ground := Go.Ground.data }], guard := none }) (v := .agg (bcells z32).toArray) hNW (by decide) rfl (by kernel_rfl) (by kernel_rfl) (by kernel_rfl) (by kernel_rfl) (fun _ _ _ h => h) (Or.inl ⟨by kernel_rfl, ?h701_7⟩) (by assumption) ?r701_7
  case h701_7 => (intro wt hSw; (try dsimp only at hSw); go_simp; try with_reducible rfl)
  simp only [Act.put, List.setIfInBounds_toArray, List.set_cons_zero, List.set_cons_succ]
  refine wpAnyF_take (i := 8) (oi := { dst := some 28, op := Go.Op.extract (Go.Operand.tmp 20) 1, type := 4, pos := "body.go:36", after := #[{ on := 6, ground := Go.Ground.data }, { on := 10, ground := Go.Ground.gcOnly Go.Departure.lateStores }], guard := none }) (v := .bool false) hNW (by decide) rfl (by kernel_rfl) (by kernel_rfl) (by kernel_rfl) (by kernel_rfl) (fun _ _ _ h => h) (Or.inl ⟨by kernel_rfl, ?h701_8⟩) (by assumption) ?r701_8
  case h701_8 => (intro wt hSw; (try dsimp only at hSw); go_simp; try with_reducible rfl)
  simp only [Act.put, List.setIfInBounds_toArray, List.set_cons_zero, List.set_cons_succ]
  refine wpAnyF_one (i := 9) (o := { dst := some 8, op := Go.Op.alloc 25, type := 0, pos := "body.go:36", after := #[], guard := none }) rfl rfl (by kernel_rfl) ?_
  refine step_val (v := .pointer (some ⟨wb.drew.heap.size, 0, none⟩)) (w' := wb.drew.alloc (.cells (bcells z32).toArray 25)) (by first | kernel_rfl | go_simp) ?_
  have s9 : (fun w' => w'.cell? ⟨g, o + 2, none⟩ = some (.map (some m)) ∧ Row w' b1 [.int .u64 (lo : Int), .int .u64 (hi : Int)] 92 ∧ w'.heap[m]? = w.heap[m]?) (wb.drew.alloc (.cells (bcells z32).toArray 25)) := ⟨cell_kept (below_new _ _) HCM.out, HK.out.alloc _, ((below_new wb.drew (.cells (bcells z32).toArray 25)).block m (Nat.lt_of_lt_of_le H.out.cr.lt HBd.out.size)).trans HMm.out⟩
  refine ⟨fun _ => s9, ?_⟩
  simp only [Act.put, List.setIfInBounds_toArray, List.set_cons_zero, List.set_cons_succ]
  refine wpAnyF_one (i := 10) (o := { dst := none, op := Go.Op.store 25 (Go.Operand.tmp 8) (Go.Operand.tmp 27), type := 0, pos := "body.go:36", after := #[{ on := 9, ground := Go.Ground.data }, { on := 7, ground := Go.Ground.data }, { on := 0, ground := Go.Ground.phase }, { on := 1, ground := Go.Ground.phase }, { on := 2, ground := Go.Ground.phase }, { on := 3, ground := Go.Ground.phase }, { on := 4, ground := Go.Ground.phase }, { on := 5, ground := Go.Ground.phase }, { on := 6, ground := Go.Ground.phase }, { on := 7, ground := Go.Ground.phase }, { on := 8, ground := Go.Ground.textOnly Go.Departure.lateStores }, { on := 9, ground := Go.Ground.phase }], guard := none }) rfl rfl (by kernel_rfl) ?_
  refine step_storeA (g := wb.drew.heap.size) (c := bcells z32) (c' := bcells z32) (Row.new _ _ _) rfl rfl rfl rfl (bcells_one _) (by rw [bcells_len]; exact I73.out) ?_
  refine ⟨fun _ => S10.out, ?_⟩
  simp only [Act.put]
  refine wpAnyF_one (i := 11) (o := { dst := some 9, op := Go.Op.assign (Go.Operand.tmp 28), type := 4, pos := "body.go:36", after := #[{ on := 8, ground := Go.Ground.data }, { on := 10, ground := Go.Ground.chain }, { on := 0, ground := Go.Ground.phase }, { on := 1, ground := Go.Ground.phase }, { on := 2, ground := Go.Ground.phase }, { on := 3, ground := Go.Ground.phase }, { on := 4, ground := Go.Ground.phase }, { on := 5, ground := Go.Ground.phase }, { on := 6, ground := Go.Ground.phase }, { on := 7, ground := Go.Ground.phase }, { on := 8, ground := Go.Ground.phase }, { on := 9, ground := Go.Ground.phase }, { on := 10, ground := Go.Ground.phase }], guard := none }) rfl rfl (by kernel_rfl) ?_
  refine step_val (v := .bool false) (w' := ((wb.drew.alloc (.cells (bcells z32).toArray 25)).setRow wb.drew.heap.size (bcells z32).toArray)) (by first | kernel_rfl | go_simp) ?_
  refine ⟨fun h => absurd rfl h, ?_⟩
  simp only [Act.put, List.setIfInBounds_toArray, List.set_cons_zero, List.set_cons_succ]
  refine wpAnyF_done (by kernel_rfl) ?_ _
  obtain ⟨wc, ec⟩ : ∃ x, (wb.drew.alloc (.cells (bcells z32).toArray 25)).setRow wb.drew.heap.size (bcells z32).toArray = x := ⟨_, rfl⟩
  have hb : Below wb.drew.heap.size wb.drew wc := by rw [← ec]; exact Go.below_setRow (below_new _ _) (Nat.le_refl _) _
  have HR6c := hid (HR6.out.kept hb HR6.out.lt)
  have HKc := hid (HK.out.kept hb HK.out.lt)
  have HBc := hid (HBd.out.trans (hb.mono HBd.out.size))
  rw [ec]
  clear hNW hHeld s9 S10 ec hb HK HR6 HMm HCM HL
  have HIc := hid (H.out.kept HBc.out)
  have HCT := hid (cut_any (i := lo) HIc.out.cy HIc.out.cp HNM.out.1 HNM.out.2.1 HNM.out.2.2.1 HNM.out.2.2.2.1 HNM.out.2.2.2.2 HLO.out)
  have HKK := hid (HKT.out.1.kept HBc.out)
  have HSZ : Hid (2 ≤ wc.heap.size) := Nat.le_trans HKT.out.2.1 HBc.out.size
  have HTL : Hid (((bs.drop (lo * p)).take p).length = min p (bs.length - lo * p)) := by show _ = _; simp
  have HMN : Hid (min p (bs.length - lo * p) ≤ 9223372036854775807) := by show _ ≤ _; have := HNM.out.2.1; omega
  go_upto_region 8 with (first
    | (go_at_call 62; refine Calls.mono HCT.out ?_; rintro e w4 ⟨rfl, hb4⟩; have HB4 := hid hb4; clear hb4)
    | (go_at_call 8; refine Calls.mono (leaf_any (bs := (bs.drop (lo * p)).take p) (bytes_cut (HIc.out.cb.kept HB4.out) (lo * p) p) HTL.out (Nat.le_refl _) HMN.out (HKK.out.kept HB4.out) (Nat.le_trans HSZ.out HB4.out.size)) ?_; rintro e w5 ⟨rfl, hb5⟩; have HB5 := hid (HB4.out.trans (hb5.mono HB4.out.size)); clear hb5; rw [← HLF.out])
    | (go_at_call 43; refine Calls.mono (HCL.out w5 (HBc.out.trans (HB5.out.mono HBc.out.size))) ?_; rintro e w6 ⟨rfl, hf6, hi6⟩
       have HF6 := hid hf6
       have HI6 := hid hi6
       clear hf6 hi6)
    | (show wpList _ _ _ (Oper.mk none (.store 25 (.tmp 10) (.tmp 40)) _ _ _ _ :: _) _ _; refine (Row.new' w6 _ (bcells z32) 25 _ rfl rfl).wpStore' 25 (.tmp 10) (.tmp 40) (bcells (overL (leavesL bs p) lo hi)) rfl rfl rfl rfl (by rw [bcells_len, bcells_len, HOL.out]; rfl) (bcells_one _) (by rw [bcells_len, HOL.out]; exact I73.out) ?_; intro w7 HZ))
  have hb7 : Below w6.heap.size w6 w7 := by rw [HZ.out]; exact Go.below_setRow (below_new w6 _) (Nat.le_refl _) _
  have HR10 : Hid (Row w7 w6.heap.size (bcells (overL (leavesL bs p) lo hi)) 25) := by show Row _ _ _ _; rw [HZ.out]; exact (Row.new' w6 _ (bcells z32) 25 _ rfl rfl).row _
  have HI7 := hid (HI6.out.kept hb7)
  have hm0 : m < b0 := by have h1 := H.out.mB; have h2 := HKT.out.2.2; rw [HE.out.1] at h2; omega
  have hm1 : m < b1 := by have h1 := HBa.out.size; rw [HE.out.1, HE.out.2] at h1; omega
  have tr : ∀ {g' c' t'}, Row wc g' c' t' → g' ≠ m → Row w7 g' c' t' := fun {g' c' t'} hr hne => by
    have h1 := hr.kept HB5.out hr.lt
    have h2 := HF6.out.row h1 hne
    exact h2.kept hb7 h2.lt
  have HR6_7 := hid (tr HR6c.out (by omega))
  have HK7 := hid (tr HKc.out (by omega))
  have HF7 : Hid (Fr (fun k => k = m) w w7) := hid (((Fr.of_below (S := fun k => k = m) (HBc.out.trans (HB5.out.mono HBc.out.size)) (Nat.le_refl _)).trans HF6.out fun x e => Or.inl e).trans (Fr.of_below (S := fun k => k = m) hb7 (Nat.le_refl _)) fun x e => Or.inl e)
  have HNE : Hid (b0 ≠ m ∧ w.heap.size = b0 ∧ B ≤ b0) := ⟨by omega, HE.out.1, by have := HKT.out.2.2; rw [HE.out.1] at this; exact this⟩
  have hm4 : m < w6.heap.size := HI6.out.cr.lt
  generalize w6.heap.size = b4 at *
  clear hb7 tr hm0 hm1 HZ HF6 HI6 HB5 HB4 HKK HSZ HTL HMN HCT HIc HR6c HKc HBc HBd HBa HE HCL HLF HLO
  obtain ⟨D, hD⟩ : ∃ D, (hi - lo) * p = D := ⟨_, rfl⟩
  have hD1 : ((hi : Int) - lo) * p = (D : Int) := by rw [← hD, show (hi : Int) - lo = ((hi - lo : Nat) : Int) by omega]; simp
  have hD2 : D ≤ 16777216 * 65536 := by rw [← hD]; exact Nat.mul_le_mul (by omega) HNM.out.2.1
  have q3 : (D : Int) ≤ 1099511627776 := by omega
  have q4 : (p : Int) ≤ 65536 := by have := HNM.out.2.1; omega
  have c1 := HI7.out.cp
  have c2 := HI7.out.cm
  clear hD hD2
  have HEQ : ∃ E, overL (leavesL bs p) lo hi = E := ⟨_, rfl⟩
  obtain ⟨E, hE⟩ := HEQ
  have HEE := hid hE
  rw [hE] at HOL HPU HR10
  clear hE
  simp only [Act.put]
  have fin : ∀ (wy wz : World) (tmps : Array Value), Fr (fun k => k = m) w wy → BdI g o a c p m bs B wy → Row wy b0 (bcells z32) 25 → Hid (wz = wy.setRow b0 (bcells E).toArray) → tmps.getD 6 undef = .pointer (some ⟨b0, 0, none⟩) → bodyPost Tryd.prog Tryd.f53 (fun e w' => e = .returned (.agg (bcells (overL (leavesL bs p) lo hi)).toArray) ∧ Fr (fun k => k = m) w w' ∧ BdI g o a c p m bs B w') .ret ⟨tmps, []⟩ wz := fun wy wz tmps hf hi hr HZ ht => by
    have R : Row wz b0 (bcells E) 25 := by rw [HZ.out]; exact hr.row _
    have f2 : Fr (fun k => k = b0) wy wz := by
      rw [HZ.out]
      exact ⟨rfl, rfl, rfl, by unfold World.setRow; simp, fun k hk hs => setRow_other wy b0 k _ hs⟩
    exact bodyPost_ret (v := .agg (bcells E).toArray) (R.result Tryd.results53 _ ht _ Tryd.underlying25 rfl (by rw [bcells_len, HOL.out]; exact I73.out)) rfl ⟨by rw [HEE.out], hf.trans f2 fun x e => Or.inr (by rw [e, HNE.out.2.1]; exact Nat.le_refl _), hi.fr (f2.wider fun x e => by rw [e]; exact HNE.out.2.2)⟩
  have FIN := hid fin
  clear fin
  by_cases hb : D < 1024
  · have q5 : (D : Int) < 1024 := by omega
    clear HPU hb
    go_wp2_with (first
      | (show wpList _ _ _ (Oper.mk (some 56) (.load 25 (.tmp 10)) _ _ _ _ :: _) _ _; refine HR10.out.wpLoad 25 (.tmp 10) rfl rfl rfl _ Tryd.underlying25 rfl (by rw [bcells_len, HOL.out]; exact I73.out) ?_)
      | (show wpList _ _ _ (Oper.mk none (.store 25 (.tmp 6) (.tmp 56)) _ _ _ _ :: _) _ _; refine HR6_7.out.wpStore' 25 (.tmp 6) (.tmp 56) (bcells E) rfl rfl rfl rfl (by rw [bcells_len, bcells_len, HOL.out]; rfl) (bcells_one _) (by rw [bcells_len, HOL.out]; exact I73.out) ?_; intro wz HZ))
    exact FIN.out _ _ _ HF7.out HI7.out HR6_7.out HZ rfl
  · have q5 : (1024 : Int) ≤ D := by omega
    go_upto_region 9 with (fail)
    clear c1 c2
    have bd : Below w7.heap.size w7 w7.drew := ⟨rfl, rfl, rfl, Nat.le_refl _, fun _ _ => rfl⟩
    have HI7d := hid (HI7.out.kept bd)
    obtain ⟨w8, hrun, hm8, hf8⟩ := HPU.out w7.drew HI7d.out
    have HRUN := hid hrun
    have HR6_8 := hid (hf8.row (HR6_7.out.kept bd HR6_7.out.lt) HNE.out.1)
    have HR10_8 := hid (hf8.row (HR10.out.kept bd HR10.out.lt) (by omega))
    have HF8 := hid ((HF7.out.trans (Fr.of_below (S := fun k => k = m) bd (Nat.le_refl _)) fun x e => Or.inl e).trans hf8 fun x e => Or.inl e)
    have HI8 := hid (HI7d.out.put hf8 hm8)
    have HSS : Hid (w7.drew.cell? ⟨g, o + 2, none⟩ = some (.map (some m)) ∧ Row w7.drew b1 [.int .u64 (lo : Int), .int .u64 (hi : Int)] 92 ∧ Row w7.drew b4 (bcells E) 25) := ⟨HI7d.out.cm, HK7.out.kept bd HK7.out.lt, HR10.out.kept bd HR10.out.lt⟩
    clear hrun hm8 hf8 bd HPU hb
    refine wp_region_last (S := fun w' => w'.cell? ⟨g, o + 2, none⟩ = some (.map (some m)) ∧ Row w' b1 [.int .u64 (lo : Int), .int .u64 (hi : Int)] 92 ∧ Row w' b4 (bcells E) 25) (N := 6) (by kernel_rfl) (by kernel_rfl) fun hNW => ?_
    have hHeld := (show (fun w' => w'.cell? ⟨g, o + 2, none⟩ = some (.map (some m)) ∧ Row w' b1 [.int .u64 (lo : Int), .int .u64 (hi : Int)] 92 ∧ Row w' b4 (bcells E) 25) w7.drew from HSS.out)
    refine wpAnyF_take (i := 0) (oi := { dst := some 50, op := Go.Op.move (Go.Operand.tmp 0), type := 124, pos := "body.go:41", after := #[], guard := none }) (v := ?v901_0) hNW (by decide) rfl (by kernel_rfl) (by kernel_rfl) (by kernel_rfl) (by kernel_rfl) (fun _ _ _ h => h) (Or.inl ⟨by kernel_rfl, ?h901_0⟩) (by assumption) ?r901_0
    case h901_0 => (intro wt hSw; (try dsimp only at hSw); go_simp; try with_reducible rfl)
    simp only [Act.put, List.setIfInBounds_toArray, List.set_cons_zero, List.set_cons_succ]
    refine wpAnyF_take (i := 1) (oi := { dst := some 51, op := Go.Op.nilCheck (Go.Operand.tmp 50), type := 0, pos := "body.go:41", after := #[{ on := 0, ground := Go.Ground.data }], guard := none }) (v := ?v901_1) hNW (by decide) rfl (by kernel_rfl) (by kernel_rfl) (by kernel_rfl) (by kernel_rfl) (fun _ _ _ h => h) (Or.inl ⟨by kernel_rfl, ?h901_1⟩) (by assumption) ?r901_1
    case h901_1 => (intro wt hSw; (try dsimp only at hSw); go_simp; try with_reducible rfl)
    simp only [Act.put, List.setIfInBounds_toArray, List.set_cons_zero, List.set_cons_succ]
    refine wpAnyF_take (i := 2) (oi := { dst := some 52, op := Go.Op.fieldAddr 63 (Go.Operand.tmp 51) 2, type := 0, pos := "body.go:41", after := #[{ on := 1, ground := Go.Ground.data }], guard := none }) (v := ?v901_2) hNW (by decide) rfl (by kernel_rfl) (by kernel_rfl) (by kernel_rfl) (by kernel_rfl) (fun _ _ _ h => h) (Or.inl ⟨by kernel_rfl, ?h901_2⟩) (by assumption) ?r901_2
    case h901_2 => (intro wt hSw; (try dsimp only at hSw); go_simp; try with_reducible rfl)
    simp only [Act.put, List.setIfInBounds_toArray, List.set_cons_zero, List.set_cons_succ]
    refine wpAnyF_take (i := 3) (oi := { dst := some 53, op := Go.Op.load 61 (Go.Operand.tmp 52), type := 61, pos := "body.go:41", after := #[{ on := 2, ground := Go.Ground.data }], guard := none }) (v := .map (some m)) hNW (by decide) rfl (by kernel_rfl) (by kernel_rfl) (by kernel_rfl) (by kernel_rfl) (fun _ _ _ h => h) (Or.inl ⟨by kernel_rfl, ?h901_3⟩) (by assumption) ?r901_3
    case h901_3 => (intro wt hSw; (try dsimp only at hSw); go_simp; try with_reducible rfl)
    simp only [Act.put, List.setIfInBounds_toArray, List.set_cons_zero, List.set_cons_succ]
    refine wpAnyF_take (i := 4) (oi := { dst := some 54, op := Go.Op.load 92 (Go.Operand.tmp 7), type := 92, pos := "body.go:41", after := #[], guard := none }) (v := .agg #[.int .u64 (lo : Int), .int .u64 (hi : Int)]) hNW (by decide) rfl (by kernel_rfl) (by kernel_rfl) (by kernel_rfl) (by kernel_rfl) (fun _ _ _ h => h) (Or.inl ⟨by kernel_rfl, ?h901_4⟩) (by assumption) ?r901_4
    case h901_4 => (intro wt hSw; exact exec_load (hSw.2.1.load 92 _ Tryd.underlying92 rfl (by kernel_rfl)) rfl rfl)
    simp only [Act.put, List.setIfInBounds_toArray, List.set_cons_zero, List.set_cons_succ]
    refine wpAnyF_take (i := 5) (oi := { dst := some 55, op := Go.Op.load 25 (Go.Operand.tmp 10), type := 25, pos := "body.go:41", after := #[], guard := none }) (v := .agg (bcells E).toArray) hNW (by decide) rfl (by kernel_rfl) (by kernel_rfl) (by kernel_rfl) (by kernel_rfl) (fun _ _ _ h => h) (Or.inl ⟨by kernel_rfl, ?h901_5⟩) (by assumption) ?r901_5
    case h901_5 => (intro wt hSw; exact exec_load (hSw.2.2.load 25 _ Tryd.underlying25 rfl (by rw [bcells_len, HOL.out]; exact I73.out)) rfl rfl)
    simp only [Act.put, List.setIfInBounds_toArray, List.set_cons_zero, List.set_cons_succ]
    refine wpAnyF_one (i := 6) (o := { dst := none, op := Go.Op.mapUpdate 61 (Go.Operand.tmp 53) (Go.Operand.tmp 54) (Go.Operand.tmp 55), type := 0, pos := "body.go:41", after := #[{ on := 3, ground := Go.Ground.data }, { on := 4, ground := Go.Ground.data }, { on := 5, ground := Go.Ground.data }, { on := 0, ground := Go.Ground.phase }, { on := 1, ground := Go.Ground.phase }, { on := 2, ground := Go.Ground.phase }, { on := 3, ground := Go.Ground.phase }, { on := 4, ground := Go.Ground.phase }, { on := 5, ground := Go.Ground.phase }], guard := none }) rfl rfl (by kernel_rfl) ?_
    refine step_mapup HRUN.out rfl rfl rfl rfl ?_
    refine ⟨fun h => absurd rfl h, ?_⟩
    simp only [Act.put]
    refine wpAnyF_done (by kernel_rfl) ?_ _
    clear hNW hHeld
    go_wp2_with (first
      | (show wpList _ _ _ (Oper.mk (some 56) (.load 25 (.tmp 10)) _ _ _ _ :: _) _ _; refine HR10_8.out.wpLoad 25 (.tmp 10) rfl rfl rfl _ Tryd.underlying25 rfl (by rw [bcells_len, HOL.out]; exact I73.out) ?_)
      | (show wpList _ _ _ (Oper.mk none (.store 25 (.tmp 6) (.tmp 56)) _ _ _ _ :: _) _ _; refine HR6_8.out.wpStore' 25 (.tmp 6) (.tmp 56) (bcells E) rfl rfl rfl rfl (by rw [bcells_len, bcells_len, HOL.out]; rfl) (bcells_one _) (by rw [bcells_len, HOL.out]; exact I73.out) ?_; intro wz HZ))
    exact FIN.out _ _ _ HF8.out HI8.out HR6_8.out HZ rfl
end Go.Proofs.YtaklbofbhanjgaaDoor
