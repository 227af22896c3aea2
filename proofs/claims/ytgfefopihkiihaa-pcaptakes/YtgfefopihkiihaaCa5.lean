import Derived.Test.YtgfefopihkiihaaCa4
import Derived.Test.YtgfefopihkiihaaSt
namespace Go.Proofs.Ytgfefopihkiihaa
open Go.RowKit Go.Maps
set_option maxRecDepth 100000

set_option maxHeartbeats 8000000 in
/-- The document's packet of an event. -/
theorem packet_any {w : World} {e : Evt} (nano : Bool) (h : EvtOk w e) (hl : e.bs.length ≤ 140737488355316) :
    Calls Try.prog 29 #[.agg (ecells e).toArray, .bool nano] w fun en w' => PkNew w w' e (mul nano) en := by
  have HE := hid h
  obtain ⟨n, hn⟩ : ∃ n, e.bs.length = n := ⟨_, rfl⟩
  have hn0 : (0 : Int) ≤ (n : Int) := by omega
  have hn1 : (n : Int) ≤ 140737488355316 := by omega
  have R := Row.new w (ecells e) 33
  have R2 := Row.new (w.alloc (.cells (ecells e).toArray 33)) pz 58
  have R1 := R.alloc (.cells pz.toArray 58)
  have hs1 : (w.alloc (.cells (ecells e).toArray 33)).heap.size = w.heap.size + 1 := by simp
  rw [hs1] at R2
  have HB1 := hid ((below_new w (.cells (ecells e).toArray 33)).trans ((below_new (w.alloc (.cells (ecells e).toArray 33)) (.cells pz.toArray 58)).mono (below_new w _).size))
  clear R
  go_enter Try.func29, Try.ntmps29
  go_upto_region 1 with fail
  refine wp_world fun w1 HW1 => ?_
  obtain ⟨b, hb⟩ : ∃ b, w.heap.size = b := ⟨_, rfl⟩
  have R1' : Row w1 b (ecells e) 33 := by rw [HW1.out, ← hb]; exact R1
  have HR2 : Hid (Row w1 (b + 1) pz 58) := by rw [HW1.out, ← hb]; exact R2
  have HB1' : Hid (Below b w w1) := by rw [HW1.out, ← hb]; exact HB1.out
  have HE1 := hid (HE.out.at_.kept (hb ▸ HB1'.out))
  rw [hb]
  have HBB := hid hb
  have HR1 := hid R1'
  have x0 : w1.cell? ⟨b, 0, none⟩ = some (.int .i64 e.what) := R1'.cell 0 _ rfl
  have x1 : w1.cell? ⟨b, 1, none⟩ = some (.int .i64 e.side) := R1'.cell 1 _ rfl
  have x2 : w1.cell? ⟨b, 2, none⟩ = some (.int .i64 e.path) := R1'.cell 2 _ rfl
  clear R1 R2 HB1 h hb HW1 R1'
  obtain ⟨B, hB⟩ : ∃ B, w1.heap.size = B := ⟨_, rfl⟩
  have hbB : b < B := by rw [← hB]; exact HR1.out.lt
  have HBS := hid hB
  go_upto_region 2 with fail
  refine wp_world fun w2 HW2 => ?_
  have hO2 : OwnBy w2 B (.slice (some ⟨B, 0, none⟩) 4 4) [98#8, BitVec.ofInt 8 e.what, BitVec.ofInt 8 e.side, BitVec.ofInt 8 e.path] := by
    rw [HW2.out, ← hB, u8_of, u8_of, u8_of]
    exact own_new w1 [98#8, BitVec.ofInt 8 e.what, BitVec.ofInt 8 e.side, BitVec.ofInt 8 e.path] (by simp)
  have hB2 : Below B w1 w2 := by rw [HW2.out, ← hB]; exact below_new _ _
  have hB2s : B ≤ w2.heap.size := by rw [← hB]; exact hB2.size
  have HO2 := hid hO2
  have HB2 := hid hB2
  have x3 : w2.cell? ⟨b, 3, none⟩ = some (.int .u64 e.clock) := (hB2.cell (p := ⟨b, 3, none⟩) hbB).trans (HR1.out.cell 3 _ rfl)
  have HLG := hid (long_any w2 (k := 8) false HE.out.c0 HE.out.c1 (by decide))
  clear x0 x1 x2 HW2 hO2 hB2 hB
  go_upto_region 3 with (first
    | (go_at_call 39; refine HLG.out.mono ?_; rintro en w3 ⟨v3, rfl, hO3, hB3⟩; obtain ⟨a3, c3, rfl, hy3, -, -, hz3, -⟩ := ownBy_shape hO3; have HY3 := hid hy3; have HZ3 := hid hz3; have HB3 := hid hB3; have HL3 : Hid ((ord e.clock 8 false).length = 8) := be_len 8 e.clock; clear hy3 hz3 hB3 hO3)
    | (at_builtin; refine wpAppendA (.tmp 16) (.tmp 19) rfl rfl (base := B) (v := .slice (some ⟨B, 0, none⟩) 4 4) (old := [98#8, BitVec.ofInt 8 e.what, BitVec.ofInt 8 e.side, BitVec.ofInt 8 e.path]) rfl (own_below HO2.out HB3.out) (Nat.le_trans hB2s HB3.out.size) rfl HZ3.out rfl HY3.out (by rw [HL3.out]; simp) ?_; intro w4 v4 hO4 hg4))
  have hO4' : OwnBy w4 B v4 ([98#8, BitVec.ofInt 8 e.what, BitVec.ofInt 8 e.side, BitVec.ofInt 8 e.path] ++ be e.clock 8) := by
    have h1 := hO4.out
    rw [HL3.out] at h1
    exact h1
  have HB4 : Hid (Below B w1 w4) := by
    have h1 : Below B w1 w3 := HB2.out.trans (HB3.out.mono hB2s)
    exact h1.trans (grown_below hg4.out.1 (fun g e => own_ge HO2.out e) (Nat.le_trans hB2s HB3.out.size))
  have HO4 := hid hO4'
  have hs4 : B ≤ w4.heap.size := by have := HB4.out.size; have := HBS.out; omega
  have x4 : w4.cell? ⟨b, 4, none⟩ = some (.slice e.fa n e.fc) := (HB4.out.cell (p := ⟨b, 4, none⟩) hbB).trans (by rw [← hn]; exact HR1.out.cell 4 _ rfl)
  have HE4 := hid (HE1.out.kept (HBS.out ▸ HB4.out))
  have hl4 : ([98#8, BitVec.ofInt 8 e.what, BitVec.ofInt 8 e.side, BitVec.ofInt 8 e.path] ++ be e.clock 8).length + n ≤ 140737488355328 := by simp [be_len]; omega
  clear hO4 hO4' hg4 HLG HO2 x3 HB3 HE1 HY3 HZ3 HL3 HB2
  go_upto_region 4 with (at_builtin; refine wpAppendA (.tmp 21) (.tmp 23) rfl rfl rfl HO4.out hs4 rfl HE.out.nil hn HE4.out hl4 ?_; intro w5 v5 hO5 hg5)
  have hO5' : OwnBy w5 B v5 (dat e) := by
    have h1 := hO5.out
    have e2 : (98#8 :: BitVec.ofInt 8 e.what :: BitVec.ofInt 8 e.side :: BitVec.ofInt 8 e.path :: (be e.clock 8 ++ e.bs)) = ([98#8, BitVec.ofInt 8 e.what, BitVec.ofInt 8 e.side, BitVec.ofInt 8 e.path] ++ be e.clock 8) ++ e.bs := by simp
    have e3 : (dat e).length = ([98#8, BitVec.ofInt 8 e.what, BitVec.ofInt 8 e.side, BitVec.ofInt 8 e.path] ++ be e.clock 8).length + n := by rw [dat_len]; simp [be_len]; omega
    show w5.ownsRow B 5 1 v5 (dat e).length (bcells (dat e))
    rw [e3]
    unfold dat
    rw [e2]
    exact h1
  have HB5 : Hid (Below B w1 w5) := HB4.out.trans (grown_below hg5.out.1 (fun g e => own_ge HO4.out e) hs4)
  have hdl : (dat e).length = n + 12 := by rw [dat_len]; omega
  obtain ⟨a5, c5, rfl, -⟩ := ownBy_shape hO5'
  rw [hdl]
  have HO5 : Hid (OwnBy w5 B (.slice a5 (n + 12) c5) (dat e)) := by have := hO5'; rw [hdl] at this; exact this
  have x3 : w5.cell? ⟨b, 3, none⟩ = some (.int .u64 e.clock) := (HB5.out.cell (p := ⟨b, 3, none⟩) hbB).trans (HR1.out.cell 3 _ rfl)
  have HR25 := hid (HR2.out.kept HB5.out (by have := HR2.out.lt; have := HBS.out; omega))
  have hbB2 : b + 1 < B := by have := HR2.out.lt; have := HBS.out; omega
  let C : List Value := [.int .u32 (e.clock / 1000 % 4294967296), .int .u32 (e.clock % 1000 * mul nano), .int .u32 (((n : Int) + 12) % 4294967296), .slice a5 (n + 12) c5]
  have hC1 : ∀ u ∈ C, u.oneCell' = true := by
    intro u hu
    simp only [C, List.mem_cons, List.not_mem_nil, or_false] at hu
    rcases hu with rfl | rfl | rfl | rfl <;> rfl
  have HC1 := hid hC1
  clear hO5 hO5' hg5 HB4 HO4 x4 HE4 hl4 hC1
  have hc0 : 0 ≤ e.clock := HE.out.c0
  have hc1 : e.clock < 18446744073709551616 := HE.out.c1
  have hw3 : IntKind.u32.wrap (IntKind.u64.wrap (e.clock.tdiv 1000)) = e.clock / 1000 % 4294967296 := by
    rw [Int.tdiv_eq_ediv_of_nonneg hc0, IntKind.wrap_u32', IntKind.wrap_u64]
    omega
  have hw7 : IntKind.u32.wrap (e.clock.tmod 1000) = e.clock % 1000 := by
    rw [Int.tmod_eq_emod_of_nonneg hc0, IntKind.wrap_u32']
    omega
  have hm0 : 0 ≤ mul nano := by cases nano <;> decide
  have hm1 : mul nano ≤ 1000000 := by cases nano <;> decide
  have hmw : IntKind.u32.wrap (e.clock % 1000 * mul nano) = e.clock % 1000 * mul nano := by
    have h1 : 0 ≤ e.clock % 1000 * mul nano := Int.mul_nonneg (by omega) hm0
    have h2 : e.clock % 1000 * mul nano ≤ 999 * 1000000 := Int.mul_le_mul (by omega) hm1 hm0 (by omega)
    rw [IntKind.wrap_u32']
    omega
  refine wp_region_some (fun w' => w' = w5.drew) [17] (by kernel_rfl) ?_
  have hHeld := (show (fun w' => w' = w5.drew) w5.drew from rfl)
  refine wpAnyG_take' (i := 0) (oi := { dst := some 25, op := Go.Op.fieldAddr 33 (Go.Operand.tmp 2) 3, type := 0, pos := "ref.go:145", after := #[], guard := none }) (v := ?v1_0) rfl (by kernel_rfl) (by kernel_rfl) (by kernel_rfl) (fun _ _ _ h => h) (Or.inl ⟨by kernel_rfl, ?h1_0⟩) ?r1_0
  case h1_0 => (intro wt hSw; clear hSw; go_simp; try with_reducible rfl)
  simp only [Act.put, List.setIfInBounds_toArray, List.set_cons_zero, List.set_cons_succ]
  refine wpAnyG_take (i := 1) (oi := { dst := some 26, op := Go.Op.load 30 (Go.Operand.tmp 25), type := 30, pos := "ref.go:145", after := #[{ on := 0, ground := Go.Ground.data }], guard := none }) (v := ?v1_1) (by kernel_rfl) rfl (by kernel_rfl) (by kernel_rfl) (by kernel_rfl) (by kernel_rfl) (fun _ _ _ h => h) (Or.inl ⟨by kernel_rfl, ?h1_1⟩) (by assumption) ?r1_1
  case h1_1 => (intro wt hSw; (try dsimp only at hSw); subst hSw; go_simp; try rfl)
  simp only [Act.put, List.setIfInBounds_toArray, List.set_cons_zero, List.set_cons_succ]
  refine wpAnyG_take' (i := 2) (oi := { dst := some 27, op := Go.Op.binOp Go.BinOp.quo 30 (Go.Operand.tmp 26) (Go.Operand.const (Go.Value.int Go.IntKind.u64 1000)) 30, type := 30, pos := "ref.go:145", after := #[{ on := 1, ground := Go.Ground.data }], guard := none }) (v := ?v1_2) rfl (by kernel_rfl) (by kernel_rfl) (by kernel_rfl) (fun _ _ _ h => h) (Or.inl ⟨by kernel_rfl, ?h1_2⟩) ?r1_2
  case h1_2 => (intro wt hSw; clear hSw; go_simp; try with_reducible rfl)
  simp only [Act.put, List.setIfInBounds_toArray, List.set_cons_zero, List.set_cons_succ]
  refine wpAnyG_take' (i := 3) (oi := { dst := some 28, op := Go.Op.convert 30 24 (Go.Operand.tmp 27), type := 24, pos := "ref.go:145", after := #[{ on := 2, ground := Go.Ground.data }], guard := none }) (v := .int .u32 (e.clock / 1000 % 4294967296)) rfl (by kernel_rfl) (by kernel_rfl) (by kernel_rfl) (fun _ _ _ h => h) (Or.inl ⟨by kernel_rfl, ?h1_3⟩) ?r1_3
  case h1_3 => (intro wt hSw; clear hSw; go_simp; (first | done | exact hw3))
  simp only [Act.put, List.setIfInBounds_toArray, List.set_cons_zero, List.set_cons_succ]
  refine wpAnyG_take' (i := 4) (oi := { dst := some 29, op := Go.Op.fieldAddr 33 (Go.Operand.tmp 2) 3, type := 0, pos := "ref.go:145", after := #[], guard := none }) (v := ?v1_4) rfl (by kernel_rfl) (by kernel_rfl) (by kernel_rfl) (fun _ _ _ h => h) (Or.inl ⟨by kernel_rfl, ?h1_4⟩) ?r1_4
  case h1_4 => (intro wt hSw; clear hSw; go_simp; try with_reducible rfl)
  simp only [Act.put, List.setIfInBounds_toArray, List.set_cons_zero, List.set_cons_succ]
  refine wpAnyG_take (i := 5) (oi := { dst := some 30, op := Go.Op.load 30 (Go.Operand.tmp 29), type := 30, pos := "ref.go:145", after := #[{ on := 4, ground := Go.Ground.data }], guard := none }) (v := ?v1_5) (by kernel_rfl) rfl (by kernel_rfl) (by kernel_rfl) (by kernel_rfl) (by kernel_rfl) (fun _ _ _ h => h) (Or.inl ⟨by kernel_rfl, ?h1_5⟩) (by assumption) ?r1_5
  case h1_5 => (intro wt hSw; (try dsimp only at hSw); subst hSw; go_simp; try rfl)
  simp only [Act.put, List.setIfInBounds_toArray, List.set_cons_zero, List.set_cons_succ]
  refine wpAnyG_take' (i := 6) (oi := { dst := some 31, op := Go.Op.binOp Go.BinOp.rem 30 (Go.Operand.tmp 30) (Go.Operand.const (Go.Value.int Go.IntKind.u64 1000)) 30, type := 30, pos := "ref.go:145", after := #[{ on := 5, ground := Go.Ground.data }], guard := none }) (v := ?v1_6) rfl (by kernel_rfl) (by kernel_rfl) (by kernel_rfl) (fun _ _ _ h => h) (Or.inl ⟨by kernel_rfl, ?h1_6⟩) ?r1_6
  case h1_6 => (intro wt hSw; clear hSw; go_simp; try with_reducible rfl)
  simp only [Act.put, List.setIfInBounds_toArray, List.set_cons_zero, List.set_cons_succ]
  refine wpAnyG_take' (i := 7) (oi := { dst := some 32, op := Go.Op.convert 30 24 (Go.Operand.tmp 31), type := 24, pos := "ref.go:145", after := #[{ on := 6, ground := Go.Ground.data }], guard := none }) (v := .int .u32 (e.clock % 1000)) rfl (by kernel_rfl) (by kernel_rfl) (by kernel_rfl) (fun _ _ _ h => h) (Or.inl ⟨by kernel_rfl, ?h1_7⟩) ?r1_7
  case h1_7 => (intro wt hSw; clear hSw; go_simp; (first | done | exact hw7))
  simp only [Act.put, List.setIfInBounds_toArray, List.set_cons_zero, List.set_cons_succ]
  refine wpAnyG_take' (i := 8) (oi := { dst := some 33, op := Go.Op.move (Go.Operand.tmp 1), type := 4, pos := "ref.go:145", after := #[], guard := none }) (v := ?v1_8) rfl (by kernel_rfl) (by kernel_rfl) (by kernel_rfl) (fun _ _ _ h => h) (Or.inl ⟨by kernel_rfl, ?h1_8⟩) ?r1_8
  case h1_8 => (intro wt hSw; clear hSw; go_simp; try with_reducible rfl)
  simp only [Act.put, List.setIfInBounds_toArray, List.set_cons_zero, List.set_cons_succ]
  refine wpAnyG_take' (i := 12) (oi := { dst := some 37, op := Go.Op.move (Go.Operand.tmp 5), type := 31, pos := "ref.go:145", after := #[], guard := none }) (v := ?v1_12) rfl (by kernel_rfl) (by kernel_rfl) (by kernel_rfl) (fun _ _ _ h => h) (Or.inl ⟨by kernel_rfl, ?h1_12⟩) ?r1_12
  case h1_12 => (intro wt hSw; clear hSw; go_simp; try with_reducible rfl)
  simp only [Act.put, List.setIfInBounds_toArray, List.set_cons_zero, List.set_cons_succ]
  refine wpAnyG_take' (i := 13) (oi := { dst := some 38, op := Go.Op.call { callee := Go.Callee.builtin Go.Builtin.len, args := #[Go.Operand.tmp 37], argTypes := #[31] }, type := 3, pos := "ref.go:145", after := #[{ on := 12, ground := Go.Ground.data }], guard := none }) (v := ?v1_13) rfl (by kernel_rfl) (by kernel_rfl) (by kernel_rfl) (fun _ _ _ h => h) (Or.inl ⟨by kernel_rfl, ?h1_13⟩) ?r1_13
  case h1_13 => (intro wt hSw; clear hSw; go_simp; try with_reducible rfl)
  simp only [Act.put, List.setIfInBounds_toArray, List.set_cons_zero, List.set_cons_succ]
  refine wpAnyG_take' (i := 14) (oi := { dst := some 39, op := Go.Op.convert 3 24 (Go.Operand.tmp 38), type := 24, pos := "ref.go:145", after := #[{ on := 13, ground := Go.Ground.data }], guard := none }) (v := .int .u32 (((n : Int) + 12) % 4294967296)) rfl (by kernel_rfl) (by kernel_rfl) (by kernel_rfl) (fun _ _ _ h => h) (Or.inl ⟨by kernel_rfl, ?h1_14⟩) ?r1_14
  case h1_14 => (intro wt hSw; clear hSw; go_simp; try rfl)
  simp only [Act.put, List.setIfInBounds_toArray, List.set_cons_zero, List.set_cons_succ]
  refine wpAnyG_take' (i := 15) (oi := { dst := some 40, op := Go.Op.move (Go.Operand.tmp 5), type := 31, pos := "ref.go:145", after := #[], guard := none }) (v := ?v1_15) rfl (by kernel_rfl) (by kernel_rfl) (by kernel_rfl) (fun _ _ _ h => h) (Or.inl ⟨by kernel_rfl, ?h1_15⟩) ?r1_15
  case h1_15 => (intro wt hSw; clear hSw; go_simp; try with_reducible rfl)
  simp only [Act.put, List.setIfInBounds_toArray, List.set_cons_zero, List.set_cons_succ]
  refine wpAnyG_one (i := 9) (o := { dst := some 34, op := Go.Op.call { callee := Go.Callee.value (Go.Operand.func 38), args := #[Go.Operand.tmp 33], argTypes := #[4] }, type := 24, pos := "ref.go:145", after := #[{ on := 8, ground := Go.Ground.data }], guard := none }) rfl (by kernel_rfl) (by kernel_rfl) ?_
  refine step_callxi (f := 38) (args := #[.bool nano]) (G := fun v w2 => v = .int .u32 (if nano then 1000000000 else 1000000) ∧ w2 = w5.drew) (by first | kernel_rfl | go_simp) ((rsecond_any _ nano).mono (fun e w2 h => ⟨_, h.1, rfl, h.2⟩)) ?_
  rintro v6 w6 ⟨rfl, rfl⟩
  refine ⟨fun _ h => h, ?_⟩
  simp only [Act.put, List.setIfInBounds_toArray, List.set_cons_zero, List.set_cons_succ]
  refine wpAnyG_take' (i := 10) (oi := { dst := some 35, op := Go.Op.binOp Go.BinOp.quo 24 (Go.Operand.tmp 34) (Go.Operand.const (Go.Value.int Go.IntKind.u32 1000)) 24, type := 24, pos := "ref.go:145", after := #[{ on := 9, ground := Go.Ground.data }], guard := none }) (v := .int .u32 (mul nano)) rfl (by kernel_rfl) (by kernel_rfl) (by kernel_rfl) (fun _ _ _ h => h) (Or.inl ⟨by kernel_rfl, ?h1_10⟩) ?r1_10
  case h1_10 => (intro wt hSw; clear hSw; go_simp; cases nano <;> rfl)
  simp only [Act.put, List.setIfInBounds_toArray, List.set_cons_zero, List.set_cons_succ]
  refine wpAnyG_take' (i := 11) (oi := { dst := some 36, op := Go.Op.binOp Go.BinOp.mul 24 (Go.Operand.tmp 32) (Go.Operand.tmp 35) 24, type := 24, pos := "ref.go:145", after := #[{ on := 7, ground := Go.Ground.data }, { on := 10, ground := Go.Ground.data }], guard := none }) (v := .int .u32 (e.clock % 1000 * mul nano)) rfl (by kernel_rfl) (by kernel_rfl) (by kernel_rfl) (fun _ _ _ h => h) (Or.inl ⟨by kernel_rfl, ?h1_11⟩) ?r1_11
  case h1_11 => (intro wt hSw; clear hSw; go_simp; try rfl)
  simp only [Act.put, List.setIfInBounds_toArray, List.set_cons_zero, List.set_cons_succ]
  refine wpAnyG_take' (i := 16) (oi := { dst := some 41, op := Go.Op.build 58 #[(0, Go.Operand.tmp 28), (1, Go.Operand.tmp 36), (2, Go.Operand.tmp 39), (3, Go.Operand.tmp 40)], type := 58, pos := "ref.go:145", after := #[{ on := 3, ground := Go.Ground.data }, { on := 11, ground := Go.Ground.data }, { on := 14, ground := Go.Ground.data }, { on := 15, ground := Go.Ground.data }], guard := none }) (v := .agg C.toArray) rfl (by kernel_rfl) (by kernel_rfl) (by kernel_rfl) (fun _ _ _ h => h) (Or.inl ⟨by kernel_rfl, ?h1_16⟩) ?r1_16
  case h1_16 => (intro wt hSw; clear hSw; go_simp; try rfl)
  simp only [Act.put, List.setIfInBounds_toArray, List.set_cons_zero, List.set_cons_succ]
  refine wpAnyG_one (i := 17) (o := { dst := none, op := Go.Op.store 58 (Go.Operand.tmp 4) (Go.Operand.tmp 41), type := 0, pos := "ref.go:145", after := #[{ on := 16, ground := Go.Ground.data }, { on := 9, ground := Go.Ground.chain }, { on := 0, ground := Go.Ground.phase }, { on := 1, ground := Go.Ground.phase }, { on := 2, ground := Go.Ground.phase }, { on := 3, ground := Go.Ground.phase }, { on := 4, ground := Go.Ground.phase }, { on := 5, ground := Go.Ground.phase }, { on := 6, ground := Go.Ground.phase }, { on := 7, ground := Go.Ground.phase }, { on := 8, ground := Go.Ground.phase }, { on := 9, ground := Go.Ground.phase }, { on := 10, ground := Go.Ground.phase }, { on := 11, ground := Go.Ground.phase }, { on := 12, ground := Go.Ground.phase }, { on := 13, ground := Go.Ground.phase }, { on := 14, ground := Go.Ground.phase }, { on := 15, ground := Go.Ground.phase }, { on := 16, ground := Go.Ground.phase }], guard := none }) rfl (by kernel_rfl) (by kernel_rfl) ?_
  refine step_storeA (c' := C) (HR25.out.drew 1) rfl rfl rfl rfl HC1.out info_58 ?_
  refine ⟨fun h => absurd (by simp) h, ?_⟩
  simp only [Act.put]
  refine wpAnyG_done (by kernel_rfl) ?_ _
  clear hHeld hmw hm1 hm0 hw3 hw7
  generalize HW9 : w5.drew.setRow (b + 1) C.toArray = w9
  go_wp2_with fail
  all_goals
    have R9 : Row w9 (b + 1) C 58 := by rw [← HW9]; exact (HR25.out.drew 1).row _
    have hF9 : Fr (fun k => k = b + 1) w5 w9 := by rw [← HW9]; exact ((Fr.refl (fun k => k = b + 1) w5).drewN 1).trans (fr_row _ _ _) (fun x e => .inl e)
    have hB9 : Below b w w9 := by
      have h2 : Below b w w5 := HB1'.out.trans (HB5.out.mono (by omega))
      exact h2.trans (hF9.below (fun x e => by omega) (by have := HB5.out.size; have := HBS.out; omega))
    have hO9 : OwnBy w9 B (.slice a5 (n + 12) c5) (dat e) := hF9.own HO5.out (fun g e' e => by have := own_ge HO5.out e'; omega)
    have hBb : Below w.heap.size w w9 := HBB.out.symm ▸ hB9
    refine bodyPost_ret (v := .agg C.toArray) (R9.result Try.results29 _ rfl _ Try.underlying58 rfl info_58) rfl ⟨⟨e.clock / 1000 % 4294967296, e.clock % 1000 * mul nano, ((n : Int) + 12) % 4294967296, a5, c5, dat e⟩, ?_, ?_, ?_, hBb⟩
    · simp only [pcells, Pkt.val, hdl]
      rfl
    · simp only [Pkt.view, Evt.pk, hn, h]
    · simp only [Pkt.val, hdl]
      exact own_less hO9 (by have := HBB.out; omega)
end Go.Proofs.Ytgfefopihkiihaa
