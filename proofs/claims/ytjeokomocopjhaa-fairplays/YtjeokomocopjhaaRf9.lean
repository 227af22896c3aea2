import Derived.Test.YtjeokomocopjhaaRf8b
import Derived.Test.YtjeokomocopjhaaRf7
namespace Go.Proofs.Ytjeokomocopjhaa
open Go.RowKit Go.Maps
set_option maxRecDepth 100000

set_option maxHeartbeats 8000000 in
theorem rnext_some {w : World} {r : Nat} {vL : Value} {V : Nat → Value} {q : Int} {A B : List Sm} {x : Sm} {R : Nat → List Int} (h : RfAt w r vL V q (A ++ x :: B) R) (hA : ∀ a ∈ A, a.num ≠ x.num) (hl : (A ++ x :: B).length ≤ 2048) (hc8 : x.cls < 8) (hE : ∀ k, k < x.cls → R k = []) {T : List Int} (hR : R x.cls = x.num :: T) (hT : x.num ∉ T) (hlT : T.length ≤ 1024)
    (hon : x.on = decide (x.cr ≠ 0)) {most : Int} (hm : 1 ≤ most) (hq0 : 1 ≤ q) (hq1 : q ≤ 65536) (hs0 : 1 ≤ x.shr) (hs1 : x.shr ≤ 255) (hw0 : 1 ≤ x.wt) (hw1 : x.wt ≤ 1099511627776) (hr0 : 0 ≤ x.cr) (hr1 : x.cr ≤ 16711680) :
    Calls Try.prog 30 #[pt r 0, .int .i64 most] w fun e w' => e = .returned (.tuple #[.agg #[.int .u64 x.num, .int .i64 (x.tk q most)], .bool true]) ∧ ∃ V', RMv r vL V w vL V' q (A ++ x.nx q most :: B) (nxR x q most R T) w' := by
  have hb := below_box w (.cells #[.int .u64 0, .int .i64 0] 31)
  have R31 := Row.new w [.int .u64 0, .int .i64 0] 31
  obtain ⟨g, cap, rfl⟩ := lst_some h.lst
  have h1 := h.below hb
  have hC0 : 1 ≤ x.cr1 q ∧ x.cr1 q ≤ 16711680 := by
    unfold Sm.cr1
    split
    · constructor
      · have := Int.mul_le_mul hq0 hs0 (by omega) (by omega)
        omega
      · have := Int.mul_le_mul hq1 hs1 (by omega) (by omega)
        omega
    · omega
  have HC : Hid (x.cr1 q = if x.cr = 0 then q * x.shr else x.cr) := rfl
  have HTK : Hid (x.tk q most = min (min most x.wt) (x.cr1 q)) := rfl
  have HOV : Hid (x.ov q most = (decide (x.wt - x.tk q most = 0) || decide (x.cr1 q - x.tk q most = 0))) := rfl
  have HNX : Hid (x.nx q most = if x.ov q most then { x with wt := x.wt - x.tk q most, cr := 0, on := false } else { x with wt := x.wt - x.tk q most, cr := x.cr1 q - x.tk q most, on := true }) := rfl
  have HNR : Hid (nxR x q most R T = if x.ov q most then upR R x.cls (if 0 < x.wt - x.tk q most then T ++ [x.num] else T) else R) := rfl
  have hT0 : 1 ≤ x.tk q most ∧ x.tk q most ≤ x.wt ∧ x.tk q most ≤ x.cr1 q ∧ x.tk q most ≤ most := by unfold Sm.tk; omega
  generalize x.nx q most = Y at *
  generalize nxR x q most R T = R' at *
  generalize x.ov q most = O at *
  generalize x.tk q most = N at *
  generalize x.cr1 q = C at *
  obtain ⟨hC1, hC2⟩ := hC0
  obtain ⟨hT1, hT2, hT3, hT4⟩ := hT0
  have HV : Hid (∀ k, k < x.cls → ∃ a cap, (w.alloc (.cells #[.int .u64 0, .int .i64 0] 31)).cell? ⟨r, 2 + k, none⟩ = some (.slice a 0 cap)) := fun k hk => by
    obtain ⟨a, cap, hv, -⟩ := own_slice (h1.own k (by omega))
    rw [hE k hk] at hv
    refine ⟨a, cap, ?_⟩
    rw [h1.row.cell _ _ (rcells_get q _ V (by omega)), hv]
    rfl
  obtain ⟨gR, capR, hvR, hcR⟩ : ∃ gR capR, V x.cls = .slice (some ⟨gR, 0, none⟩) (T.length + 1) capR ∧ (w.alloc (.cells #[.int .u64 0, .int .i64 0] 31)).cell? ⟨gR, 0, none⟩ = some (.int .u64 x.num) := by
    obtain ⟨a, capR, hv, _, _, _, hcc⟩ := own_slice (h1.own _ hc8)
    rw [hR] at hv
    obtain ⟨gR, ha, hcc⟩ := hcc 0 (by rw [hR]; simp)
    refine ⟨gR, capR, by rw [hv, ha]; rfl, ?_⟩
    rw [hcc]
    simp [hR]
  have hn0 : (0 : Int) < (T.length : Int) + 1 := by omega
  have HVR := hid2 hvR
  have c2 := h1.row.cell _ _ (rcells_get q _ V hc8)
  rw [hvR] at c2
  have c1 := h1.row.cell 1 _ rfl
  have c0 := h1.row.cell 0 _ rfl
  have HP := hid2 (place_hit (h1.below (Below.refl _ _).drew) hA hl)
  obtain ⟨m, hmA⟩ : ∃ m, A.length = m := ⟨_, rfl⟩
  have HMA := hid2 hmA
  obtain ⟨K, hK⟩ : ∃ K, (A ++ x :: B).length = K := ⟨_, rfl⟩
  have hmK : (m : Int) < (K : Int) := by rw [← hK, ← hmA]; simp; omega
  have hm0 : (0 : Int) ≤ (m : Int) := by omega
  have hk8 : (x.cls : Int) < 8 := by omega
  have hk0 : (0 : Int) ≤ (x.cls : Int) := by omega
  rw [hK] at c1
  rw [hmA] at HP
  have HK := hid2 hK
  have H1 := hid2 h1
  have HB := hid2 hb
  have HR31 := hid2 R31
  have HEQ := hid2 hR
  have HTN := hid2 hT
  have HLT := hid2 hlT
  have HC8 := hid2 hc8
  have HON := hid2 hon
  clear h h1 hb R31 hE hA hl hR hT hmA hK hvR hlT hon
  go_enter Try.func30, Try.ntmps30
  go_wp2_with fail
  refine wp_world ?_
  intro w1 hw1
  rw [← hw1.out] at HV hcR c0 c1 c2 HP H1 HB HR31
  go_loopw [6] (fun s wr => ∃ k : Nat, k ≤ x.cls ∧ s = .int .i64 k ∧ w1 = wr) (fun s _ => 9 - (intOf s).toNat)
  case atStart => exact ⟨0, Nat.zero_le _, rfl, rfl⟩
  case round =>
    obtain ⟨k, hk, rfl, rfl⟩ := hrel
    by_cases hlt : k < x.cls
    · have hki : (k : Int) < 8 := by omega
      have hk0 : (0 : Int) ≤ (k : Int) := by omega
      obtain ⟨a, cap, hv⟩ := HV.out k hlt
      clear HP c0 c1 c2 hcR
      go_wp2_with fail
      go_roundw
      case rel => exact ⟨k + 1, by omega, by go_num, by first | rfl | trivial⟩
      case measure => simp [intOf]; omega
    · obtain rfl : k = x.cls := by omega
      clear HV hlt hk
      go_upto_region 7 with fail
      go_region_held3 (fun w' => w'.cell? ⟨r, 1, none⟩ = some (.slice (some ⟨g, 0, none⟩) K cap) ∧ w'.cell? ⟨r, 2 + x.cls, none⟩ = some (.slice (some ⟨gR, 0, none⟩) (T.length + 1) capR) ∧ w'.cell? ⟨gR, 0, none⟩ = some (.int .u64 x.num)) (go_keep)
        (first | (go_at_call 36; refine HP.out.mono ?_; rintro e w2 ⟨rfl, rfl⟩))
      have hD1 := H1.out.below (Below.refl _ _).drew
      obtain ⟨hcD, hfD, -, -⟩ := lst_at hD1.lst
      rw [HMA.out] at hcD
      have d2 := hcD 2 _ rfl
      have d4 := hcD 4 _ rfl
      have d5 := hcD 5 _ rfl
      have f4 := hfD (m * 6 + 4)
      have f5 := hfD (m * 6 + 5)
      have e0 : w1.drew.cell? ⟨r, 0, none⟩ = some (.int .i64 q) := c0
      have HD1 := hid2 hD1
      have HR1 : Hid (Row w1.drew w.heap.size [.int .u64 0, .int .i64 0] 31) := HR31.out.drew 1
      have HGB : Hid (w.heap.size ≠ g) := fun e => by
        obtain ⟨cur, hg⟩ := own_blk H1.out.lst (g := g) rfl
        exact absurd (cells_type HR31.out.at_ (e ▸ hg)) (by decide)
      have HB2 : Hid (Below w.heap.size w w1.drew) := HB.out.drew
      have hgr : ¬ g = r := fun e => H1.out.lr (by rw [e]; rfl)
      have hrg : ¬ r = g := fun e => hgr e.symm
      clear hD1 hcD hfD hcR c0 c1 c2 HP hw1 H1 HR31 HB
      generalize w1.drew = w2 at *
      rename_i hHe
      clear hHe
      go_upto_if 43 with fail
      go_cut [] from 12 to 176 (fun wc => RMv r (.slice (some ⟨g, 0, none⟩) (A ++ x :: B).length cap) V w2 (.slice (some ⟨g, 0, none⟩) (A ++ x :: B).length cap) V q (A ++ ({ x with cr := C, on := true } : Sm) :: B) R wc ∧ Row wc w.heap.size [.int .u64 0, .int .i64 0] 31)
      case first =>
        by_cases hcz : x.cr = 0
        · have ho : x.on = false := by rw [HON.out, hcz]; rfl
          have hCe : q * x.shr = C := by rw [HC.out, if_pos hcz]
          have hCw : IntKind.i64.wrap C = C := by rw [IntKind.wrap_i64]; omega
          rw [ho] at d5
          rw [hcz] at d4
          have M5 := HD1.out.cell (A := A) (x := x) (y := { x with on := true }) (j := 5) (v := .bool true) (by decide) rfl
          have M4 := M5.at_.cell (A := A) (x := { x with on := true }) (y := { x with cr := C, on := true }) (j := 4) (v := .int .i64 C) (by decide) rfl
          have e0' := M5.at_.row.cell 0 _ rfl
          have d2' := (lst_at M5.at_.lst).1 2 _ rfl
          have d4' := (lst_at M5.at_.lst).1 4 _ rfl
          have f4' := (lst_at M5.at_.lst).2.1 (m * 6 + 4)
          rw [HMA.out] at e0' d2' d4' f4'
          have M54 := (M5.trans M4).drewN 1
          rw [HMA.out] at M54
          have HM := hid2 M54
          have HRM := hid2 (M54.box HD1.out HR1.out ⟨by decide, by decide, by decide⟩)
          clear M5 M4 M54
          simp only [ho, Bool.not_false]
          go_upto_region 10 with fail
          refine wp_region_last (S := fun W => W.cell? ⟨r, 0, none⟩ = some (.int .i64 q) ∧ W.cell? ⟨g, m * 6 + 2, none⟩ = some (.int .i64 x.shr)) (N := 14) (by kernel_rfl) (by kernel_rfl) fun hNW => ?_
          have hHeld := (show (fun W => W.cell? ⟨r, 0, none⟩ = some (.int .i64 q) ∧ W.cell? ⟨g, m * 6 + 2, none⟩ = some (.int .i64 x.shr)) (w2.setCell ⟨g, m * 6 + 5, none⟩ (.bool true)).drew from ⟨e0', d2'⟩)
          refine wpAnyF_take (i := 0) (oi := { dst := some 47, op := Go.Op.move (Go.Operand.tmp 7), type := 79, pos := "ref.go:127", after := #[], guard := none }) (v := ?v51_0) hNW (by decide) rfl (by kernel_rfl) (by kernel_rfl) (by kernel_rfl) (by kernel_rfl) (fun _ _ _ h => h) (Or.inl ⟨by kernel_rfl, ?h51_0⟩) (by assumption) ?r51_0
          case h51_0 => (intro wt hSw; (try dsimp only at hSw); go_simp; try with_reducible rfl)
          simp only [Act.put, List.setIfInBounds_toArray, List.set_cons_zero, List.set_cons_succ]
          refine wpAnyF_take (i := 1) (oi := { dst := some 48, op := Go.Op.move (Go.Operand.tmp 0), type := 47, pos := "ref.go:127", after := #[], guard := none }) (v := ?v51_1) hNW (by decide) rfl (by kernel_rfl) (by kernel_rfl) (by kernel_rfl) (by kernel_rfl) (fun _ _ _ h => h) (Or.inl ⟨by kernel_rfl, ?h51_1⟩) (by assumption) ?r51_1
          case h51_1 => (intro wt hSw; (try dsimp only at hSw); go_simp; try with_reducible rfl)
          simp only [Act.put, List.setIfInBounds_toArray, List.set_cons_zero, List.set_cons_succ]
          refine wpAnyF_take (i := 2) (oi := { dst := some 49, op := Go.Op.nilCheck (Go.Operand.tmp 48), type := 0, pos := "ref.go:127", after := #[{ on := 1, ground := Go.Ground.data }], guard := none }) (v := ?v51_2) hNW (by decide) rfl (by kernel_rfl) (by kernel_rfl) (by kernel_rfl) (by kernel_rfl) (fun _ _ _ h => h) (Or.inl ⟨by kernel_rfl, ?h51_2⟩) (by assumption) ?r51_2
          case h51_2 => (intro wt hSw; (try dsimp only at hSw); go_simp; try with_reducible rfl)
          simp only [Act.put, List.setIfInBounds_toArray, List.set_cons_zero, List.set_cons_succ]
          refine wpAnyF_take (i := 3) (oi := { dst := some 50, op := Go.Op.fieldAddr 66 (Go.Operand.tmp 49) 0, type := 0, pos := "ref.go:127", after := #[{ on := 2, ground := Go.Ground.data }], guard := none }) (v := ?v51_3) hNW (by decide) rfl (by kernel_rfl) (by kernel_rfl) (by kernel_rfl) (by kernel_rfl) (fun _ _ _ h => h) (Or.inl ⟨by kernel_rfl, ?h51_3⟩) (by assumption) ?r51_3
          case h51_3 => (intro wt hSw; (try dsimp only at hSw); go_simp; try with_reducible rfl)
          simp only [Act.put, List.setIfInBounds_toArray, List.set_cons_zero, List.set_cons_succ]
          refine wpAnyF_take (i := 4) (oi := { dst := some 51, op := Go.Op.load 3 (Go.Operand.tmp 50), type := 3, pos := "ref.go:127", after := #[{ on := 3, ground := Go.Ground.data }], guard := none }) (v := ?v51_4) hNW (by decide) rfl (by kernel_rfl) (by kernel_rfl) (by kernel_rfl) (by kernel_rfl) (fun _ _ _ h => h) (Or.inl ⟨by kernel_rfl, ?h51_4⟩) (by assumption) ?r51_4
          case h51_4 => (intro wt hSw; (try dsimp only at hSw); go_simp; try with_reducible rfl)
          simp only [Act.put, List.setIfInBounds_toArray, List.set_cons_zero, List.set_cons_succ]
          refine wpAnyF_take (i := 5) (oi := { dst := some 52, op := Go.Op.move (Go.Operand.tmp 7), type := 79, pos := "ref.go:127", after := #[], guard := none }) (v := ?v51_5) hNW (by decide) rfl (by kernel_rfl) (by kernel_rfl) (by kernel_rfl) (by kernel_rfl) (fun _ _ _ h => h) (Or.inl ⟨by kernel_rfl, ?h51_5⟩) (by assumption) ?r51_5
          case h51_5 => (intro wt hSw; (try dsimp only at hSw); go_simp; try with_reducible rfl)
          simp only [Act.put, List.setIfInBounds_toArray, List.set_cons_zero, List.set_cons_succ]
          refine wpAnyF_take (i := 6) (oi := { dst := some 53, op := Go.Op.nilCheck (Go.Operand.tmp 52), type := 0, pos := "ref.go:127", after := #[{ on := 5, ground := Go.Ground.data }], guard := none }) (v := ?v51_6) hNW (by decide) rfl (by kernel_rfl) (by kernel_rfl) (by kernel_rfl) (by kernel_rfl) (fun _ _ _ h => h) (Or.inl ⟨by kernel_rfl, ?h51_6⟩) (by assumption) ?r51_6
          case h51_6 => (intro wt hSw; (try dsimp only at hSw); go_simp; try with_reducible rfl)
          simp only [Act.put, List.setIfInBounds_toArray, List.set_cons_zero, List.set_cons_succ]
          refine wpAnyF_take (i := 7) (oi := { dst := some 54, op := Go.Op.fieldAddr 71 (Go.Operand.tmp 53) 0, type := 0, pos := "ref.go:127", after := #[{ on := 6, ground := Go.Ground.data }], guard := none }) (v := ?v51_7) hNW (by decide) rfl (by kernel_rfl) (by kernel_rfl) (by kernel_rfl) (by kernel_rfl) (fun _ _ _ h => h) (Or.inl ⟨by kernel_rfl, ?h51_7⟩) (by assumption) ?r51_7
          case h51_7 => (intro wt hSw; (try dsimp only at hSw); go_simp; try with_reducible rfl)
          simp only [Act.put, List.setIfInBounds_toArray, List.set_cons_zero, List.set_cons_succ]
          refine wpAnyF_take (i := 8) (oi := { dst := some 55, op := Go.Op.fieldAddr 44 (Go.Operand.tmp 54) 2, type := 0, pos := "ref.go:127", after := #[{ on := 7, ground := Go.Ground.data }], guard := none }) (v := ?v51_8) hNW (by decide) rfl (by kernel_rfl) (by kernel_rfl) (by kernel_rfl) (by kernel_rfl) (fun _ _ _ h => h) (Or.inl ⟨by kernel_rfl, ?h51_8⟩) (by assumption) ?r51_8
          case h51_8 => (intro wt hSw; (try dsimp only at hSw); go_simp; try with_reducible rfl)
          simp only [Act.put, List.setIfInBounds_toArray, List.set_cons_zero, List.set_cons_succ]
          refine wpAnyF_take (i := 9) (oi := { dst := some 56, op := Go.Op.load 3 (Go.Operand.tmp 55), type := 3, pos := "ref.go:127", after := #[{ on := 8, ground := Go.Ground.data }], guard := none }) (v := ?v51_9) hNW (by decide) rfl (by kernel_rfl) (by kernel_rfl) (by kernel_rfl) (by kernel_rfl) (fun _ _ _ h => h) (Or.inl ⟨by kernel_rfl, ?h51_9⟩) (by assumption) ?r51_9
          case h51_9 => (intro wt hSw; (try dsimp only at hSw); go_simp; try with_reducible rfl)
          simp only [Act.put, List.setIfInBounds_toArray, List.set_cons_zero, List.set_cons_succ]
          refine wpAnyF_take (i := 10) (oi := { dst := some 57, op := Go.Op.binOp Go.BinOp.mul 3 (Go.Operand.tmp 51) (Go.Operand.tmp 56) 3, type := 3, pos := "ref.go:127", after := #[{ on := 4, ground := Go.Ground.data }, { on := 9, ground := Go.Ground.data }], guard := none }) (v := .int .i64 C) hNW (by decide) rfl (by kernel_rfl) (by kernel_rfl) (by kernel_rfl) (by kernel_rfl) (fun _ _ _ h => h) (Or.inl ⟨by kernel_rfl, ?h51_10⟩) (by assumption) ?r51_10
          case h51_10 => (intro wt hSw; (try dsimp only at hSw); go_simp; try simp only [hCe, hCw])
          simp only [Act.put, List.setIfInBounds_toArray, List.set_cons_zero, List.set_cons_succ]
          refine wpAnyF_take (i := 11) (oi := { dst := some 58, op := Go.Op.nilCheck (Go.Operand.tmp 47), type := 0, pos := "ref.go:127", after := #[{ on := 0, ground := Go.Ground.data }, { on := 0, ground := Go.Ground.phase }, { on := 1, ground := Go.Ground.phase }, { on := 2, ground := Go.Ground.phase }, { on := 3, ground := Go.Ground.phase }, { on := 4, ground := Go.Ground.phase }, { on := 5, ground := Go.Ground.phase }, { on := 6, ground := Go.Ground.phase }, { on := 7, ground := Go.Ground.phase }, { on := 8, ground := Go.Ground.phase }, { on := 9, ground := Go.Ground.phase }, { on := 10, ground := Go.Ground.phase }], guard := none }) (v := ?v51_11) hNW (by decide) rfl (by kernel_rfl) (by kernel_rfl) (by kernel_rfl) (by kernel_rfl) (fun _ _ _ h => h) (Or.inl ⟨by kernel_rfl, ?h51_11⟩) (by assumption) ?r51_11
          case h51_11 => (intro wt hSw; (try dsimp only at hSw); go_simp; try with_reducible rfl)
          simp only [Act.put, List.setIfInBounds_toArray, List.set_cons_zero, List.set_cons_succ]
          refine wpAnyF_take (i := 12) (oi := { dst := some 59, op := Go.Op.fieldAddr 71 (Go.Operand.tmp 58) 0, type := 0, pos := "ref.go:127", after := #[{ on := 11, ground := Go.Ground.data }, { on := 0, ground := Go.Ground.phase }, { on := 1, ground := Go.Ground.phase }, { on := 2, ground := Go.Ground.phase }, { on := 3, ground := Go.Ground.phase }, { on := 4, ground := Go.Ground.phase }, { on := 5, ground := Go.Ground.phase }, { on := 6, ground := Go.Ground.phase }, { on := 7, ground := Go.Ground.phase }, { on := 8, ground := Go.Ground.phase }, { on := 9, ground := Go.Ground.phase }, { on := 10, ground := Go.Ground.phase }], guard := none }) (v := ?v51_12) hNW (by decide) rfl (by kernel_rfl) (by kernel_rfl) (by kernel_rfl) (by kernel_rfl) (fun _ _ _ h => h) (Or.inl ⟨by kernel_rfl, ?h51_12⟩) (by assumption) ?r51_12
          case h51_12 => (intro wt hSw; (try dsimp only at hSw); go_simp; try with_reducible rfl)
          simp only [Act.put, List.setIfInBounds_toArray, List.set_cons_zero, List.set_cons_succ]
          refine wpAnyF_take (i := 13) (oi := { dst := some 60, op := Go.Op.fieldAddr 44 (Go.Operand.tmp 59) 4, type := 0, pos := "ref.go:127", after := #[{ on := 12, ground := Go.Ground.data }, { on := 0, ground := Go.Ground.phase }, { on := 1, ground := Go.Ground.phase }, { on := 2, ground := Go.Ground.phase }, { on := 3, ground := Go.Ground.phase }, { on := 4, ground := Go.Ground.phase }, { on := 5, ground := Go.Ground.phase }, { on := 6, ground := Go.Ground.phase }, { on := 7, ground := Go.Ground.phase }, { on := 8, ground := Go.Ground.phase }, { on := 9, ground := Go.Ground.phase }, { on := 10, ground := Go.Ground.phase }], guard := none }) (v := ?v51_13) hNW (by decide) rfl (by kernel_rfl) (by kernel_rfl) (by kernel_rfl) (by kernel_rfl) (fun _ _ _ h => h) (Or.inl ⟨by kernel_rfl, ?h51_13⟩) (by assumption) ?r51_13
          case h51_13 => (intro wt hSw; (try dsimp only at hSw); go_simp; try with_reducible rfl)
          simp only [Act.put, List.setIfInBounds_toArray, List.set_cons_zero, List.set_cons_succ]
          refine wpAnyF_one (i := 14) (o := { dst := none, op := Go.Op.store 3 (Go.Operand.tmp 60) (Go.Operand.tmp 57), type := 0, pos := "ref.go:127", after := #[{ on := 13, ground := Go.Ground.data }, { on := 10, ground := Go.Ground.data }, { on := 0, ground := Go.Ground.phase }, { on := 1, ground := Go.Ground.phase }, { on := 2, ground := Go.Ground.phase }, { on := 3, ground := Go.Ground.phase }, { on := 4, ground := Go.Ground.phase }, { on := 5, ground := Go.Ground.phase }, { on := 6, ground := Go.Ground.phase }, { on := 7, ground := Go.Ground.phase }, { on := 8, ground := Go.Ground.phase }, { on := 9, ground := Go.Ground.phase }, { on := 10, ground := Go.Ground.phase }], guard := none }) rfl rfl (by kernel_rfl) ?_
          refine step_store3 (b := g) (k := m * 6 + 4) (z := C) rfl rfl rfl d4' f4' ?_
          refine ⟨fun h => absurd rfl h, ?_⟩
          simp only [Act.put]
          refine wpAnyF_done (by kernel_rfl) ?_ _
          clear hNW hHeld e0' d2' d4' f4'
          go_wp2
          go_meet
          exact ⟨HM.out, HRM.out⟩
        · have ho : x.on = true := by rw [HON.out]; simpa using hcz
          have hCe : C = x.cr := by rw [HC.out, if_neg hcz]
          have hx : ({ x with cr := C, on := true } : Sm) = x := by rw [hCe, ← ho]
          rw [ho] at d5
          have HX := hid2 hx
          clear hCe hx
          simp only [ho, Bool.not_true]
          go_wp2_with fail
          go_meet
          exact ⟨by rw [HX.out]; exact RMv.refl HD1.out, HR1.out⟩
      case rest =>
        obtain ⟨M2, R2⟩ := hcut
        clear d2 d4 d5 f4 f5 e0
        obtain ⟨hcD, hfD, -, -⟩ := lst_at M2.at_.lst
        rw [HMA.out] at hcD
        have d3 : wc.cell? ⟨g, m * 6 + 3, none⟩ = some (.int .i64 x.wt) := hcD 3 _ rfl
        have df3 := hfD (m * 6 + 3)
        have d4 : wc.cell? ⟨g, m * 6 + 4, none⟩ = some (.int .i64 C) := hcD 4 _ rfl
        have df4 := hfD (m * 6 + 4)
        clear hcD hfD
        have HM2 := hid2 M2
        clear M2 R2
        obtain ⟨n1, hn1⟩ : ∃ n1, n1 = min most x.wt := ⟨_, rfl⟩
        have HN1 := hid2 hn1
        clear hn1
        go_upto_if 68 with fail
        refine wp_world ?_
        intro w3 hw3
        rw [← hw3.out] at HM2 d3 df3 d4 df4
        go_cut [8] from 12 to 176 (fun s8 wd => s8 = .int .i64 n1 ∧ w3 = wd)
        case first =>
          as_aux_lemma =>
            by_cases hlt : x.wt < most
            · go_wp2_with fail
              go_meet
              exact ⟨by rw [HN1.out, Int.min_eq_right (by omega)], rfl⟩
            · go_wp2_with fail
              go_meet
              exact ⟨by rw [HN1.out, Int.min_eq_left (by omega)], rfl⟩
        case rest =>
          obtain ⟨rfl, rfl⟩ := hcut
          go_upto_if 80 with fail
          go_cut [8] from 12 to 176 (fun s8 wd => s8 = .int .i64 N ∧ w3 = wd)
          case first =>
            as_aux_lemma =>
              by_cases hlt : C < n1
              · go_wp2_with fail
                go_meet
                exact ⟨by rw [HTK.out, ← HN1.out, Int.min_eq_right (by omega)], rfl⟩
              · go_wp2_with fail
                go_meet
                exact ⟨by rw [HTK.out, ← HN1.out, Int.min_eq_left (by omega)], rfl⟩
          case rest =>
          obtain ⟨rfl, rfl⟩ := hcut
          have s1 : IntKind.i64.wrap (x.wt - N) = x.wt - N := by rw [IntKind.wrap_i64]; omega
          have s2 : IntKind.i64.wrap (C - N) = C - N := by rw [IntKind.wrap_i64]; omega
          go_upto_region 17 with fail
          refine wp_world ?_
          intro w4 hw4
          have M4 : RMv r (.slice (some ⟨g, 0, none⟩) (A ++ x :: B).length cap) V w2 (.slice (some ⟨g, 0, none⟩) (A ++ x :: B).length cap) V q (A ++ ({ x with wt := x.wt - N, cr := C, on := true } : Sm) :: B) R w4 := by
            rw [hw4.out]
            have e := HM2.out.trans (HM2.out.at_.cell (A := A) (x := { x with cr := C, on := true }) (y := { x with wt := x.wt - N, cr := C, on := true }) (j := 3) (v := .int .i64 (x.wt - N)) (by decide) rfl)
            rw [HMA.out] at e
            exact e
          clear d3 df3 d4 df4
          obtain ⟨hcD, hfD, -, -⟩ := lst_at M4.at_.lst
          rw [HMA.out] at hcD
          have d4 : w4.cell? ⟨g, m * 6 + 4, none⟩ = some (.int .i64 C) := hcD 4 _ rfl
          have df4 := hfD (m * 6 + 4)
          clear hcD hfD
          have HM4 := hid2 M4
          clear M4 hw4 HM2
          go_upto_region 18 with fail
          refine wp_world ?_
          intro w5 hw5
          have M5 : RMv r (.slice (some ⟨g, 0, none⟩) (A ++ x :: B).length cap) V w2 (.slice (some ⟨g, 0, none⟩) (A ++ x :: B).length cap) V q (A ++ ({ x with wt := x.wt - N, cr := C - N, on := true } : Sm) :: B) R w5 := by
            rw [hw5.out]
            have e := HM4.out.trans (HM4.out.at_.cell (A := A) (x := { x with wt := x.wt - N, cr := C, on := true }) (y := { x with wt := x.wt - N, cr := C - N, on := true }) (j := 4) (v := .int .i64 (C - N)) (by decide) rfl)
            rw [HMA.out] at e
            exact e
          clear d4 df4
          obtain ⟨hcD, hfD, -, -⟩ := lst_at M5.at_.lst
          rw [HMA.out] at hcD
          have d3 : w5.cell? ⟨g, m * 6 + 3, none⟩ = some (.int .i64 (x.wt - N)) := hcD 3 _ rfl
          have df3 := hfD (m * 6 + 3)
          have d4 : w5.cell? ⟨g, m * 6 + 4, none⟩ = some (.int .i64 (C - N)) := hcD 4 _ rfl
          have df4 := hfD (m * 6 + 4)
          have d0 : w5.cell? ⟨g, m * 6, none⟩ = some (.int .u64 x.num) := hcD 0 _ rfl
          have df0 := hfD (m * 6 + 0)
          clear hcD hfD
          have HM5 := hid2 M5
          have HR5 := hid2 (M5.box HD1.out HR1.out ⟨by decide, by decide, by decide⟩)
          clear M5 hw5 HM4 s1 s2
          go_cut [121] from 12 to 176 (fun s wd => s = .bool O ∧ w5 = wd)
          case first =>
            as_aux_lemma =>
              by_cases hz : x.wt - N = 0
              · have hzb : (x.wt - N == 0) = true := by simpa using hz
                go_wp2_with fail
                go_meet
                exact ⟨by rw [HOV.out]; simp [hz], rfl⟩
              · have hzb : (x.wt - N == 0) = false := by simpa using hz
                by_cases hy : C - N = 0
                · have hyb : (C - N == 0) = true := by simpa using hy
                  go_wp2_with fail
                  go_meet
                  exact ⟨by rw [HOV.out]; simp [hy], rfl⟩
                · have hyb : (C - N == 0) = false := by simpa using hy
                  go_wp2_with fail
                  go_meet
                  exact ⟨by rw [HOV.out]; simp [hz, hy], rfl⟩
          case rest =>
          obtain ⟨rfl, rfl⟩ := hcut
          go_upto_if 121 with fail
          go_cut [] from 12 to 176 (fun wd => ∃ V', RMv r (.slice (some ⟨g, 0, none⟩) (A ++ x :: B).length cap) V w2 (.slice (some ⟨g, 0, none⟩) (A ++ x :: B).length cap) V' q (A ++ Y :: B) R' wd ∧ Row wd w.heap.size [.int .u64 0, .int .i64 0] 31)
          case first =>
            as_aux_lemma =>
              cases O with
              | false =>
                go_wp2_with fail
                go_meet
                exact ⟨V, by rw [HNX.out, HNR.out]; exact HM5.out, HR5.out⟩
              | true =>
              have M5D := hid2 (HM5.out.drewN 1)
              have R5D := hid2 (HR5.out.drew 1)
              have p2 := HM5.out.at_.row.cell _ _ (rcells_get q _ V HC8.out)
              rw [HVR.out] at p2
              have hO5 := out_any (M5D.out.at_.own _ HC8.out) (by rw [HEQ.out]; simp only [List.length_cons]; have := HLT.out; omega) x.num
              rw [HVR.out] at hO5
              have HOUT := hid2 hO5
              clear hO5 d3 df3 d4 df4
              have p0 := d0
              clear d0 df0
              go_upto_region 19 with fail
              refine wp_region_last (S := fun w' => w'.cell? ⟨r, 2 + x.cls, none⟩ = some (.slice (some ⟨gR, 0, none⟩) (T.length + 1) capR) ∧ w'.cell? ⟨g, m * 6, none⟩ = some (.int .u64 x.num)) (N := 17) (by kernel_rfl) (by kernel_rfl) fun hNW => ?_
              have hHeld := (show (fun w' => w'.cell? ⟨r, 2 + x.cls, none⟩ = some (.slice (some ⟨gR, 0, none⟩) (T.length + 1) capR) ∧ w'.cell? ⟨g, m * 6, none⟩ = some (.int .u64 x.num)) w5.drew from ⟨p2, p0⟩)
              refine wpAnyF_take (i := 0) (oi := { dst := some 122, op := Go.Op.move (Go.Operand.tmp 0), type := 47, pos := "ref.go:139", after := #[], guard := none }) (v := ?v1_0) hNW (by decide) rfl (by kernel_rfl) (by kernel_rfl) (by kernel_rfl) (by kernel_rfl) (fun _ _ _ h => h) (Or.inl ⟨by kernel_rfl, ?h1_0⟩) (by assumption) ?r1_0
              case h1_0 => (intro wt hSw; (try dsimp only at hSw); go_simp; try with_reducible rfl)
              simp only [Act.put, List.setIfInBounds_toArray, List.set_cons_zero, List.set_cons_succ]
              refine wpAnyF_take (i := 1) (oi := { dst := some 123, op := Go.Op.move (Go.Operand.tmp 6), type := 3, pos := "ref.go:139", after := #[], guard := none }) (v := ?v1_1) hNW (by decide) rfl (by kernel_rfl) (by kernel_rfl) (by kernel_rfl) (by kernel_rfl) (fun _ _ _ h => h) (Or.inl ⟨by kernel_rfl, ?h1_1⟩) (by assumption) ?r1_1
              case h1_1 => (intro wt hSw; (try dsimp only at hSw); go_simp; try with_reducible rfl)
              simp only [Act.put, List.setIfInBounds_toArray, List.set_cons_zero, List.set_cons_succ]
              refine wpAnyF_take (i := 2) (oi := { dst := some 124, op := Go.Op.move (Go.Operand.tmp 0), type := 47, pos := "ref.go:139", after := #[], guard := none }) (v := ?v1_2) hNW (by decide) rfl (by kernel_rfl) (by kernel_rfl) (by kernel_rfl) (by kernel_rfl) (fun _ _ _ h => h) (Or.inl ⟨by kernel_rfl, ?h1_2⟩) (by assumption) ?r1_2
              case h1_2 => (intro wt hSw; (try dsimp only at hSw); go_simp; try with_reducible rfl)
              simp only [Act.put, List.setIfInBounds_toArray, List.set_cons_zero, List.set_cons_succ]
              refine wpAnyF_take (i := 3) (oi := { dst := some 125, op := Go.Op.move (Go.Operand.tmp 6), type := 3, pos := "ref.go:139", after := #[], guard := none }) (v := ?v1_3) hNW (by decide) rfl (by kernel_rfl) (by kernel_rfl) (by kernel_rfl) (by kernel_rfl) (fun _ _ _ h => h) (Or.inl ⟨by kernel_rfl, ?h1_3⟩) (by assumption) ?r1_3
              case h1_3 => (intro wt hSw; (try dsimp only at hSw); go_simp; try with_reducible rfl)
              simp only [Act.put, List.setIfInBounds_toArray, List.set_cons_zero, List.set_cons_succ]
              refine wpAnyF_take (i := 4) (oi := { dst := some 126, op := Go.Op.nilCheck (Go.Operand.tmp 124), type := 0, pos := "ref.go:139", after := #[{ on := 2, ground := Go.Ground.data }], guard := none }) (v := ?v1_4) hNW (by decide) rfl (by kernel_rfl) (by kernel_rfl) (by kernel_rfl) (by kernel_rfl) (fun _ _ _ h => h) (Or.inl ⟨by kernel_rfl, ?h1_4⟩) (by assumption) ?r1_4
              case h1_4 => (intro wt hSw; (try dsimp only at hSw); go_simp; try with_reducible rfl)
              simp only [Act.put, List.setIfInBounds_toArray, List.set_cons_zero, List.set_cons_succ]
              refine wpAnyF_take (i := 5) (oi := { dst := some 127, op := Go.Op.fieldAddr 66 (Go.Operand.tmp 126) 2, type := 0, pos := "ref.go:139", after := #[{ on := 4, ground := Go.Ground.data }], guard := none }) (v := ?v1_5) hNW (by decide) rfl (by kernel_rfl) (by kernel_rfl) (by kernel_rfl) (by kernel_rfl) (fun _ _ _ h => h) (Or.inl ⟨by kernel_rfl, ?h1_5⟩) (by assumption) ?r1_5
              case h1_5 => (intro wt hSw; (try dsimp only at hSw); go_simp; try with_reducible rfl)
              simp only [Act.put, List.setIfInBounds_toArray, List.set_cons_zero, List.set_cons_succ]
              refine wpAnyF_take (i := 6) (oi := { dst := some 128, op := Go.Op.indexAddr 55 (Go.Operand.tmp 127) (Go.Operand.tmp 125), type := 0, pos := "ref.go:139", after := #[{ on := 5, ground := Go.Ground.data }, { on := 3, ground := Go.Ground.data }], guard := none }) (v := ?v1_6) hNW (by decide) rfl (by kernel_rfl) (by kernel_rfl) (by kernel_rfl) (by kernel_rfl) (fun _ _ _ h => h) (Or.inl ⟨by kernel_rfl, ?h1_6⟩) (by assumption) ?r1_6
              case h1_6 => (intro wt hSw; (try dsimp only at hSw); go_simp; try with_reducible rfl)
              simp only [Act.put, List.setIfInBounds_toArray, List.set_cons_zero, List.set_cons_succ]
              refine wpAnyF_take (i := 7) (oi := { dst := some 129, op := Go.Op.load 54 (Go.Operand.tmp 128), type := 54, pos := "ref.go:139", after := #[{ on := 6, ground := Go.Ground.data }], guard := none }) (v := ?v1_7) hNW (by decide) rfl (by kernel_rfl) (by kernel_rfl) (by kernel_rfl) (by kernel_rfl) (fun _ _ _ h => h) (Or.inl ⟨by kernel_rfl, ?h1_7⟩) (by assumption) ?r1_7
              case h1_7 => (intro wt hSw; (try dsimp only at hSw); go_simp; try with_reducible rfl)
              simp only [Act.put, List.setIfInBounds_toArray, List.set_cons_zero, List.set_cons_succ]
              refine wpAnyF_take (i := 8) (oi := { dst := some 130, op := Go.Op.move (Go.Operand.tmp 7), type := 79, pos := "ref.go:139", after := #[], guard := none }) (v := ?v1_8) hNW (by decide) rfl (by kernel_rfl) (by kernel_rfl) (by kernel_rfl) (by kernel_rfl) (fun _ _ _ h => h) (Or.inl ⟨by kernel_rfl, ?h1_8⟩) (by assumption) ?r1_8
              case h1_8 => (intro wt hSw; (try dsimp only at hSw); go_simp; try with_reducible rfl)
              simp only [Act.put, List.setIfInBounds_toArray, List.set_cons_zero, List.set_cons_succ]
              refine wpAnyF_take (i := 9) (oi := { dst := some 131, op := Go.Op.nilCheck (Go.Operand.tmp 130), type := 0, pos := "ref.go:139", after := #[{ on := 8, ground := Go.Ground.data }], guard := none }) (v := ?v1_9) hNW (by decide) rfl (by kernel_rfl) (by kernel_rfl) (by kernel_rfl) (by kernel_rfl) (fun _ _ _ h => h) (Or.inl ⟨by kernel_rfl, ?h1_9⟩) (by assumption) ?r1_9
              case h1_9 => (intro wt hSw; (try dsimp only at hSw); go_simp; try with_reducible rfl)
              simp only [Act.put, List.setIfInBounds_toArray, List.set_cons_zero, List.set_cons_succ]
              refine wpAnyF_take (i := 10) (oi := { dst := some 132, op := Go.Op.fieldAddr 71 (Go.Operand.tmp 131) 0, type := 0, pos := "ref.go:139", after := #[{ on := 9, ground := Go.Ground.data }], guard := none }) (v := ?v1_10) hNW (by decide) rfl (by kernel_rfl) (by kernel_rfl) (by kernel_rfl) (by kernel_rfl) (fun _ _ _ h => h) (Or.inl ⟨by kernel_rfl, ?h1_10⟩) (by assumption) ?r1_10
              case h1_10 => (intro wt hSw; (try dsimp only at hSw); go_simp; try with_reducible rfl)
              simp only [Act.put, List.setIfInBounds_toArray, List.set_cons_zero, List.set_cons_succ]
              refine wpAnyF_take (i := 11) (oi := { dst := some 133, op := Go.Op.fieldAddr 44 (Go.Operand.tmp 132) 0, type := 0, pos := "ref.go:139", after := #[{ on := 10, ground := Go.Ground.data }], guard := none }) (v := ?v1_11) hNW (by decide) rfl (by kernel_rfl) (by kernel_rfl) (by kernel_rfl) (by kernel_rfl) (fun _ _ _ h => h) (Or.inl ⟨by kernel_rfl, ?h1_11⟩) (by assumption) ?r1_11
              case h1_11 => (intro wt hSw; (try dsimp only at hSw); go_simp; try with_reducible rfl)
              simp only [Act.put, List.setIfInBounds_toArray, List.set_cons_zero, List.set_cons_succ]
              refine wpAnyF_take (i := 12) (oi := { dst := some 134, op := Go.Op.load 26 (Go.Operand.tmp 133), type := 26, pos := "ref.go:139", after := #[{ on := 11, ground := Go.Ground.data }], guard := none }) (v := ?v1_12) hNW (by decide) rfl (by kernel_rfl) (by kernel_rfl) (by kernel_rfl) (by kernel_rfl) (fun _ _ _ h => h) (Or.inl ⟨by kernel_rfl, ?h1_12⟩) (by assumption) ?r1_12
              case h1_12 => (intro wt hSw; (try dsimp only at hSw); go_simp; try with_reducible rfl)
              simp only [Act.put, List.setIfInBounds_toArray, List.set_cons_zero, List.set_cons_succ]
              refine wpAnyF_take (i := 14) (oi := { dst := some 136, op := Go.Op.nilCheck (Go.Operand.tmp 122), type := 0, pos := "ref.go:139", after := #[{ on := 0, ground := Go.Ground.data }], guard := none }) (v := ?v1_14) hNW (by decide) rfl (by kernel_rfl) (by kernel_rfl) (by kernel_rfl) (by kernel_rfl) (fun _ _ _ h => h) (Or.inl ⟨by kernel_rfl, ?h1_14⟩) (by assumption) ?r1_14
              case h1_14 => (intro wt hSw; (try dsimp only at hSw); go_simp; try with_reducible rfl)
              simp only [Act.put, List.setIfInBounds_toArray, List.set_cons_zero, List.set_cons_succ]
              refine wpAnyF_take (i := 15) (oi := { dst := some 137, op := Go.Op.fieldAddr 66 (Go.Operand.tmp 136) 2, type := 0, pos := "ref.go:139", after := #[{ on := 14, ground := Go.Ground.data }], guard := none }) (v := ?v1_15) hNW (by decide) rfl (by kernel_rfl) (by kernel_rfl) (by kernel_rfl) (by kernel_rfl) (fun _ _ _ h => h) (Or.inl ⟨by kernel_rfl, ?h1_15⟩) (by assumption) ?r1_15
              case h1_15 => (intro wt hSw; (try dsimp only at hSw); go_simp; try with_reducible rfl)
              simp only [Act.put, List.setIfInBounds_toArray, List.set_cons_zero, List.set_cons_succ]
              refine wpAnyF_one (i := 13) (o := { dst := some 135, op := Go.Op.call { callee := Go.Callee.value (Go.Operand.func 37), args := #[Go.Operand.tmp 129, Go.Operand.tmp 134], argTypes := #[54, 26] }, type := 54, pos := "ref.go:139", after := #[{ on := 7, ground := Go.Ground.data }, { on := 12, ground := Go.Ground.data }], guard := none }) rfl rfl (by kernel_rfl) ?_
              refine step_callx (f := 37) (args := #[.slice (some ⟨gR, 0, none⟩) (T.length + 1) capR, .int .u64 x.num]) (by first | kernel_rfl | go_simp) HOUT.out ?_
              rintro v' w6 ⟨ho, hb6⟩
              rw [HEQ.out, outL_head HTN.out] at ho
              have hA6 := (M5D.out.at_).below hb6
              have k2 := hA6.row.cell _ _ (rcells_get q _ V HC8.out)
              have fb := hA6.row.frozen (2 + x.cls)
              rw [HVR.out] at k2
              have k3 : w6.cell? ⟨g, m * 6, none⟩ = some (.int .u64 x.num) := by have := (lst_at hA6.lst).1 0 _ rfl; rwa [HMA.out] at this
              have ho0 : OwnN w6 v' T := own_zero ho
              have M6 := M5D.out.at_.put HC8.out (Fr.of_below hb6 (Nat.le_refl _)) ho0 (fun g e => .inr (own_new ho e))
              have HR6 := hid2 (M6.box M5D.out.at_ R5D.out ⟨by decide, by decide, by decide⟩)
              have HM6 := hid2 (M5D.out.trans M6)
              clear hA6 hb6 ho M6
              obtain ⟨a', cap', hv', -⟩ := own_slice ho0
              subst hv'
              clear ho0
              refine ⟨fun _ => ⟨k2, k3⟩, ?_⟩
              simp only [Act.put, List.setIfInBounds_toArray, List.set_cons_zero, List.set_cons_succ]
              have hHeld2 := (show (fun w' => w'.cell? ⟨r, 2 + x.cls, none⟩ = some (.slice (some ⟨gR, 0, none⟩) (T.length + 1) capR) ∧ w'.cell? ⟨g, m * 6, none⟩ = some (.int .u64 x.num)) w6 from ⟨k2, k3⟩)
              refine wpAnyF_take (i := 16) (oi := { dst := some 138, op := Go.Op.indexAddr 55 (Go.Operand.tmp 137) (Go.Operand.tmp 123), type := 0, pos := "ref.go:139", after := #[{ on := 15, ground := Go.Ground.data }, { on := 1, ground := Go.Ground.data }, { on := 0, ground := Go.Ground.phase }, { on := 1, ground := Go.Ground.phase }, { on := 2, ground := Go.Ground.phase }, { on := 3, ground := Go.Ground.phase }, { on := 4, ground := Go.Ground.phase }, { on := 5, ground := Go.Ground.phase }, { on := 6, ground := Go.Ground.phase }, { on := 7, ground := Go.Ground.phase }, { on := 8, ground := Go.Ground.phase }, { on := 9, ground := Go.Ground.phase }, { on := 10, ground := Go.Ground.phase }, { on := 11, ground := Go.Ground.phase }, { on := 12, ground := Go.Ground.phase }, { on := 13, ground := Go.Ground.phase }], guard := none }) (v := ?v1_16) hNW (by decide) rfl (by kernel_rfl) (by kernel_rfl) (by kernel_rfl) (by kernel_rfl) (fun _ _ _ h => h) (Or.inl ⟨by kernel_rfl, ?h1_16⟩) (by assumption) ?r1_16
              case h1_16 => (intro wt hSw; (try dsimp only at hSw); go_simp; try with_reducible rfl)
              simp only [Act.put, List.setIfInBounds_toArray, List.set_cons_zero, List.set_cons_succ]
              refine wpAnyF_one (i := 17) (o := { dst := none, op := Go.Op.store 54 (Go.Operand.tmp 138) (Go.Operand.tmp 135), type := 0, pos := "ref.go:139", after := #[{ on := 16, ground := Go.Ground.data }, { on := 13, ground := Go.Ground.data }, { on := 13, ground := Go.Ground.chain }, { on := 0, ground := Go.Ground.phase }, { on := 1, ground := Go.Ground.phase }, { on := 2, ground := Go.Ground.phase }, { on := 3, ground := Go.Ground.phase }, { on := 4, ground := Go.Ground.phase }, { on := 5, ground := Go.Ground.phase }, { on := 6, ground := Go.Ground.phase }, { on := 7, ground := Go.Ground.phase }, { on := 8, ground := Go.Ground.phase }, { on := 9, ground := Go.Ground.phase }, { on := 10, ground := Go.Ground.phase }, { on := 11, ground := Go.Ground.phase }, { on := 12, ground := Go.Ground.phase }, { on := 13, ground := Go.Ground.phase }], guard := none }) rfl rfl (by kernel_rfl) ?_
              refine step_store54 (b := r) (k := 2 + x.cls) (av := a') (n := T.length) (c := cap') rfl rfl rfl k2 fb ?_
              refine ⟨fun h => absurd rfl h, ?_⟩
              simp only [Act.put]
              refine wpAnyF_done (by kernel_rfl) ?_ _
              clear hNW hHeld hHeld2 k2 k3 fb p2 p0
              generalize w6.setCell ⟨r, 2 + x.cls, none⟩ (.slice a' T.length cap') = w7 at *
              obtain ⟨hcD, hfD, -, -⟩ := lst_at HM6.out.at_.lst
              rw [HMA.out] at hcD
              have c5 : w7.cell? ⟨g, m * 6 + 5, none⟩ = some (.bool true) := hcD 5 _ rfl
              have cf5 := hfD (m * 6 + 5)
              clear hcD hfD
              go_upto_region 21 with fail
              refine wp_world ?_
              intro w8 hw8
              have M8 : RMv r (.slice (some ⟨g, 0, none⟩) (A ++ x :: B).length cap) V w2 (.slice (some ⟨g, 0, none⟩) (A ++ x :: B).length cap) (upR V x.cls (.slice a' T.length cap')) q (A ++ ({ x with wt := x.wt - N, cr := C - N, on := false } : Sm) :: B) (upR R x.cls T) w8 := by
                rw [hw8.out]
                have e := HM6.out.trans (HM6.out.at_.cell (A := A) (x := { x with wt := x.wt - N, cr := C - N, on := true }) (y := { x with wt := x.wt - N, cr := C - N, on := false }) (j := 5) (v := .bool false) (by decide) rfl)
                rw [HMA.out] at e
                exact e
              have R8 := M8.box HD1.out HR1.out ⟨by decide, by decide, by decide⟩
              clear c5 cf5
              obtain ⟨hcD, hfD, -, -⟩ := lst_at M8.at_.lst
              rw [HMA.out] at hcD
              have z4 : w8.cell? ⟨g, m * 6 + 4, none⟩ = some (.int .i64 (C - N)) := hcD 4 _ rfl
              have zf4 := hfD (m * 6 + 4)
              clear hcD hfD
              have HM8 := hid2 M8
              clear M8 R8 hw8
              go_upto_region 22 with fail
              refine wp_world ?_
              intro w9 hw9
              have M9 : RMv r (.slice (some ⟨g, 0, none⟩) (A ++ x :: B).length cap) V w2 (.slice (some ⟨g, 0, none⟩) (A ++ x :: B).length cap) (upR V x.cls (.slice a' T.length cap')) q (A ++ ({ x with wt := x.wt - N, cr := 0, on := false } : Sm) :: B) (upR R x.cls T) w9 := by
                rw [hw9.out]
                have e := HM8.out.trans (HM8.out.at_.cell (A := A) (x := { x with wt := x.wt - N, cr := C - N, on := false }) (y := { x with wt := x.wt - N, cr := 0, on := false }) (j := 4) (v := .int .i64 0) (by decide) rfl)
                rw [HMA.out] at e
                exact e
              have R9 := M9.box HD1.out HR1.out ⟨by decide, by decide, by decide⟩
              clear z4 zf4
              obtain ⟨hcD, hfD, -, -⟩ := lst_at M9.at_.lst
              rw [HMA.out] at hcD
              have q3 : w9.cell? ⟨g, m * 6 + 3, none⟩ = some (.int .i64 (x.wt - N)) := hcD 3 _ rfl
              have qf3 := hfD (m * 6 + 3)
              have q0 : w9.cell? ⟨g, m * 6, none⟩ = some (.int .u64 x.num) := hcD 0 _ rfl
              have qf0 := hfD (m * 6 + 0)
              clear hcD hfD
              have q2 := M9.at_.row.cell _ _ (rcells_get q _ _ HC8.out)
              rw [upR_same] at q2
              have HM9 := hid2 M9
              have HR9 := hid2 R9
              clear M9 R9 hw9 HM8 HM6
              by_cases hpos : 0 < x.wt - N
              · have hba : Below w9.heap.size w9 (w9.alloc (.cells #[.int .u64 x.num] 26)).drew := ((Below.refl _ _).alloc (Nat.le_refl _) _).drew
                have hcell : (w9.alloc (.cells #[.int .u64 x.num] 26)).drew.cell? ⟨w9.heap.size, 0, none⟩ = some (.int .u64 x.num) := (Row.new w9 [.int .u64 x.num] 26).cell 0 _ rfl
                have hA9 := HM9.out.at_.below hba
                have hOw := hA9.own _ HC8.out
                rw [upR_same, upR_same] at hOw
                obtain ⟨v2, wA, hrun, hO2, hF2, hn2⟩ := push_run hOw (by have := HLT.out; omega) hcell 54
                have hFc : Fr (fun k => ((upR V x.cls (.slice a' T.length cap')) x.cls).ownBlock = some k) (w9.alloc (.cells #[.int .u64 x.num] 26)).drew wA := by rw [upR_same]; exact hF2
                have MB := hA9.put HC8.out hFc hO2 (by rw [upR_same]; exact hn2)
                have a2 := hA9.row.cell _ _ (rcells_get q _ _ HC8.out)
                rw [upR_same] at a2
                have a0 : (w9.alloc (.cells #[.int .u64 x.num] 26)).drew.cell? ⟨g, m * 6, none⟩ = some (.int .u64 x.num) := by have := (lst_at hA9.lst).1 0 _ rfl; rwa [HMA.out] at this
                have RB := hFc.row hA9.row (hA9.vr HC8.out)
                have b2 := RB.cell _ _ (rcells_get q _ _ HC8.out)
                rw [upR_same] at b2
                have fb := RB.frozen (2 + x.cls)
                have hlB := own_keep hA9.lst hFc (fun g e e' => hA9.vl HC8.out e' e)
                have b0 : wA.cell? ⟨g, m * 6, none⟩ = some (.int .u64 x.num) := by have := (lst_at hlB).1 0 _ rfl; rwa [HMA.out] at this
                have MB2 := HM9.out.trans (RMv.ahead hba MB)
                have HRB := hid2 (MB2.box HD1.out HR1.out ⟨by decide, by decide, by decide⟩)
                rw [upR_up, upR_up] at MB2
                have HMB := hid2 MB2
                have HRUN := hid2 hrun
                obtain ⟨a2', cap2', hv2, -⟩ := own_slice hO2
                subst hv2
                have hbs := bsl26
                generalize (T ++ [x.num]).length = nR' at *
                clear hba hcell hA9 hOw hrun hO2 hF2 hn2 hFc MB RB hlB MB2
                have HFIN : Hid (∃ V', RMv r (.slice (some ⟨g, 0, none⟩) (A ++ x :: B).length cap) V w2 (.slice (some ⟨g, 0, none⟩) (A ++ x :: B).length cap) V' q (A ++ Y :: B) R' (wA.setCell ⟨r, 2 + x.cls, none⟩ (.slice a2' nR' cap2')) ∧ Row (wA.setCell ⟨r, 2 + x.cls, none⟩ (.slice a2' nR' cap2')) w.heap.size [.int .u64 0, .int .i64 0] 31) := by
                  have h1 := HMB.out
                  have h2 := HRB.out
                  have hp2 : 0 < x.wt - N := hpos
                  have hY : Y = { x with wt := x.wt - N, cr := 0, on := false } := by rw [HNX.out]; rfl
                  have hR2 : R' = upR R x.cls (T ++ [x.num]) := by rw [HNR.out]; simp only [if_true, if_pos hp2]
                  rw [hY, hR2]
                  exact ⟨_, h1, h2⟩
                go_upto_region 23 with fail
                refine wp_region_last (S := fun w' => w'.cell? ⟨r, 2 + x.cls, none⟩ = some (.slice a' T.length cap') ∧ w'.cell? ⟨g, m * 6, none⟩ = some (.int .u64 x.num)) (N := 18) (by kernel_rfl) (by kernel_rfl) fun hNW => ?_
                have hHeld := (show (fun w' => w'.cell? ⟨r, 2 + x.cls, none⟩ = some (.slice a' T.length cap') ∧ w'.cell? ⟨g, m * 6, none⟩ = some (.int .u64 x.num)) w9.drew from ⟨q2, q0⟩)
                refine wpAnyF_take (i := 0) (oi := { dst := some 152, op := Go.Op.move (Go.Operand.tmp 0), type := 47, pos := "ref.go:143", after := #[], guard := none }) (v := ?v2_0) hNW (by decide) rfl (by kernel_rfl) (by kernel_rfl) (by kernel_rfl) (by kernel_rfl) (fun _ _ _ h => h) (Or.inl ⟨by kernel_rfl, ?h2_0⟩) (by assumption) ?r2_0
                case h2_0 => (intro wt hSw; (try dsimp only at hSw); go_simp; try with_reducible rfl)
                simp only [Act.put, List.setIfInBounds_toArray, List.set_cons_zero, List.set_cons_succ]
                refine wpAnyF_take (i := 1) (oi := { dst := some 153, op := Go.Op.move (Go.Operand.tmp 6), type := 3, pos := "ref.go:143", after := #[], guard := none }) (v := ?v2_1) hNW (by decide) rfl (by kernel_rfl) (by kernel_rfl) (by kernel_rfl) (by kernel_rfl) (fun _ _ _ h => h) (Or.inl ⟨by kernel_rfl, ?h2_1⟩) (by assumption) ?r2_1
                case h2_1 => (intro wt hSw; (try dsimp only at hSw); go_simp; try with_reducible rfl)
                simp only [Act.put, List.setIfInBounds_toArray, List.set_cons_zero, List.set_cons_succ]
                refine wpAnyF_take (i := 2) (oi := { dst := some 154, op := Go.Op.move (Go.Operand.tmp 0), type := 47, pos := "ref.go:143", after := #[], guard := none }) (v := ?v2_2) hNW (by decide) rfl (by kernel_rfl) (by kernel_rfl) (by kernel_rfl) (by kernel_rfl) (fun _ _ _ h => h) (Or.inl ⟨by kernel_rfl, ?h2_2⟩) (by assumption) ?r2_2
                case h2_2 => (intro wt hSw; (try dsimp only at hSw); go_simp; try with_reducible rfl)
                simp only [Act.put, List.setIfInBounds_toArray, List.set_cons_zero, List.set_cons_succ]
                refine wpAnyF_take (i := 3) (oi := { dst := some 155, op := Go.Op.move (Go.Operand.tmp 6), type := 3, pos := "ref.go:143", after := #[], guard := none }) (v := ?v2_3) hNW (by decide) rfl (by kernel_rfl) (by kernel_rfl) (by kernel_rfl) (by kernel_rfl) (fun _ _ _ h => h) (Or.inl ⟨by kernel_rfl, ?h2_3⟩) (by assumption) ?r2_3
                case h2_3 => (intro wt hSw; (try dsimp only at hSw); go_simp; try with_reducible rfl)
                simp only [Act.put, List.setIfInBounds_toArray, List.set_cons_zero, List.set_cons_succ]
                refine wpAnyF_take (i := 4) (oi := { dst := some 156, op := Go.Op.nilCheck (Go.Operand.tmp 154), type := 0, pos := "ref.go:143", after := #[{ on := 2, ground := Go.Ground.data }], guard := none }) (v := ?v2_4) hNW (by decide) rfl (by kernel_rfl) (by kernel_rfl) (by kernel_rfl) (by kernel_rfl) (fun _ _ _ h => h) (Or.inl ⟨by kernel_rfl, ?h2_4⟩) (by assumption) ?r2_4
                case h2_4 => (intro wt hSw; (try dsimp only at hSw); go_simp; try with_reducible rfl)
                simp only [Act.put, List.setIfInBounds_toArray, List.set_cons_zero, List.set_cons_succ]
                refine wpAnyF_take (i := 5) (oi := { dst := some 157, op := Go.Op.fieldAddr 66 (Go.Operand.tmp 156) 2, type := 0, pos := "ref.go:143", after := #[{ on := 4, ground := Go.Ground.data }], guard := none }) (v := ?v2_5) hNW (by decide) rfl (by kernel_rfl) (by kernel_rfl) (by kernel_rfl) (by kernel_rfl) (fun _ _ _ h => h) (Or.inl ⟨by kernel_rfl, ?h2_5⟩) (by assumption) ?r2_5
                case h2_5 => (intro wt hSw; (try dsimp only at hSw); go_simp; try with_reducible rfl)
                simp only [Act.put, List.setIfInBounds_toArray, List.set_cons_zero, List.set_cons_succ]
                refine wpAnyF_take (i := 6) (oi := { dst := some 158, op := Go.Op.indexAddr 55 (Go.Operand.tmp 157) (Go.Operand.tmp 155), type := 0, pos := "ref.go:143", after := #[{ on := 5, ground := Go.Ground.data }, { on := 3, ground := Go.Ground.data }], guard := none }) (v := ?v2_6) hNW (by decide) rfl (by kernel_rfl) (by kernel_rfl) (by kernel_rfl) (by kernel_rfl) (fun _ _ _ h => h) (Or.inl ⟨by kernel_rfl, ?h2_6⟩) (by assumption) ?r2_6
                case h2_6 => (intro wt hSw; (try dsimp only at hSw); go_simp; try with_reducible rfl)
                simp only [Act.put, List.setIfInBounds_toArray, List.set_cons_zero, List.set_cons_succ]
                refine wpAnyF_take (i := 7) (oi := { dst := some 159, op := Go.Op.load 54 (Go.Operand.tmp 158), type := 54, pos := "ref.go:143", after := #[{ on := 6, ground := Go.Ground.data }], guard := none }) (v := ?v2_7) hNW (by decide) rfl (by kernel_rfl) (by kernel_rfl) (by kernel_rfl) (by kernel_rfl) (fun _ _ _ h => h) (Or.inl ⟨by kernel_rfl, ?h2_7⟩) (by assumption) ?r2_7
                case h2_7 => (intro wt hSw; (try dsimp only at hSw); go_simp; try with_reducible rfl)
                simp only [Act.put, List.setIfInBounds_toArray, List.set_cons_zero, List.set_cons_succ]
                refine wpAnyF_take (i := 8) (oi := { dst := some 160, op := Go.Op.move (Go.Operand.tmp 7), type := 79, pos := "ref.go:143", after := #[], guard := none }) (v := ?v2_8) hNW (by decide) rfl (by kernel_rfl) (by kernel_rfl) (by kernel_rfl) (by kernel_rfl) (fun _ _ _ h => h) (Or.inl ⟨by kernel_rfl, ?h2_8⟩) (by assumption) ?r2_8
                case h2_8 => (intro wt hSw; (try dsimp only at hSw); go_simp; try with_reducible rfl)
                simp only [Act.put, List.setIfInBounds_toArray, List.set_cons_zero, List.set_cons_succ]
                refine wpAnyF_take (i := 9) (oi := { dst := some 161, op := Go.Op.nilCheck (Go.Operand.tmp 160), type := 0, pos := "ref.go:143", after := #[{ on := 8, ground := Go.Ground.data }], guard := none }) (v := ?v2_9) hNW (by decide) rfl (by kernel_rfl) (by kernel_rfl) (by kernel_rfl) (by kernel_rfl) (fun _ _ _ h => h) (Or.inl ⟨by kernel_rfl, ?h2_9⟩) (by assumption) ?r2_9
                case h2_9 => (intro wt hSw; (try dsimp only at hSw); go_simp; try with_reducible rfl)
                simp only [Act.put, List.setIfInBounds_toArray, List.set_cons_zero, List.set_cons_succ]
                refine wpAnyF_take (i := 10) (oi := { dst := some 162, op := Go.Op.fieldAddr 71 (Go.Operand.tmp 161) 0, type := 0, pos := "ref.go:143", after := #[{ on := 9, ground := Go.Ground.data }], guard := none }) (v := ?v2_10) hNW (by decide) rfl (by kernel_rfl) (by kernel_rfl) (by kernel_rfl) (by kernel_rfl) (fun _ _ _ h => h) (Or.inl ⟨by kernel_rfl, ?h2_10⟩) (by assumption) ?r2_10
                case h2_10 => (intro wt hSw; (try dsimp only at hSw); go_simp; try with_reducible rfl)
                simp only [Act.put, List.setIfInBounds_toArray, List.set_cons_zero, List.set_cons_succ]
                refine wpAnyF_take (i := 11) (oi := { dst := some 163, op := Go.Op.fieldAddr 44 (Go.Operand.tmp 162) 0, type := 0, pos := "ref.go:143", after := #[{ on := 10, ground := Go.Ground.data }], guard := none }) (v := ?v2_11) hNW (by decide) rfl (by kernel_rfl) (by kernel_rfl) (by kernel_rfl) (by kernel_rfl) (fun _ _ _ h => h) (Or.inl ⟨by kernel_rfl, ?h2_11⟩) (by assumption) ?r2_11
                case h2_11 => (intro wt hSw; (try dsimp only at hSw); go_simp; try with_reducible rfl)
                simp only [Act.put, List.setIfInBounds_toArray, List.set_cons_zero, List.set_cons_succ]
                refine wpAnyF_take (i := 12) (oi := { dst := some 164, op := Go.Op.load 26 (Go.Operand.tmp 163), type := 26, pos := "ref.go:143", after := #[{ on := 11, ground := Go.Ground.data }], guard := none }) (v := ?v2_12) hNW (by decide) rfl (by kernel_rfl) (by kernel_rfl) (by kernel_rfl) (by kernel_rfl) (fun _ _ _ h => h) (Or.inl ⟨by kernel_rfl, ?h2_12⟩) (by assumption) ?r2_12
                case h2_12 => (intro wt hSw; (try dsimp only at hSw); go_simp; try with_reducible rfl)
                simp only [Act.put, List.setIfInBounds_toArray, List.set_cons_zero, List.set_cons_succ]
                refine wpAnyF_take (i := 15) (oi := { dst := some 167, op := Go.Op.nilCheck (Go.Operand.tmp 152), type := 0, pos := "ref.go:143", after := #[{ on := 0, ground := Go.Ground.data }], guard := none }) (v := ?v2_15) hNW (by decide) rfl (by kernel_rfl) (by kernel_rfl) (by kernel_rfl) (by kernel_rfl) (fun _ _ _ h => h) (Or.inl ⟨by kernel_rfl, ?h2_15⟩) (by assumption) ?r2_15
                case h2_15 => (intro wt hSw; (try dsimp only at hSw); go_simp; try with_reducible rfl)
                simp only [Act.put, List.setIfInBounds_toArray, List.set_cons_zero, List.set_cons_succ]
                refine wpAnyF_take (i := 16) (oi := { dst := some 168, op := Go.Op.fieldAddr 66 (Go.Operand.tmp 167) 2, type := 0, pos := "ref.go:143", after := #[{ on := 15, ground := Go.Ground.data }], guard := none }) (v := ?v2_16) hNW (by decide) rfl (by kernel_rfl) (by kernel_rfl) (by kernel_rfl) (by kernel_rfl) (fun _ _ _ h => h) (Or.inl ⟨by kernel_rfl, ?h2_16⟩) (by assumption) ?r2_16
                case h2_16 => (intro wt hSw; (try dsimp only at hSw); go_simp; try with_reducible rfl)
                simp only [Act.put, List.setIfInBounds_toArray, List.set_cons_zero, List.set_cons_succ]
                refine wpAnyF_one (i := 13) (o := { dst := some 165, op := Go.Op.buildSlice 54 1 #[(0, Go.Operand.tmp 164)], type := 54, pos := "ref.go:143", after := #[{ on := 12, ground := Go.Ground.data }], guard := none }) rfl rfl (by kernel_rfl) ?_
                refine step_build54 (i := x.num) rfl rfl ?_
                refine ⟨fun _ => ⟨a2, a0⟩, ?_⟩
                simp only [Act.put, List.setIfInBounds_toArray, List.set_cons_zero, List.set_cons_succ]
                have hHeld2 := (show (fun w' => w'.cell? ⟨r, 2 + x.cls, none⟩ = some (.slice a' T.length cap') ∧ w'.cell? ⟨g, m * 6, none⟩ = some (.int .u64 x.num)) ((w9.alloc (.cells #[.int .u64 x.num] 26)).drew) from ⟨a2, a0⟩)
                refine wpAnyF_one (i := 14) (o := { dst := some 166, op := Go.Op.call { callee := Go.Callee.builtin Go.Builtin.append, args := #[Go.Operand.tmp 159, Go.Operand.tmp 165], argTypes := #[54, 54] }, type := 54, pos := "ref.go:143", after := #[{ on := 7, ground := Go.Ground.data }, { on := 13, ground := Go.Ground.data }], guard := none }) rfl rfl (by kernel_rfl) ?_
                refine wp_append_by (.tmp 159) (.tmp 165) 54 rfl rfl rfl HRUN.out ?_
                refine ⟨fun _ => ⟨b2, b0⟩, ?_⟩
                simp only [Act.put, List.setIfInBounds_toArray, List.set_cons_zero, List.set_cons_succ]
                have hHeld3 := (show (fun w' => w'.cell? ⟨r, 2 + x.cls, none⟩ = some (.slice a' T.length cap') ∧ w'.cell? ⟨g, m * 6, none⟩ = some (.int .u64 x.num)) wA from ⟨b2, b0⟩)
                refine wpAnyF_take (i := 17) (oi := { dst := some 169, op := Go.Op.indexAddr 55 (Go.Operand.tmp 168) (Go.Operand.tmp 153), type := 0, pos := "ref.go:143", after := #[{ on := 16, ground := Go.Ground.data }, { on := 1, ground := Go.Ground.data }, { on := 0, ground := Go.Ground.phase }, { on := 1, ground := Go.Ground.phase }, { on := 2, ground := Go.Ground.phase }, { on := 3, ground := Go.Ground.phase }, { on := 4, ground := Go.Ground.phase }, { on := 5, ground := Go.Ground.phase }, { on := 6, ground := Go.Ground.phase }, { on := 7, ground := Go.Ground.phase }, { on := 8, ground := Go.Ground.phase }, { on := 9, ground := Go.Ground.phase }, { on := 10, ground := Go.Ground.phase }, { on := 11, ground := Go.Ground.phase }, { on := 12, ground := Go.Ground.phase }, { on := 13, ground := Go.Ground.phase }, { on := 14, ground := Go.Ground.phase }], guard := none }) (v := ?v2_17) hNW (by decide) rfl (by kernel_rfl) (by kernel_rfl) (by kernel_rfl) (by kernel_rfl) (fun _ _ _ h => h) (Or.inl ⟨by kernel_rfl, ?h2_17⟩) (by assumption) ?r2_17
                case h2_17 => (intro wt hSw; (try dsimp only at hSw); go_simp; try with_reducible rfl)
                simp only [Act.put, List.setIfInBounds_toArray, List.set_cons_zero, List.set_cons_succ]
                refine wpAnyF_one (i := 18) (o := { dst := none, op := Go.Op.store 54 (Go.Operand.tmp 169) (Go.Operand.tmp 166), type := 0, pos := "ref.go:143", after := #[{ on := 17, ground := Go.Ground.data }, { on := 14, ground := Go.Ground.data }, { on := 14, ground := Go.Ground.chain }, { on := 0, ground := Go.Ground.phase }, { on := 1, ground := Go.Ground.phase }, { on := 2, ground := Go.Ground.phase }, { on := 3, ground := Go.Ground.phase }, { on := 4, ground := Go.Ground.phase }, { on := 5, ground := Go.Ground.phase }, { on := 6, ground := Go.Ground.phase }, { on := 7, ground := Go.Ground.phase }, { on := 8, ground := Go.Ground.phase }, { on := 9, ground := Go.Ground.phase }, { on := 10, ground := Go.Ground.phase }, { on := 11, ground := Go.Ground.phase }, { on := 12, ground := Go.Ground.phase }, { on := 13, ground := Go.Ground.phase }, { on := 14, ground := Go.Ground.phase }], guard := none }) rfl rfl (by kernel_rfl) ?_
                refine step_store54 (b := r) (k := 2 + x.cls) (av := a2') (n := nR') (c := cap2') rfl rfl rfl b2 fb ?_
                refine ⟨fun h => absurd rfl h, ?_⟩
                simp only [Act.put]
                refine wpAnyF_done (by kernel_rfl) ?_ _
                clear hNW hHeld hHeld2 hHeld3 a2 a0 b2 b0 fb q2 q0 hbs HRUN
                generalize wA.setCell ⟨r, 2 + x.cls, none⟩ (.slice a2' nR' cap2') = wB at *
                go_wp2_with fail
                go_meet
                exact HFIN.out
              · go_wp2_with fail
                go_meet
                refine ⟨upR V x.cls (.slice a' T.length cap'), ?_, HR9.out⟩
                rw [HNX.out, HNR.out, if_pos trivial, if_pos trivial, if_neg (show ¬ 0 < x.wt - N by omega)]
                exact HM9.out
          case rest =>
          as_aux_lemma =>
            obtain ⟨V', MY, RY⟩ := hcut
            obtain ⟨hcD, hfD, -, -⟩ := lst_at MY.at_.lst
            rw [HMA.out] at hcD
            have HYN : Hid (Y.num = x.num) := by show _ = _; rw [HNX.out]; split <;> rfl
            have t0 : wc.cell? ⟨g, m * 6, none⟩ = some (.int .u64 x.num) := by have := hcD 0 _ rfl; rw [HYN.out] at this; exact this
            clear hcD hfD
            have y0 := RY.cell 0 _ rfl
            have y1 := RY.cell 1 _ rfl
            have g0 := RY.frozen 0
            have g1 := RY.frozen 1
            have HMY := hid2 MY
            have HRY := hid2 RY
            clear MY RY d0 df0 d3 df3 d4 df4
            go_wp2_with fail
            have RF := (HRY.out.set 0 (.int .u64 x.num)).set 1 (.int .i64 N)
            refine bodyPost_ret (RF.result2 Try.results30 _ rfl _ Try.underlying31 rfl i31) rfl ?_
            exact ⟨rfl, V', (RMv.ahead HB2.out HMY.out).boxed (Nat.le_refl _) HRY.out _ _⟩
end Go.Proofs.Ytjeokomocopjhaa
