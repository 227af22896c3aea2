import Derived.Test.YtfhjiggaacgncaaDoorJr0
namespace Go.Proofs.YtfhjiggaacgncaaDoor
open Go.RowKit Go.Maps Go.Sort
set_option maxRecDepth 100000

/-- A record's bytes ahead of its sum. -/
def recX (num : Nat) (k : BitVec 8) (b : List (BitVec 8)) : List (BitVec 8) := be (b.length + 1) 4 ++ be num 8 ++ [k] ++ b
/-- A record's bytes. -/
def recL (num : Nat) (k : BitVec 8) (b : List (BitVec 8)) : List (BitVec 8) := recX num k b ++ be (crc (recX num k b)).toNat 4 ++ [165#8]
theorem recX_len (num : Nat) (k : BitVec 8) (b : List (BitVec 8)) : (recX num k b).length = 13 + b.length := by simp [recX, be_len]; omega
theorem recL_len (num : Nat) (k : BitVec 8) (b : List (BitVec 8)) : (recL num k b).length = 18 + b.length := by simp [recL, recX_len, be_len]; omega
theorem make0_run (w : World) (c : Nat) (hc : c ≤ 140737488355328) : (Instr.makeSlice 30 (.int .i64 0) (.int .i64 (c : Int))).run Tryd.prog w = .ok (.slice (some ⟨w.heap.size, 0, none⟩) 0 c) (w.alloc (.cells (bcells (z c)).toArray 5)) := by
  obtain ⟨i, h1, h2, h3, h4⟩ := info5
  have hr := run_make (P := Tryd.prog) w 30 5 i (.int .u8 0) Tryd.underlying30 h1 h2 .i64 .i64 0 (c : Int) (by omega) (by omega) (by rw [h4]; omega) (by omega)
  simp only [Int.toNat_natCast, h3, Nat.mul_one, Value.cells, made0] at hr
  exact hr
theorem own_made0 (w : World) (c : Nat) (hc : c ≤ 140737488355328) : OwnBy (w.alloc (.cells (bcells (z c)).toArray 5)) w.heap.size (.slice (some ⟨w.heap.size, 0, none⟩) 0 c) [] :=
  ⟨rfl, .inr ⟨w.heap.size, c, (bcells (z c)).toArray, rfl, Nat.le_refl _, heap_alloc_last w _, Nat.zero_le _, by unfold maxLen; omega, by simp [bcells_len, z_len], rfl⟩⟩
theorem own_app {w : World} {B : Nat} {v : Value} {l : List (BitVec 8)} {x : List (BitVec 8)} (h : w.ownsRow B 5 1 v (l.length + x.length) (bcells (l ++ x))) : OwnBy w B v (l ++ x) := by
  rw [← List.length_append] at h; exact h
theorem parts_one {w : World} {v : Value} {l : List (BitVec 8)} {B : Nat} (h : OwnBy w B v l) (hl : l.length ≤ 281474976710656) : PartsAt (w.alloc (.cells #[v] 30)) (some ⟨w.heap.size, 0, none⟩) [l] := fun k hk => by
  obtain rfl : k = 0 := by simpa using hk
  obtain ⟨a, cap, rfl, hB, _⟩ := ownBy_shape h
  exact ⟨w.heap.size, 0, a, cap, rfl, (Row.new' w #[.slice a l.length cap] [.slice a l.length cap] 30 _ rfl rfl).cell 0 _ rfl, hB.kept (below_new w _), hl⟩
theorem bsl44 (w : World) (a : Option Addr) (n c : Nat) : (Instr.buildSlice 44 1 #[(0, .slice a n c)]).run Tryd.prog w = .ok (.slice (some ⟨w.heap.size, 0, none⟩) 1 1) (w.alloc (.cells #[.slice a n c] 30)) := by kernel_rfl
theorem bsl30 (w : World) (x : Int) : (Instr.buildSlice 30 1 #[(0, .int .u8 x)]).run Tryd.prog w = .ok (.slice (some ⟨w.heap.size, 0, none⟩) 1 1) (w.alloc (.cells #[.int .u8 x] 5)) := by kernel_rfl
set_option maxHeartbeats 2000000 in
theorem laid_any (w : World) (num : Nat) (k : BitVec 8) {a : Option Addr} {n cp : Nat} {b : List (BitVec 8)} (hB : BytesAt w a b) (hn : b.length = n) (hz : a = none → cp = 0) (hl : n ≤ 16777216) (hu : num < 18446744073709551616) (hT : CrcTab w) :
    Calls Tryd.prog 38 #[.agg #[.int .u64 num, .int .u8 (ub k), .slice a n cp]] w fun e w' => ∃ v, e = .returned v ∧ OwnBy w' w.heap.size v (recL num k b) ∧ Below w.heap.size w w' := by
  have b1 := below_new w (.cells #[.int .u64 num, .int .u8 (ub k), .slice a n cp] 41)
  have R1 := Row.new w [.int .u64 num, .int .u8 (ub k), .slice a n cp] 41
  have hB1 := hB.kept b1
  have hT1 := hT.kept b1
  obtain ⟨m, hm⟩ : ∃ m, 18 + n = m := ⟨_, rfl⟩
  obtain ⟨q, hq⟩ : ∃ q, n + 1 = q := ⟨_, rfl⟩
  have h18 : (18 : Int) + n = m := by omega
  have hw18 : IntKind.i64.wrap (m : Int) = m := by rw [IntKind.wrap_i64]; omega
  have hn1 : IntKind.u64.wrap ((n : Int)) = (n : Int) := by rw [IntKind.wrap_u64]; omega
  have hn2 : (n : Int) + 1 = q := by omega
  have hn3 : IntKind.u64.wrap (q : Int) = q := by rw [IntKind.wrap_u64]; omega
  have HQ := hid (show b.length + 1 = q by omega)
  have hNL := hid hn
  have HBO := hid b1
  have hli : (n : Int) ≤ 16777216 := by omega
  clear hB hT b1
  go_enter Tryd.func38, Tryd.ntmps38
  go_upto_region 1 with fail
  revert R1 hB1 hT1 HBO
  generalize w.alloc (.cells #[.int .u64 num, .int .u8 (ub k), .slice a n cp] 41) = w1
  intro R1 hB1 hT1 HBO
  have c2 := R1.cell 2 _ rfl
  have hmk1 := make0_run w1 m (by omega)
  have HO1 := hid (own_made0 w1 m (by omega))
  have HL1 := hid (below_new w1 (.cells (bcells (z m)).toArray 5))
  generalize (bcells (z m)).toArray = arr at *
  have HR := hid R1
  have HB := hid hB1
  have HT := hid hT1
  have HU := hid hu
  have HZ := hid hz
  have HM := hid (show q < 18446744073709551616 by omega)
  clear R1 hB1 hT1 hu hz hm hq hn hl
  go_upto_region 2 with fail
  revert HO1 HL1
  generalize w1.alloc (.cells arr 5) = w2
  intro HO1 HL1
  have d2 := cell_kept HL1.out c2
  have HN1 := hid (numbered_any w2 w1.heap.size _ [] q 4 HO1.out HL1.out.size HM.out (by omega) (by simp))
  rw [List.nil_append] at HN1
  clear c2 hmk1 hw18 h18 HO1
  go_upto_region 3 with (go_at_call 63; refine HN1.out.mono ?_; rintro e w3 ⟨v3, rfl, hO3, hb3⟩; have HO3 := hid hO3; have HL3 := hid (HL1.out.trans hb3); clear hO3 hb3)
  clear HN1 HL1 d2
  have c0 := cell_kept HL3.out (HR.out.cell 0 _ rfl)
  have HN2 := hid (numbered_any w3 w1.heap.size _ _ num 8 HO3.out HL3.out.size HU.out (by omega) (by rw [be_len]; omega))
  clear HO3
  go_upto_region 4 with (go_at_call 63; refine HN2.out.mono ?_; rintro e w4 ⟨v4, rfl, hO4, hb4⟩; have HO4 := hid hO4; have HL4 := hid (HL3.out.trans hb4); clear hO4 hb4)
  clear HN2 HL3 c0
  have c1 := cell_kept HL4.out (HR.out.cell 1 _ rfl)
  have HS4 := hid HL4.out.size
  have hbs := bsl30
  go_upto_region 5 with (at_builtin; refine wpAppendA (.tmp 20) (.tmp 23) rfl rfl (base := w1.heap.size) rfl (own_below HO4.out (below_new w4 _)) (by have := HS4.out; simp; omega) rfl (fun e => by cases e) (bs := [k]) rfl (bytes_one w4 _ k rfl) (by rw [List.length_append, be_len, be_len]; omega) ?_; intro w5 v5 h5 g5)
  have HO5 : Hid (OwnBy w5 w1.heap.size v5 (be q 4 ++ be num 8 ++ [k])) := own_app (x := [k]) h5.out
  have HL5 := hid (HL4.out.trans (own_grow HO4.out ((below_new w4 _).mono HS4.out) g5.out.1 HS4.out))
  clear h5 g5 HO4 HL4 HS4 c1
  have c2 := cell_kept HL5.out (HR.out.cell 2 _ rfl)
  have HB5 := hid (HB.out.kept HL5.out)
  have HS5 := hid HL5.out.size
  go_upto_region 6 with (at_builtin; refine wpAppendA (.tmp 25) (.tmp 27) rfl rfl (base := w1.heap.size) rfl HO5.out HS5.out rfl HZ.out hNL.out HB5.out (by rw [List.length_append, List.length_append, be_len, be_len, List.length_singleton]; omega) ?_; intro w6 v6 h6 g6)
  have HO6 : Hid (OwnBy w6 w1.heap.size v6 (recX num k b)) := by
    have := h6.out
    rw [← hNL.out, ← HQ.out] at this
    exact own_app (x := b) this
  have HL6 := hid (HL5.out.trans (own_grow HO5.out ((Below.refl _ _).mono HS5.out) g6.out.1 HS5.out))
  clear h6 g6 HO5 HL5 HS5 c2 HB5
  have HX := hid (recX_len num k b)
  have HNb := hid (show b.length ≤ 16777216 by rw [hNL.out]; omega)
  have HBL := hid (below_new w6 (.cells #[v6] 30))
  have HP := hid (parts_one HO6.out (by rw [HX.out]; have := HNb.out; omega))
  have hC0 := crc_any (cap := 1) HP.out (HT.out.kept (HL6.out.trans (HBL.out.mono HL6.out.size))) (by simp)
  rw [show ([recX num k b] : List (List (BitVec 8))).flatten = recX num k b by simp] at hC0
  have HC : Hid (Calls Tryd.prog 64 #[.slice (some ⟨w6.heap.size, 0, none⟩) 1 1] (w6.alloc (.cells #[v6] 30)) fun e w' => e = .returned (.int .u32 (u (crc (recX num k b)))) ∧ w' = w6.alloc (.cells #[v6] 30)) := hC0
  clear hC0
  have hcw : IntKind.u64.wrap (u (crc (recX num k b))) = ((crc (recX num k b)).toNat : Int) := by rw [u, IntKind.wrap_u64]; have := (crc (recX num k b)).isLt; omega
  have HS6 := hid HL6.out.size
  have HN7 := hid (numbered_any (w6.alloc (.cells #[v6] 30)) w1.heap.size _ _ (crc (recX num k b)).toNat 4 (own_below HO6.out HBL.out) (Nat.le_trans HS6.out HBL.out.size) (by have := (crc (recX num k b)).isLt; omega) (by omega) (by rw [HX.out]; have := HNb.out; omega))
  obtain ⟨a6, c6, e6, -⟩ := own_len HO6.out
  subst e6
  have hb44 := bsl44
  have HRL : Hid (recX num k b ++ be (crc (recX num k b)).toNat 4 ++ [165#8] = recL num k b) := rfl
  have HLX : Hid ((recX num k b ++ be (crc (recX num k b)).toNat 4).length + 1 ≤ 140737488355328) := by show _ ≤ _; rw [List.length_append, be_len, HX.out]; have := HNb.out; omega
  generalize recX num k b ++ be (crc (recX num k b)).toNat 4 = Y at *
  generalize (crc (recX num k b)).toNat = cc at *
  generalize u (crc (recX num k b)) = cu at *
  clear HP HO6
  go_upto_region 7 with (first | (go_at_call 64; refine HC.out.mono ?_; rintro e w7 ⟨rfl, rfl⟩) | (go_at_call 63; refine HN7.out.mono ?_; rintro e w8 ⟨v8, rfl, hO8, hb8⟩; have HO8 := hid hO8; have HL8 := hid ((HL6.out.trans (HBL.out.mono HS6.out)).trans hb8); clear hO8 hb8))
  have HS8 := hid HL8.out.size
  have HB9 := hid (bytes_one w8 (.int .u8 165) 165#8 rfl)
  have HO9 := hid (own_below HO8.out (below_new w8 (.cells #[.int .u8 165] 5)))
  have HS9 := hid (show w1.heap.size ≤ (w8.alloc (.cells #[.int .u8 165] 5)).heap.size by have := HS8.out; simp; omega)
  generalize (165#8 : BitVec 8) = yy at *
  go_wp2_with (at_builtin; refine wpAppendA (.tmp 35) (.tmp 36) rfl rfl (base := w1.heap.size) rfl HO9.out HS9.out rfl (fun e => by cases e) (bs := [yy]) rfl HB9.out HLX.out ?_; intro w9 v9 h9 g9)
  go_ret
  have hO9 := own_app (x := [yy]) h9.out
  rw [HRL.out] at hO9
  exact ⟨_, rfl, own_less hO9 HBO.out.size, below_two HBO.out (HL8.out.trans (own_grow HO8.out ((below_new w8 _).mono HS8.out) g9.out.1 HS8.out)) (Nat.le_refl _)⟩
end Go.Proofs.YtfhjiggaacgncaaDoor
