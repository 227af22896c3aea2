import Derived.Test.YtgkfnbbgohdalaaDoorRd0
namespace Go.Proofs.YtgkfnbbgohdalaaDoor
open Go.RowKit
set_option maxRecDepth 100000

set_option maxHeartbeats 4000000 in
theorem read_9 {w : World} {g o n cap : Nat} {bs : List (BitVec 8)} (hB : BytesAt w (some ⟨g, o, none⟩) bs) (hn : bs.length = n) (hcap : n ≤ cap) (hk : byte bs 0 = 9#8) (hs : n = 26) :
    Calls Tryd.prog 32 #[.slice (some ⟨g, o, none⟩) n cap] w fun e w' => ∃ da dc ra rc ma mc c, e = .returned (.agg c.toArray) ∧ FrAt w' c (rdf bs) da dc ra rc ma mc ∧ Below w.heap.size w w' ∧ (∀ ad, da = some ad → w.heap.size ≤ ad.block) ∧ (∀ ad, ra = some ad → w.heap.size ≤ ad.block) ∧ (∀ ad, ma = some ad → w.heap.size ≤ ad.block) := by
  have c0 := hB.byte0 (by omega) hk
  have c1 := hB.byte 1 (by omega)
  have e0 : ub 9#8 = 9 := by decide
  rw [e0] at c0
  have hb1 := ub_bd (byte bs 1)
  have n1 : (7 : Int) ≤ (n : Int) := by omega
  have n3 : (n : Int) ≤ (cap : Int) := by omega
  have HB : Hid (BytesAt w (some ⟨g, o, none⟩) bs) := hB
  have HC0 : Hid (w.cell? ⟨g, o, none⟩ = some (.int .u8 9)) := c0
  have HG : Hid (g < w.heap.size) := World.block_lt_of_cell? w _ c0
  have w1 : IntKind.i64.wrap (ub (byte bs 1)) = ub (byte bs 1) := by unfold IntKind.wrap; simp [IntKind.bits, IntKind.signed]; omega
  have HY : Hid (ub (byte bs 1) = ((byte bs 1).toNat : Int)) := rfl
  have HN : Hid _ := hn
  clear hB hb1
  generalize ub (byte bs 1) = y at *
  go_enter Tryd.func32, Tryd.ntmps32
  go_upto_region 1 with (fail)
  refine wp_world fun wa HW => ?_
  have HRa : Hid (Row wa w.heap.size (fcells Fr.zero (.slice none 0 0) (.slice none 0 0) (.slice none 0 0)) 27) := by show Row _ _ _ _; rw [HW.out]; exact Row.new' _ _ _ _ _ rfl rfl
  have HBa : Hid (Below w.heap.size w wa) := by show Below _ _ _; rw [HW.out]; exact (Below.refl _ _).alloc (Nat.le_refl _) _
  have d0 := cell_kept HBa.out c0
  have d1 := cell_kept HBa.out c1
  clear HW c0 c1
  have x0 : (wa.alloc (Obj.cells #[.int .i64 0, .int .i64 0, .int .u64 0, .int .u64 0, .int .u64 0, .slice none 0 0, .slice none 0 0, .int .u32 0, .int .u32 0, .slice none 0 0, .bool false, .int .i64 0] 27)).cell? ⟨g, o, none⟩ = some (.int .u8 9) := cell_kept ((Below.refl _ _).alloc (Nat.le_refl _) _) d0
  have x1 : (wa.alloc (Obj.cells #[.int .i64 0, .int .i64 0, .int .u64 0, .int .u64 0, .int .u64 0, .slice none 0 0, .slice none 0 0, .int .u32 0, .int .u32 0, .slice none 0 0, .bool false, .int .i64 0] 27)).cell? ⟨g, o + 1, none⟩ = some (.int .u8 y) := cell_kept ((Below.refl _ _).alloc (Nat.le_refl _) _) d1
  go_region
  go_upto_region 2 with (fail)
  refine wp_world fun W0 HW => ?_
  have HZ0 : Hid (Row W0 w.heap.size (fcells Fr.zero (.slice none 0 0) (.slice none 0 0) (.slice none 0 0)) 27) := by show Row _ _ _ _; rw [HW.out]; exact (HRa.out.alloc _).drawn _
  have HR0 : Hid (Row W0 wa.heap.size (fcells { Fr.zero with kind := 9, path := y } (.slice none 0 0) (.slice none 0 0) (.slice none 0 0)) 27) := by show Row _ _ _ _; rw [HW.out]; exact (Row.new' _ _ _ _ _ rfl rfl).drawn _
  have HB0 : Hid (Below w.heap.size w W0) := by show Below _ _ _; rw [HW.out]; exact below_drawn (HBa.out.alloc HBa.out.size _) _
  have HQ : Hid (w.heap.size < wa.heap.size) := HRa.out.lt
  have y0 : W0.cell? ⟨g, o, none⟩ = some (.int .u8 9) := cell_kept HB0.out HC0.out
  clear HW d0 d1 x0 x1 HRa HBa
  generalize wa.heap.size = q at *
  go_upto_region 25 with (fail)
  clear y0
  have cc := HR0.out.cell 9 _ rfl
  have fz := HR0.out.frozen 9
  have k2 : (22 : Int) ≤ (cap : Int) := by omega
  have k1 : ¬ cap = 2 := by omega
  have HV : Hid (∀ W, Below w.heap.size w W → Calls Tryd.prog 43 #[.slice (some ⟨g, o + 2, none⟩) 20 (cap - 2)] W fun e w' => ∃ a' c', e = .returned (.slice a' 20 c') ∧ BytesAt w' a' (cut bs 2 20) ∧ (∀ ad, a' = some ad → W.heap.size ≤ ad.block) ∧ Below W.heap.size W w') := fun W hb => clone_any ((HB.out.kept hb).cut 2 20) (cut_len _ _ _ (by have := HN.out; omega)) (by omega)
  go_upto_region 28 with (go_at_call 43; refine (HV.out _ HB0.out).mono ?_; rintro e wx ⟨a0, cp0, rfl, hat, hgx, hbx⟩; have HX : Hid (BytesAt wx a0 (cut bs 2 20)) := hat; have HBX : Hid _ := hbx; have HK0g : Hid (∀ ad, a0 = some ad → ad.block ≠ q) := (fun ad h => by have h1 := hgx ad h; have h2 := HR0.out.lt; omega); have HK0z : Hid (∀ ad, a0 = some ad → ad.block ≠ w.heap.size) := (fun ad h => by have h1 := hgx ad h; have h2 := HZ0.out.lt; omega); have HK0f : Hid (∀ ad, a0 = some ad → w.heap.size ≤ ad.block) := (fun ad h => by have h1 := hgx ad h; have h2 := HB0.out.size; omega); clear hat hgx hbx cc fz; have cc := (HR0.out.kept HBX.out HR0.out.lt).cell 9 _ rfl; have fz := (HR0.out.kept HBX.out HR0.out.lt).frozen 9)
  refine wp_world fun W1 HW => ?_
  have HR1 : Hid (Row W1 q (fcells { Fr.zero with kind := 9, path := y } (.slice none 0 0) (.slice none 0 0) (.slice a0 20 cp0)) 27) := by show Row _ _ _ _; rw [HW.out]; exact (HR0.out.kept HBX.out HR0.out.lt).set 9 _
  have HZ1 : Hid (Row W1 w.heap.size (fcells Fr.zero (.slice none 0 0) (.slice none 0 0) (.slice none 0 0)) 27) := by show Row _ _ _ _; rw [HW.out]; exact (HZ0.out.kept HBX.out HZ0.out.lt).setOther _ (show w.heap.size ≠ q by have := HQ.out; omega) _
  have HB1 : Hid (Below w.heap.size w W1) := by show Below _ _ _; rw [HW.out]; exact (HB0.out.trans (HBX.out.mono HB0.out.size)).setCell (show w.heap.size ≤ q by have := HQ.out; omega) _
  have HK0 : Hid (BytesAt W1 a0 (cut bs 2 20)) := by show BytesAt _ _ _; rw [HW.out]; exact HX.out.oth HK0g.out _ _
  clear HW HR0 HZ0 HB0 cc fz HV k1 HX HBX
  go_wp2_with (first
    | (show wpList _ _ _ (Oper.mk (some 106) (.load 27 (.tmp 3)) _ _ _ _ :: _) _ _; refine HR1.out.wpLoad 27 (.tmp 3) rfl rfl rfl _ Tryd.underlying27 rfl i27 ?_)
    | (show wpList _ _ _ (Oper.mk none (.store 27 (.tmp 2) (.tmp 106)) _ _ _ _ :: _) _ _; refine HZ1.out.wpStore' 27 (.tmp 2) (.tmp 106) (fcells { Fr.zero with kind := 9, path := y } (.slice none 0 0) (.slice none 0 0) (.slice a0 20 cp0)) rfl rfl rfl rfl rfl (fcells_one _ _ _ _ _ _ _ _ _ _) i27 ?_; intro wz HZ))
  have R : Row wz w.heap.size (fcells { Fr.zero with kind := 9, path := y } (.slice none 0 0) (.slice none 0 0) (.slice a0 20 cp0)) 27 := by rw [HZ.out]; exact HZ1.out.row _
  have hBz : Below w.heap.size w wz := by rw [HZ.out]; exact Go.below_setRow HB1.out (Nat.le_refl _) _
  have hF : rdf bs = ({ Fr.zero with kind := 9, path := y, mac := cut bs 2 20 } : Fr) := by
    simp [rdf, hk, Fr.zero, HY.out]
  have hcut : (cut bs 2 20).length = 20 := cut_len _ _ _ (by have := HN.out; omega)
  rw [hF]
  exact bodyPost_ret (R.result Tryd.results32 _ rfl _ Tryd.underlying27 rfl i27) rfl ⟨none, 0, none, 0, a0, cp0, _, rfl,
    { cells := (by simp only [fcells, hcut, List.length_nil, Fr.zero]), data := BytesAt_nil _ _, ranges := RangesAt_nil _ _, mac := (by rw [HZ.out]; exact HK0.out.row HK0z.out _), num := (show (0 : Nat) < 18446744073709551616 by decide), off := (show (0 : Nat) < 18446744073709551616 by decide), edge := (show (0 : Nat) < 18446744073709551616 by decide), rlt := (fun r h => by cases h), token := (show (0 : Nat) < 4294967296 by decide), nonce := (show (0 : Nat) < 4294967296 by decide), dlen := (show (0 : Nat) ≤ 281474976710656 by decide), rlen := (show (0 : Nat) ≤ 281474976710656 by decide), mlen := (by rw [hcut]; omega) }, hBz, (fun _ h => by cases h), (fun _ h => by cases h), HK0f.out⟩

set_option maxHeartbeats 4000000 in
theorem read_10 {w : World} {g o n cap : Nat} {bs : List (BitVec 8)} (hB : BytesAt w (some ⟨g, o, none⟩) bs) (hn : bs.length = n) (hcap : n ≤ cap) (hk : byte bs 0 = 10#8) (hs : n = 7) :
    Calls Tryd.prog 32 #[.slice (some ⟨g, o, none⟩) n cap] w fun e w' => ∃ da dc ra rc ma mc c, e = .returned (.agg c.toArray) ∧ FrAt w' c (rdf bs) da dc ra rc ma mc ∧ Below w.heap.size w w' ∧ (∀ ad, da = some ad → w.heap.size ≤ ad.block) ∧ (∀ ad, ra = some ad → w.heap.size ≤ ad.block) ∧ (∀ ad, ma = some ad → w.heap.size ≤ ad.block) := by
  have c0 := hB.byte0 (by omega) hk
  have c1 := hB.byte 1 (by omega)
  have e0 : ub 10#8 = 10 := by decide
  rw [e0] at c0
  have hb1 := ub_bd (byte bs 1)
  have n1 : (7 : Int) ≤ (n : Int) := by omega
  have n3 : (n : Int) ≤ (cap : Int) := by omega
  have HB : Hid (BytesAt w (some ⟨g, o, none⟩) bs) := hB
  have HC0 : Hid (w.cell? ⟨g, o, none⟩ = some (.int .u8 10)) := c0
  have HG : Hid (g < w.heap.size) := World.block_lt_of_cell? w _ c0
  have w1 : IntKind.i64.wrap (ub (byte bs 1)) = ub (byte bs 1) := by unfold IntKind.wrap; simp [IntKind.bits, IntKind.signed]; omega
  have HY : Hid (ub (byte bs 1) = ((byte bs 1).toNat : Int)) := rfl
  have HN : Hid _ := hn
  clear hB hb1
  generalize ub (byte bs 1) = y at *
  go_enter Tryd.func32, Tryd.ntmps32
  go_upto_region 1 with (fail)
  refine wp_world fun wa HW => ?_
  have HRa : Hid (Row wa w.heap.size (fcells Fr.zero (.slice none 0 0) (.slice none 0 0) (.slice none 0 0)) 27) := by show Row _ _ _ _; rw [HW.out]; exact Row.new' _ _ _ _ _ rfl rfl
  have HBa : Hid (Below w.heap.size w wa) := by show Below _ _ _; rw [HW.out]; exact (Below.refl _ _).alloc (Nat.le_refl _) _
  have d0 := cell_kept HBa.out c0
  have d1 := cell_kept HBa.out c1
  clear HW c0 c1
  have x0 : (wa.alloc (Obj.cells #[.int .i64 0, .int .i64 0, .int .u64 0, .int .u64 0, .int .u64 0, .slice none 0 0, .slice none 0 0, .int .u32 0, .int .u32 0, .slice none 0 0, .bool false, .int .i64 0] 27)).cell? ⟨g, o, none⟩ = some (.int .u8 10) := cell_kept ((Below.refl _ _).alloc (Nat.le_refl _) _) d0
  have x1 : (wa.alloc (Obj.cells #[.int .i64 0, .int .i64 0, .int .u64 0, .int .u64 0, .int .u64 0, .slice none 0 0, .slice none 0 0, .int .u32 0, .int .u32 0, .slice none 0 0, .bool false, .int .i64 0] 27)).cell? ⟨g, o + 1, none⟩ = some (.int .u8 y) := cell_kept ((Below.refl _ _).alloc (Nat.le_refl _) _) d1
  go_region
  go_upto_region 2 with (fail)
  refine wp_world fun W0 HW => ?_
  have HZ0 : Hid (Row W0 w.heap.size (fcells Fr.zero (.slice none 0 0) (.slice none 0 0) (.slice none 0 0)) 27) := by show Row _ _ _ _; rw [HW.out]; exact (HRa.out.alloc _).drawn _
  have HR0 : Hid (Row W0 wa.heap.size (fcells { Fr.zero with kind := 10, path := y } (.slice none 0 0) (.slice none 0 0) (.slice none 0 0)) 27) := by show Row _ _ _ _; rw [HW.out]; exact (Row.new' _ _ _ _ _ rfl rfl).drawn _
  have HB0 : Hid (Below w.heap.size w W0) := by show Below _ _ _; rw [HW.out]; exact below_drawn (HBa.out.alloc HBa.out.size _) _
  have HQ : Hid (w.heap.size < wa.heap.size) := HRa.out.lt
  have y0 : W0.cell? ⟨g, o, none⟩ = some (.int .u8 10) := cell_kept HB0.out HC0.out
  clear HW d0 d1 x0 x1 HRa HBa
  generalize wa.heap.size = q at *
  go_upto_region 26 with (fail)
  clear y0
  have cc := HR0.out.cell 10 _ rfl
  have fz := HR0.out.frozen 10
  have by0 : W0.cell? ⟨g, o + 2, none⟩ = some (.int .u8 (ub (byte bs 2))) := (HB.out.kept HB0.out).byte 2 (by have := HN.out; omega)
  have k1 : (2 : Int) < (n : Int) := by omega
  have HE0 : Hid (ub (byte bs 2) = ((byte bs 2).toNat : Int)) := rfl
  generalize ub (byte bs 2) = z0 at *
  go_upto_region 28 with (fail)
  refine wp_world fun W1 HW => ?_
  have HR1 : Hid (Row W1 q (fcells { Fr.zero with kind := 10, path := y, backup := (z0 == 1) } (.slice none 0 0) (.slice none 0 0) (.slice none 0 0)) 27) := by show Row _ _ _ _; rw [HW.out]; exact HR0.out.set 10 _
  have HZ1 : Hid (Row W1 w.heap.size (fcells Fr.zero (.slice none 0 0) (.slice none 0 0) (.slice none 0 0)) 27) := by show Row _ _ _ _; rw [HW.out]; exact HZ0.out.setOther _ (show w.heap.size ≠ q by have := HQ.out; omega) _
  have HB1 : Hid (Below w.heap.size w W1) := by show Below _ _ _; rw [HW.out]; exact HB0.out.setCell (show w.heap.size ≤ q by have := HQ.out; omega) _
  clear HW HR0 HZ0 HB0 cc fz by0 k1
  go_wp2_with (first
    | (show wpList _ _ _ (Oper.mk (some 106) (.load 27 (.tmp 3)) _ _ _ _ :: _) _ _; refine HR1.out.wpLoad 27 (.tmp 3) rfl rfl rfl _ Tryd.underlying27 rfl i27 ?_)
    | (show wpList _ _ _ (Oper.mk none (.store 27 (.tmp 2) (.tmp 106)) _ _ _ _ :: _) _ _; refine HZ1.out.wpStore' 27 (.tmp 2) (.tmp 106) (fcells { Fr.zero with kind := 10, path := y, backup := (z0 == 1) } (.slice none 0 0) (.slice none 0 0) (.slice none 0 0)) rfl rfl rfl rfl rfl (fcells_one _ _ _ _ _ _ _ _ _ _) i27 ?_; intro wz HZ))
  have R : Row wz w.heap.size (fcells { Fr.zero with kind := 10, path := y, backup := (z0 == 1) } (.slice none 0 0) (.slice none 0 0) (.slice none 0 0)) 27 := by rw [HZ.out]; exact HZ1.out.row _
  have hBz : Below w.heap.size w wz := by rw [HZ.out]; exact Go.below_setRow HB1.out (Nat.le_refl _) _
  have hF : rdf bs = ({ Fr.zero with kind := 10, path := y, backup := (z0 == 1) } : Fr) := by
    have e1 : decide (byte bs 2 = 1#8) = (z0 == 1) := by
      rw [Bool.eq_iff_iff, decide_eq_true_eq, beq_iff_eq, HE0.out]
      constructor
      · intro h; rw [h]; rfl
      · intro h; exact BitVec.eq_of_toNat_eq (by have : (1#8).toNat = 1 := rfl; omega)
    simp [rdf, hk, Fr.zero, HY.out, e1]
  rw [hF]
  exact bodyPost_ret (R.result Tryd.results32 _ rfl _ Tryd.underlying27 rfl i27) rfl ⟨none, 0, none, 0, none, 0, _, rfl,
    { cells := rfl, data := BytesAt_nil _ _, ranges := RangesAt_nil _ _, mac := BytesAt_nil _ _, num := (show (0 : Nat) < 18446744073709551616 by decide), off := (show (0 : Nat) < 18446744073709551616 by decide), edge := (show (0 : Nat) < 18446744073709551616 by decide), rlt := (fun r h => by cases h), token := (show (0 : Nat) < 4294967296 by decide), nonce := (show (0 : Nat) < 4294967296 by decide), dlen := (show (0 : Nat) ≤ 281474976710656 by decide), rlen := (show (0 : Nat) ≤ 281474976710656 by decide), mlen := (show (0 : Nat) ≤ 281474976710656 by decide) }, hBz, (fun _ h => by cases h), (fun _ h => by cases h), (fun _ h => by cases h)⟩

set_option maxHeartbeats 4000000 in
theorem read_11 {w : World} {g o n cap : Nat} {bs : List (BitVec 8)} (hB : BytesAt w (some ⟨g, o, none⟩) bs) (hn : bs.length = n) (hcap : n ≤ cap) (hk : byte bs 0 = 11#8) (hs : n = 7) :
    Calls Tryd.prog 32 #[.slice (some ⟨g, o, none⟩) n cap] w fun e w' => ∃ da dc ra rc ma mc c, e = .returned (.agg c.toArray) ∧ FrAt w' c (rdf bs) da dc ra rc ma mc ∧ Below w.heap.size w w' ∧ (∀ ad, da = some ad → w.heap.size ≤ ad.block) ∧ (∀ ad, ra = some ad → w.heap.size ≤ ad.block) ∧ (∀ ad, ma = some ad → w.heap.size ≤ ad.block) := by
  have c0 := hB.byte0 (by omega) hk
  have c1 := hB.byte 1 (by omega)
  have e0 : ub 11#8 = 11 := by decide
  rw [e0] at c0
  have hb1 := ub_bd (byte bs 1)
  have n1 : (7 : Int) ≤ (n : Int) := by omega
  have n3 : (n : Int) ≤ (cap : Int) := by omega
  have HB : Hid (BytesAt w (some ⟨g, o, none⟩) bs) := hB
  have HC0 : Hid (w.cell? ⟨g, o, none⟩ = some (.int .u8 11)) := c0
  have HG : Hid (g < w.heap.size) := World.block_lt_of_cell? w _ c0
  have w1 : IntKind.i64.wrap (ub (byte bs 1)) = ub (byte bs 1) := by unfold IntKind.wrap; simp [IntKind.bits, IntKind.signed]; omega
  have HY : Hid (ub (byte bs 1) = ((byte bs 1).toNat : Int)) := rfl
  have HN : Hid _ := hn
  clear hB hb1
  generalize ub (byte bs 1) = y at *
  go_enter Tryd.func32, Tryd.ntmps32
  go_upto_region 1 with (fail)
  refine wp_world fun wa HW => ?_
  have HRa : Hid (Row wa w.heap.size (fcells Fr.zero (.slice none 0 0) (.slice none 0 0) (.slice none 0 0)) 27) := by show Row _ _ _ _; rw [HW.out]; exact Row.new' _ _ _ _ _ rfl rfl
  have HBa : Hid (Below w.heap.size w wa) := by show Below _ _ _; rw [HW.out]; exact (Below.refl _ _).alloc (Nat.le_refl _) _
  have d0 := cell_kept HBa.out c0
  have d1 := cell_kept HBa.out c1
  clear HW c0 c1
  have x0 : (wa.alloc (Obj.cells #[.int .i64 0, .int .i64 0, .int .u64 0, .int .u64 0, .int .u64 0, .slice none 0 0, .slice none 0 0, .int .u32 0, .int .u32 0, .slice none 0 0, .bool false, .int .i64 0] 27)).cell? ⟨g, o, none⟩ = some (.int .u8 11) := cell_kept ((Below.refl _ _).alloc (Nat.le_refl _) _) d0
  have x1 : (wa.alloc (Obj.cells #[.int .i64 0, .int .i64 0, .int .u64 0, .int .u64 0, .int .u64 0, .slice none 0 0, .slice none 0 0, .int .u32 0, .int .u32 0, .slice none 0 0, .bool false, .int .i64 0] 27)).cell? ⟨g, o + 1, none⟩ = some (.int .u8 y) := cell_kept ((Below.refl _ _).alloc (Nat.le_refl _) _) d1
  go_region
  go_upto_region 2 with (fail)
  refine wp_world fun W0 HW => ?_
  have HZ0 : Hid (Row W0 w.heap.size (fcells Fr.zero (.slice none 0 0) (.slice none 0 0) (.slice none 0 0)) 27) := by show Row _ _ _ _; rw [HW.out]; exact (HRa.out.alloc _).drawn _
  have HR0 : Hid (Row W0 wa.heap.size (fcells { Fr.zero with kind := 11, path := y } (.slice none 0 0) (.slice none 0 0) (.slice none 0 0)) 27) := by show Row _ _ _ _; rw [HW.out]; exact (Row.new' _ _ _ _ _ rfl rfl).drawn _
  have HB0 : Hid (Below w.heap.size w W0) := by show Below _ _ _; rw [HW.out]; exact below_drawn (HBa.out.alloc HBa.out.size _) _
  have HQ : Hid (w.heap.size < wa.heap.size) := HRa.out.lt
  have y0 : W0.cell? ⟨g, o, none⟩ = some (.int .u8 11) := cell_kept HB0.out HC0.out
  clear HW d0 d1 x0 x1 HRa HBa
  generalize wa.heap.size = q at *
  go_upto_region 27 with (fail)
  clear y0
  have cc := HR0.out.cell 11 _ rfl
  have fz := HR0.out.frozen 11
  have by0 : W0.cell? ⟨g, o + 2, none⟩ = some (.int .u8 (ub (byte bs 2))) := (HB.out.kept HB0.out).byte 2 (by have := HN.out; omega)
  have k1 : (2 : Int) < (n : Int) := by omega
  have k3 : IntKind.i64.wrap (ub (byte bs 2)) = ub (byte bs 2) := by have := ub_bd (byte bs 2); unfold IntKind.wrap; simp [IntKind.bits, IntKind.signed]; omega
  have HE0 : Hid (ub (byte bs 2) = ((byte bs 2).toNat : Int)) := rfl
  generalize ub (byte bs 2) = z0 at *
  go_upto_region 28 with (fail)
  refine wp_world fun W1 HW => ?_
  have HR1 : Hid (Row W1 q (fcells { Fr.zero with kind := 11, path := y, which := z0 } (.slice none 0 0) (.slice none 0 0) (.slice none 0 0)) 27) := by show Row _ _ _ _; rw [HW.out]; exact HR0.out.set 11 _
  have HZ1 : Hid (Row W1 w.heap.size (fcells Fr.zero (.slice none 0 0) (.slice none 0 0) (.slice none 0 0)) 27) := by show Row _ _ _ _; rw [HW.out]; exact HZ0.out.setOther _ (show w.heap.size ≠ q by have := HQ.out; omega) _
  have HB1 : Hid (Below w.heap.size w W1) := by show Below _ _ _; rw [HW.out]; exact HB0.out.setCell (show w.heap.size ≤ q by have := HQ.out; omega) _
  clear HW HR0 HZ0 HB0 cc fz by0 k1 k3
  go_wp2_with (first
    | (show wpList _ _ _ (Oper.mk (some 106) (.load 27 (.tmp 3)) _ _ _ _ :: _) _ _; refine HR1.out.wpLoad 27 (.tmp 3) rfl rfl rfl _ Tryd.underlying27 rfl i27 ?_)
    | (show wpList _ _ _ (Oper.mk none (.store 27 (.tmp 2) (.tmp 106)) _ _ _ _ :: _) _ _; refine HZ1.out.wpStore' 27 (.tmp 2) (.tmp 106) (fcells { Fr.zero with kind := 11, path := y, which := z0 } (.slice none 0 0) (.slice none 0 0) (.slice none 0 0)) rfl rfl rfl rfl rfl (fcells_one _ _ _ _ _ _ _ _ _ _) i27 ?_; intro wz HZ))
  have R : Row wz w.heap.size (fcells { Fr.zero with kind := 11, path := y, which := z0 } (.slice none 0 0) (.slice none 0 0) (.slice none 0 0)) 27 := by rw [HZ.out]; exact HZ1.out.row _
  have hBz : Below w.heap.size w wz := by rw [HZ.out]; exact Go.below_setRow HB1.out (Nat.le_refl _) _
  have hF : rdf bs = ({ Fr.zero with kind := 11, path := y, which := z0 } : Fr) := by
    simp [rdf, hk, Fr.zero, HY.out, HE0.out]
  rw [hF]
  exact bodyPost_ret (R.result Tryd.results32 _ rfl _ Tryd.underlying27 rfl i27) rfl ⟨none, 0, none, 0, none, 0, _, rfl,
    { cells := rfl, data := BytesAt_nil _ _, ranges := RangesAt_nil _ _, mac := BytesAt_nil _ _, num := (show (0 : Nat) < 18446744073709551616 by decide), off := (show (0 : Nat) < 18446744073709551616 by decide), edge := (show (0 : Nat) < 18446744073709551616 by decide), rlt := (fun r h => by cases h), token := (show (0 : Nat) < 4294967296 by decide), nonce := (show (0 : Nat) < 4294967296 by decide), dlen := (show (0 : Nat) ≤ 281474976710656 by decide), rlen := (show (0 : Nat) ≤ 281474976710656 by decide), mlen := (show (0 : Nat) ≤ 281474976710656 by decide) }, hBz, (fun _ h => by cases h), (fun _ h => by cases h), (fun _ h => by cases h)⟩
end Go.Proofs.YtgkfnbbgohdalaaDoor
