import Derived.Test.YtnflgkobedbemaaGreatDoorGb10
namespace Go.Proofs.YtnflgkobedbemaaGreatDoor
open Go.RowKit Go.Maps Go.Sort
set_option maxRecDepth 100000

def c1 : Cf := ⟨1, 1, 1, 1, 1, 1, 1, 0, [], none, 0, 0, 0, 0, 0, none, 0, 0, none, 0, 0⟩
theorem c1_fit : c1.Fit := ⟨by decide, fun x hx => by cases hx⟩
theorem c1_at (w : World) : c1.At w := ⟨fun i h => absurd h (Nat.not_lt_zero _), by decide, by decide, by decide⟩
theorem sd0 : sd 0 = 0 := by decide
theorem good_new {w : World} (hK : Sh.KTab w) (h3 : 3 ≤ w.heap.size) :
    Calls Tryz.prog 9 #[.agg #[.int .i64 1, .int .i64 1, .int .i64 1, .int .i64 1, .int .i64 1, .int .i64 1, .int .i64 1, .int .i64 0, .slice none 0 0, .int .u64 0, .int .u64 0, .int .u64 0, .int .u64 0, .slice none 0 0, .slice none 0 0], .int .i64 0] w fun e w' => ∃ p, e = .returned (.tuple #[.pointer (some ⟨p, 0, none⟩), .int .i64 0]) ∧ EnZ w' p c1 0 ∧ Below w.heap.size w w' := by
  have := gnew_yes (w := w) c1 (n := 0) rfl (c1_at w) c1_fit hK h3 0
  rw [sd0] at this
  exact this
theorem good_stat {w : World} {p : Nat} (h : EnZ w p c1 0) :
    Calls Tryz.prog 12 #[.pointer (some ⟨p, 0, none⟩)] w fun e w' => ∃ g, e = .returned (.agg #[.int .i64 0, .bool false, .bool false, .int .u64 0, .int .u64 0, .int .u64 0, .int .u64 0, .int .u64 1, .int .i64 1, .int .u64 0, .int .u64 1, .int .i64 0, .int .i64 0, .int .i64 0, .slice (some ⟨g, 0, none⟩) 1 1]) ∧ Below w.heap.size w w' := by
  refine (gstat_z h).mono ?_
  rintro e w' ⟨⟨v, rfl, g, rfl, _⟩, hb⟩
  exact ⟨g, rfl, hb⟩
theorem build28 (w : World) : (Instr.build 28 #[(0, .int .i64 1), (1, .int .i64 1), (2, .int .i64 1), (3, .int .i64 1), (4, .int .i64 1), (5, .int .i64 1), (6, .int .i64 1)]).run Tryz.prog w = .ok (.agg #[.int .i64 1, .int .i64 1, .int .i64 1, .int .i64 1, .int .i64 1, .int .i64 1, .int .i64 1, .int .i64 0, .slice none 0 0, .int .u64 0, .int .u64 0, .int .u64 0, .int .u64 0, .slice none 0 0, .slice none 0 0]) w := by kernel_rfl
theorem build38 (w : World) : (Instr.build 38 #[]).run Tryz.prog w = .ok (.agg (stL 0 0 0 0 0 (.slice none 0 0)).toArray) w := by kernel_rfl
theorem stZ_eq : stZ = stL 0 0 0 0 0 (.slice none 0 0) := rfl
theorem fld7 (w : World) (g : Nat) : (Instr.field 38 (.agg #[.int .i64 0, .bool false, .bool false, .int .u64 0, .int .u64 0, .int .u64 0, .int .u64 0, .int .u64 1, .int .i64 1, .int .u64 0, .int .u64 1, .int .i64 0, .int .i64 0, .int .i64 0, .slice (some ⟨g, 0, none⟩) 1 1]) 7).run Tryz.prog w = .ok (.int .u64 1) w := by kernel_rfl
set_option maxHeartbeats 8000000 in
theorem nobody_t {w : World} (b : Value) (n path : Int) (hK : Sh.KTab w) (h3 : 3 ≤ w.heap.size) :
    Calls Tryz.prog 4 #[.bool true, b, .int .i64 n, .int .i64 path] w fun e w' => e = .returned (.bool true) ∧ Below w.heap.size w w' := by
  have HK := hid hK
  have H3 := hid h3
  have hb28 := build28
  have hb38 := build38
  clear hK h3
  go_enter Tryz.func4, Tryz.ntmps4
  go_upto_region 4 with fail
  refine wp_world fun W HW => ?_
  have HBW : Hid (Below w.heap.size w W) := by show Below _ _ _; rw [HW.out]; exact (Below.refl _ _).alloc (Nat.le_refl _) _
  have HNW : Hid (NoE W (.pointer (some ⟨w.heap.size, 0, none⟩))) := .inr ⟨w.heap.size, rfl, by rw [HW.out]; exact (Row.new w _ _).cell 0 _ rfl⟩
  have HGN := hid (good_new (HK.out.kept HBW.out) (Nat.le_trans H3.out HBW.out.size))
  clear HW HK H3
  generalize (.pointer (some ⟨w.heap.size, 0, none⟩) : Value) = v at *
  go_upto_region 5 with (go_at_call 9; refine HGN.out.mono ?_; rintro e w1 ⟨p1, rfl, hE1, hb1⟩; have HE1 := hid hE1; have HB1 := hid (HBW.out.trans (hb1.mono HBW.out.size)); have HN1 := hid (HNW.out.kept hb1); clear hE1 hb1)
  have HGS := hid (good_stat HE1.out)
  have hf7 := fld7
  clear HGN HBW HNW
  go_upto_region 7 with (go_at_call 12; refine HGS.out.mono ?_; rintro e w2 ⟨g2, rfl, hb2⟩; have HB2 := hid (HB1.out.trans (hb2.mono HB1.out.size)); have HN2 := hid (HN1.out.kept hb2); clear hb2)
  have HWR := hid (gwrite_nb HN2.out b)
  have HRD := hid (gread_nb HN2.out (.int .i64 n))
  have HRC := hid (greceive_nb HN2.out (.int .i64 path) b)
  clear HGS HE1 HB1 HN1
  go_upto_region 10 with (first
    | (go_at_call 15; refine HWR.out.mono ?_; rintro e w3 ⟨rfl, rfl⟩)
    | (go_at_call 16; refine HRD.out.mono ?_; rintro e w4 ⟨rfl, rfl⟩)
    | (go_at_call 17; refine HRC.out.mono ?_; rintro e w5 ⟨rfl, hb5⟩; have HB5 := hid (HB2.out.trans (hb5.mono HB2.out.size)); have HN5 := hid (HN2.out.kept hb5); clear hb5))
  have HTK := hid (gtick_nb HN5.out (.int .i64 n))
  have HCL := hid (gclose_nb HN5.out)
  have HAB := hid (gabort_nb HN5.out)
  have HOU := hid (gout_nb HN5.out)
  have HST := hid (gstat_nb HN5.out)
  rw [stZ_eq] at HST
  have HSM := hid (fun W => same_0 (w := W) 0 0 0 0 0)
  clear HWR HRD HRC HN2 HB2
  go_wp2_with (first
    | (go_at_call 18; refine HTK.out.mono ?_; rintro e w6 ⟨rfl, rfl⟩)
    | (go_at_call 19; refine HCL.out.mono ?_; rintro e w7 ⟨rfl, rfl⟩)
    | (go_at_call 20; refine HAB.out.mono ?_; rintro e w8 ⟨rfl, rfl⟩)
    | (go_at_call 14; refine HOU.out.mono ?_; rintro e w9 ⟨rfl, rfl⟩)
    | (go_at_call 12; refine HST.out.mono ?_; rintro e wx ⟨rfl, hbx⟩; have HBX := hid (HB5.out.trans (hbx.mono HB5.out.size)); clear hbx)
    | (go_at_call 11; refine (HSM.out _).mono ?_; rintro e wy ⟨rfl, hby⟩; have HBY := hid (HBX.out.trans (hby.mono HBX.out.size)); clear hby))
  go_ret
  exact ⟨rfl, HBY.out⟩
set_option maxHeartbeats 8000000 in
theorem nobody_f {w : World} (b : Value) (n path : Int) (hK : Sh.KTab w) (h3 : 3 ≤ w.heap.size) :
    Calls Tryz.prog 4 #[.bool false, b, .int .i64 n, .int .i64 path] w fun e w' => e = .returned (.bool true) ∧ Below w.heap.size w w' := by
  have HK := hid hK
  have H3 := hid h3
  have hb28 := build28
  have hb38 := build38
  clear hK h3
  go_enter Tryz.func4, Tryz.ntmps4
  go_upto_region 4 with fail
  refine wp_world fun W HW => ?_
  have HBW : Hid (Below w.heap.size w W) := by show Below _ _ _; rw [HW.out]; exact Below.refl _ _
  have HNW : Hid (NoE W (.pointer none)) := .inl rfl
  have HGN := hid (good_new (HK.out.kept HBW.out) (Nat.le_trans H3.out HBW.out.size))
  clear HW HK H3
  go_upto_region 5 with (go_at_call 9; refine HGN.out.mono ?_; rintro e w1 ⟨p1, rfl, hE1, hb1⟩; have HE1 := hid hE1; have HB1 := hid (HBW.out.trans (hb1.mono HBW.out.size)); have HN1 := hid (HNW.out.kept hb1); clear hE1 hb1)
  have HGS := hid (good_stat HE1.out)
  have hf7 := fld7
  clear HGN HBW HNW
  go_upto_region 7 with (go_at_call 12; refine HGS.out.mono ?_; rintro e w2 ⟨g2, rfl, hb2⟩; have HB2 := hid (HB1.out.trans (hb2.mono HB1.out.size)); have HN2 := hid (HN1.out.kept hb2); clear hb2)
  have HWR := hid (gwrite_nb HN2.out b)
  have HRD := hid (gread_nb HN2.out (.int .i64 n))
  have HRC := hid (greceive_nb HN2.out (.int .i64 path) b)
  clear HGS HE1 HB1 HN1
  go_upto_region 10 with (first
    | (go_at_call 15; refine HWR.out.mono ?_; rintro e w3 ⟨rfl, rfl⟩)
    | (go_at_call 16; refine HRD.out.mono ?_; rintro e w4 ⟨rfl, rfl⟩)
    | (go_at_call 17; refine HRC.out.mono ?_; rintro e w5 ⟨rfl, hb5⟩; have HB5 := hid (HB2.out.trans (hb5.mono HB2.out.size)); have HN5 := hid (HN2.out.kept hb5); clear hb5))
  have HTK := hid (gtick_nb HN5.out (.int .i64 n))
  have HCL := hid (gclose_nb HN5.out)
  have HAB := hid (gabort_nb HN5.out)
  have HOU := hid (gout_nb HN5.out)
  have HST := hid (gstat_nb HN5.out)
  rw [stZ_eq] at HST
  have HSM := hid (fun W => same_0 (w := W) 0 0 0 0 0)
  clear HWR HRD HRC HN2 HB2
  go_wp2_with (first
    | (go_at_call 18; refine HTK.out.mono ?_; rintro e w6 ⟨rfl, rfl⟩)
    | (go_at_call 19; refine HCL.out.mono ?_; rintro e w7 ⟨rfl, rfl⟩)
    | (go_at_call 20; refine HAB.out.mono ?_; rintro e w8 ⟨rfl, rfl⟩)
    | (go_at_call 14; refine HOU.out.mono ?_; rintro e w9 ⟨rfl, rfl⟩)
    | (go_at_call 12; refine HST.out.mono ?_; rintro e wx ⟨rfl, hbx⟩; have HBX := hid (HB5.out.trans (hbx.mono HB5.out.size)); clear hbx)
    | (go_at_call 11; refine (HSM.out _).mono ?_; rintro e wy ⟨rfl, hby⟩; have HBY := hid (HBX.out.trans (hby.mono HBX.out.size)); clear hby))
  go_ret
  exact ⟨rfl, HBY.out⟩
theorem nobody_any {w : World} (pl : Bool) (b : Value) (n path : Int) (hK : Sh.KTab w) (h3 : 3 ≤ w.heap.size) :
    Calls Tryz.prog 4 #[.bool pl, b, .int .i64 n, .int .i64 path] w fun e w' => e = .returned (.bool true) ∧ Below w.heap.size w w' := by
  cases pl with
  | true => exact nobody_t b n path hK h3
  | false => exact nobody_f b n path hK h3
end Go.Proofs.YtnflgkobedbemaaGreatDoor
