import Derived.Test.YtjnmfedefmemnaaNew1
namespace Go.Proofs.Ytjnmfedefmemnaa
open Go.RowKit
set_option maxRecDepth 100000

set_option maxHeartbeats 400000 in
theorem paths_in {w : World} {p n cap : Nat} {a : Option Addr} (h : w.cell? ⟨p, 0, none⟩ = some (.slice a n cap)) : Calls Try.prog 19 #[.pointer (some ⟨p, 0, none⟩)] w fun e w' => e = .returned (.int .i64 n) ∧ w' = w := by
  go_enter Try.func19, Try.ntmps19
  go_wp2
  go_ret
  exact ⟨rfl, rfl⟩
theorem eq41 (w : World) : (Op.equalIn 10000 41 (.agg vz.toArray) (.agg vz.toArray)).run Try.prog w = .ok true w := by kernel_rfl
theorem vz_eq : vz.toArray = #[.bool false, .int .i64 0, .int .i64 0, .int .i64 0, .int .u64 0, .int .u64 0, .int .u64 0, .int .u64 0, .int .u64 0, .int .u64 0, .int .u64 0, .int .u64 0, .int .u64 0, .int .u64 0] := rfl

def az : List Value := [.int .i64 0, .int .i64 0, .int .i64 0, .int .i64 0, .int .i64 0, .int .i64 0, .int .i64 0, .int .i64 0]
def a42 : List Value := [.int .i64 42, .int .i64 42, .int .i64 42, .int .i64 42, .int .i64 42, .int .i64 42, .int .i64 42, .int .i64 42]
theorem a42_one : ∀ v ∈ a42, v.oneCell' = true := by decide
theorem i55 : (Try.prog.info? 55).map (·.size) = some 8 := by kernel_rfl
set_option maxHeartbeats 2000000 in
theorem nobody_f {w : World} (x y z : Int) (up : Bool) : Calls Try.prog 7 #[.bool false, .int .i64 x, .int .i64 y, .int .i64 z, .bool up] w fun e w' => e = .returned (.bool true) ∧ Below w.heap.size w w' := by
  go_enter Try.func7, Try.ntmps7
  go_upto_region 4 with (fail)
  refine wp_world fun wn HW => ?_
  have HV0 : Hid (NoNet wn (.pointer none)) := .inl rfl
  have HB0 : Hid (Below w.heap.size w wn) := by show Below _ _ _; rw [HW.out]; exact Below.refl _ _
  clear HW
  have hcc : (wn.alloc (.cells #[.int .i64 1] 3)).cell? ⟨wn.heap.size, 0, none⟩ = some (.int .i64 1) := (Row.new wn [.int .i64 1] 3).cell 0 _ rfl
  have HN := hid (new_one (by decide) (by decide) hcc)
  have HBn := hid (below_grow (Below.refl wn.heap.size wn) (.cells #[.int .i64 1] 3))
  clear hcc
  go_upto_region 7 with (first
    | (go_at_call 9; refine Calls.mono HN.out ?_; rintro e w1 ⟨p, q, rfl, hq, hpq, hr, hn, hb⟩; have HC := hid (hn.cell 0 _ rfl); have HB1 := hid (HBn.out.trans (hb.mono HBn.out.size)); clear hr hn hb hq hpq)
    | (go_at_call 19; refine (paths_in HC.out).mono ?_; rintro e w' ⟨rfl, rfl⟩))
  have HV1 := hid (NoNet.kept HV0.out HB1.out)
  have HBB1 := hid (HB0.out.trans (HB1.out.mono HB0.out.size))
  clear HC HV0 HB0 HN HBn HB1
  go_upto_region 8 with (go_at_call 10; refine (put_no (NoNet.kept HV1.out (below_grow (Below.refl _ _) _)) _ _ _).mono ?_; rintro e w2 ⟨rfl, rfl⟩)
  refine wp_world fun w2 HW => ?_
  have HV2 : Hid (NoNet w2 (Value.pointer none)) := by show NoNet _ _; rw [HW.out]; exact NoNet.kept HV1.out (below_grow (Below.refl _ _) _)
  have HB2 : Hid (Below w.heap.size w w2) := by show Below _ _ _; rw [HW.out]; exact HBB1.out.alloc HBB1.out.size _
  clear HW HV1 HBB1
  go_upto_region 9 with (go_at_call 13; refine (take_no HV2.out _ _ _).mono ?_; rintro e w3 ⟨rfl, hb⟩; have HV3 := hid (NoNet.kept HV2.out hb); have HB3 := hid (HB2.out.trans (hb.mono HB2.out.size)); clear hb)
  refine wp_world fun w4 HW => ?_
  have HV4 : Hid (NoNet w4 (Value.pointer none)) := by show NoNet _ _; rw [HW.out]; exact NoNet.kept HV3.out (below_grow (Below.refl _ _) _)
  have HB4 : Hid (Below w.heap.size w w4) := by show Below _ _ _; rw [HW.out]; exact HB3.out.alloc HB3.out.size _
  have HF4 : Hid (Row w4 w3.heap.size [.slice none 0 0, .bool false] 32) := by show Row _ _ _ _; rw [HW.out]; exact Row.new' _ _ _ _ _ rfl rfl
  generalize w3.heap.size = fb at *
  clear HW HV3 HB3 HV2 HB2
  go_upto_region 10 with (go_at_call 11; refine (double_no HV4.out _ _ _).mono ?_; rintro e w5 ⟨rfl, hb⟩; have HV5 := hid (NoNet.kept HV4.out hb); have HB5 := hid (HB4.out.trans (hb.mono HB4.out.size)); have HF5 := hid (HF4.out.kept hb HF4.out.lt); clear hb)
  clear HV4 HB4 HF4
  go_upto_region 11 with (go_at_call 12; refine (peek_no HV5.out _ _ _).mono ?_; rintro e w6 ⟨rfl, hb⟩; have HV6 := hid (NoNet.kept HV5.out hb); have HB6 := hid (HB5.out.trans (hb.mono HB5.out.size)); have HF6 := hid (HF5.out.kept hb HF5.out.lt); clear hb)
  refine wp_world fun w7 HW => ?_
  have HV7 : Hid (NoNet w7 (Value.pointer none)) := by show NoNet _ _; rw [HW.out]; exact NoNet.kept HV6.out (below_grow (Below.refl _ _) _)
  have HB7 : Hid (Below w.heap.size w w7) := by show Below _ _ _; rw [HW.out]; exact HB6.out.alloc HB6.out.size _
  have HF7 : Hid (Row w7 fb [.slice none 0 0, .bool false] 32) := by show Row _ _ _ _; rw [HW.out]; exact HF6.out.alloc _
  have HG7 : Hid (Row w7 w6.heap.size [.slice none 0 0, .bool false] 32) := by show Row _ _ _ _; rw [HW.out]; exact Row.new' _ _ _ _ _ rfl rfl
  generalize w6.heap.size = gb at *
  clear HW HV6 HB6 HF6 HV5 HB5 HF5
  go_upto_region 12 with (first
    | (go_at_call 15; refine (look_no HV7.out _).mono ?_; rintro e w8 ⟨rfl, hb⟩; have HV8 := hid (NoNet.kept HV7.out hb); have HB8 := hid (HB7.out.trans (hb.mono HB7.out.size)); have HF8 := hid (HF7.out.kept hb HF7.out.lt); have HG8 := hid (HG7.out.kept hb HG7.out.lt); clear hb)
    | (show wpList _ _ _ (Oper.mk none (.store 41 (.tmp 22) (.tmp 81)) _ _ _ _ :: _) _ _; refine Row.wpStore' (Row.new' w8 vz.toArray vz 41 _ rfl rfl) 41 (.tmp 22) (.tmp 81) vz rfl rfl rfl rfl rfl vz_one i41 ?_; intro w9 HW))
  have HB9 : Hid (Below w.heap.size w w9) := by show Below _ _ _; rw [HW.out]; exact below_setRow (HB8.out.alloc HB8.out.size _) HB8.out.size _
  have HK9 : Hid (Below w8.heap.size w8 w9) := by show Below _ _ _; rw [HW.out]; exact below_setRow (below_grow (Below.refl _ _) _) (Nat.le_refl _) _
  have HL9 : Hid (Row w9 w8.heap.size vz 41) := by show Row _ _ _ _; rw [HW.out]; exact (Row.new' w8 vz.toArray vz 41 _ rfl rfl).row _
  have HV9 := hid (NoNet.kept HV8.out HK9.out)
  have HF9 := hid (HF8.out.kept HK9.out HF8.out.lt)
  have HG9 := hid (HG8.out.kept HK9.out HG8.out.lt)
  generalize w8.heap.size = lb at *
  clear HW HV8 HB8 HF8 HG8 HV7 HB7 HF7 HG7 HK9
  go_upto_region 13 with (first
    | (go_at_call 20; refine (drop_no HV9.out _ _ _).mono ?_; rintro e w10 ⟨rfl, hb⟩; have HV10 := hid (NoNet.kept HV9.out hb); have HB10 := hid (HB9.out.trans (hb.mono HB9.out.size)); have HF10 := hid (HF9.out.kept hb HF9.out.lt); have HG10 := hid (HG9.out.kept hb HG9.out.lt); have HL10 := hid (HL9.out.kept hb HL9.out.lt); clear hb)
    | (go_at_call 17; refine (spoil_no HV10.out _ _ _ _ _).mono ?_; rintro e w11 ⟨rfl, hb⟩; have HV11 := hid (NoNet.kept HV10.out hb); have HB11 := hid (HB10.out.trans (hb.mono HB10.out.size)); have HF11 := hid (HF10.out.kept hb HF10.out.lt); have HG11 := hid (HG10.out.kept hb HG10.out.lt); have HL11 := hid (HL10.out.kept hb HL10.out.lt); clear hb)
    | (go_at_call 18; refine (set_no HV11.out _ _).mono ?_; rintro e w12 ⟨rfl, rfl⟩)
    | (show wpList _ _ _ (Oper.mk none (.store 55 (.tmp 24) (.tmp 102)) _ _ _ _ :: _) _ _; refine Row.wpStore' (Row.new' w12 _ az 55 _ rfl rfl) 55 (.tmp 24) (.tmp 102) a42 rfl rfl rfl rfl rfl a42_one i55 ?_; intro w13 HW))
  have HB13 : Hid (Below w.heap.size w w13) := by show Below _ _ _; rw [HW.out]; exact below_setRow (HB11.out.alloc HB11.out.size _) HB11.out.size _
  have HK13 : Hid (Below w12.heap.size w12 w13) := by show Below _ _ _; rw [HW.out]; exact below_setRow (below_grow (Below.refl _ _) _) (Nat.le_refl _) _
  have HA13 : Hid (Row w13 w12.heap.size a42 55) := by show Row _ _ _ _; rw [HW.out]; exact (Row.new' w12 _ az 55 _ rfl rfl).row _
  have HV13 := hid (NoNet.kept HV11.out HK13.out)
  have HF13 := hid (HF11.out.kept HK13.out HF11.out.lt)
  have HG13 := hid (HG11.out.kept HK13.out HG11.out.lt)
  have HL13 := hid (HL11.out.kept HK13.out HL11.out.lt)
  generalize w12.heap.size = ab at *
  clear HW HV9 HB9 HF9 HG9 HL9 HV10 HB10 HF10 HG10 HL10 HV11 HB11 HF11 HG11 HL11 HK13
  have a0 := HA13.out.cell 0 _ rfl
  have a1 := HA13.out.cell 1 _ rfl
  have a2 := HA13.out.cell 2 _ rfl
  have a3 := HA13.out.cell 3 _ rfl
  have a4 := HA13.out.cell 4 _ rfl
  have a5 := HA13.out.cell 5 _ rfl
  have a6 := HA13.out.cell 6 _ rfl
  have a7 := HA13.out.cell 7 _ rfl
  go_wp2
  refine wp_loop_rounds 9 ?_
  iterate 8 (rw [rounds_succ]; go_wp2)
  rw [rounds_succ]
  go_upto_region 18 with (fail)
  clear a0 a1 a2 a3 a4 a5 a6 a7 HA13
  have f0 := HF13.out.cell 0 _ rfl
  have f1 := HF13.out.cell 1 _ rfl
  have g0 := HG13.out.cell 0 _ rfl
  have g1 := HG13.out.cell 1 _ rfl
  have l0 := HL13.out.cell 0 _ (show vz[0]? = some (Value.bool false) from rfl)
  have l1 := HL13.out.cell 1 _ (show vz[1]? = some (Value.int IntKind.i64 0) from rfl)
  have l2 := HL13.out.cell 2 _ (show vz[2]? = some (Value.int IntKind.i64 0) from rfl)
  have l3 := HL13.out.cell 3 _ (show vz[3]? = some (Value.int IntKind.i64 0) from rfl)
  have l4 := HL13.out.cell 4 _ (show vz[4]? = some (Value.int IntKind.u64 0) from rfl)
  have l5 := HL13.out.cell 5 _ (show vz[5]? = some (Value.int IntKind.u64 0) from rfl)
  have l6 := HL13.out.cell 6 _ (show vz[6]? = some (Value.int IntKind.u64 0) from rfl)
  have l7 := HL13.out.cell 7 _ (show vz[7]? = some (Value.int IntKind.u64 0) from rfl)
  have l8 := HL13.out.cell 8 _ (show vz[8]? = some (Value.int IntKind.u64 0) from rfl)
  have l9 := HL13.out.cell 9 _ (show vz[9]? = some (Value.int IntKind.u64 0) from rfl)
  have l10 := HL13.out.cell 10 _ (show vz[10]? = some (Value.int IntKind.u64 0) from rfl)
  have l11 := HL13.out.cell 11 _ (show vz[11]? = some (Value.int IntKind.u64 0) from rfl)
  have l12 := HL13.out.cell 12 _ (show vz[12]? = some (Value.int IntKind.u64 0) from rfl)
  have l13 := HL13.out.cell 13 _ (show vz[13]? = some (Value.int IntKind.u64 0) from rfl)
  have heq := eq41
  rw [vz_eq] at heq
  clear HF13 HG13 HL13
  go_wp2_with (go_at_call 19; refine (paths_no HV13.out).mono ?_; rintro e w14 ⟨rfl, rfl⟩)
  go_ret
  exact ⟨rfl, HB13.out⟩
set_option maxHeartbeats 2000000 in
theorem nobody_t {w : World} (x y z : Int) (up : Bool) : Calls Try.prog 7 #[.bool true, .int .i64 x, .int .i64 y, .int .i64 z, .bool up] w fun e w' => e = .returned (.bool true) ∧ Below w.heap.size w w' := by
  go_enter Try.func7, Try.ntmps7
  go_upto_region 4 with (fail)
  refine wp_world fun wn HW => ?_
  have HV0 : Hid (NoNet wn (.pointer (some ⟨w.heap.size, 0, none⟩))) := by show NoNet _ _; rw [HW.out]; exact .inr ⟨_, rfl, (Row.new w [.slice none 0 0] 52).cell 0 _ rfl⟩
  have HB0 : Hid (Below w.heap.size w wn) := by show Below _ _ _; rw [HW.out]; exact below_grow (Below.refl _ _) _
  clear HW
  obtain ⟨b, hb⟩ : ∃ b, b = w.heap.size := ⟨_, rfl⟩
  rw [← hb] at HV0 ⊢
  have HBB := hid hb
  clear hb
  have hcc : (wn.alloc (.cells #[.int .i64 1] 3)).cell? ⟨wn.heap.size, 0, none⟩ = some (.int .i64 1) := (Row.new wn [.int .i64 1] 3).cell 0 _ rfl
  have HN := hid (new_one (by decide) (by decide) hcc)
  have HBn := hid (below_grow (Below.refl wn.heap.size wn) (.cells #[.int .i64 1] 3))
  clear hcc
  go_upto_region 7 with (first
    | (go_at_call 9; refine Calls.mono HN.out ?_; rintro e w1 ⟨p, q, rfl, hq, hpq, hr, hn, hb⟩; have HC := hid (hn.cell 0 _ rfl); have HB1 := hid (HBn.out.trans (hb.mono HBn.out.size)); clear hr hn hb hq hpq)
    | (go_at_call 19; refine (paths_in HC.out).mono ?_; rintro e w' ⟨rfl, rfl⟩))
  have HV1 := hid (NoNet.kept HV0.out HB1.out)
  have HBB1 := hid (HB0.out.trans (HB1.out.mono HB0.out.size))
  clear HC HV0 HB0 HN HBn HB1
  go_upto_region 8 with (go_at_call 10; refine (put_no (NoNet.kept HV1.out (below_grow (Below.refl _ _) _)) _ _ _).mono ?_; rintro e w2 ⟨rfl, rfl⟩)
  refine wp_world fun w2 HW => ?_
  have HV2 : Hid (NoNet w2 (Value.pointer (some ⟨b, 0, none⟩))) := by show NoNet _ _; rw [HW.out]; exact NoNet.kept HV1.out (below_grow (Below.refl _ _) _)
  have HB2 : Hid (Below w.heap.size w w2) := by show Below _ _ _; rw [HW.out]; exact HBB1.out.alloc HBB1.out.size _
  clear HW HV1 HBB1
  go_upto_region 9 with (go_at_call 13; refine (take_no HV2.out _ _ _).mono ?_; rintro e w3 ⟨rfl, hb⟩; have HV3 := hid (NoNet.kept HV2.out hb); have HB3 := hid (HB2.out.trans (hb.mono HB2.out.size)); clear hb)
  refine wp_world fun w4 HW => ?_
  have HV4 : Hid (NoNet w4 (Value.pointer (some ⟨b, 0, none⟩))) := by show NoNet _ _; rw [HW.out]; exact NoNet.kept HV3.out (below_grow (Below.refl _ _) _)
  have HB4 : Hid (Below w.heap.size w w4) := by show Below _ _ _; rw [HW.out]; exact HB3.out.alloc HB3.out.size _
  have HF4 : Hid (Row w4 w3.heap.size [.slice none 0 0, .bool false] 32) := by show Row _ _ _ _; rw [HW.out]; exact Row.new' _ _ _ _ _ rfl rfl
  generalize w3.heap.size = fb at *
  clear HW HV3 HB3 HV2 HB2
  go_upto_region 10 with (go_at_call 11; refine (double_no HV4.out _ _ _).mono ?_; rintro e w5 ⟨rfl, hb⟩; have HV5 := hid (NoNet.kept HV4.out hb); have HB5 := hid (HB4.out.trans (hb.mono HB4.out.size)); have HF5 := hid (HF4.out.kept hb HF4.out.lt); clear hb)
  clear HV4 HB4 HF4
  go_upto_region 11 with (go_at_call 12; refine (peek_no HV5.out _ _ _).mono ?_; rintro e w6 ⟨rfl, hb⟩; have HV6 := hid (NoNet.kept HV5.out hb); have HB6 := hid (HB5.out.trans (hb.mono HB5.out.size)); have HF6 := hid (HF5.out.kept hb HF5.out.lt); clear hb)
  refine wp_world fun w7 HW => ?_
  have HV7 : Hid (NoNet w7 (Value.pointer (some ⟨b, 0, none⟩))) := by show NoNet _ _; rw [HW.out]; exact NoNet.kept HV6.out (below_grow (Below.refl _ _) _)
  have HB7 : Hid (Below w.heap.size w w7) := by show Below _ _ _; rw [HW.out]; exact HB6.out.alloc HB6.out.size _
  have HF7 : Hid (Row w7 fb [.slice none 0 0, .bool false] 32) := by show Row _ _ _ _; rw [HW.out]; exact HF6.out.alloc _
  have HG7 : Hid (Row w7 w6.heap.size [.slice none 0 0, .bool false] 32) := by show Row _ _ _ _; rw [HW.out]; exact Row.new' _ _ _ _ _ rfl rfl
  generalize w6.heap.size = gb at *
  clear HW HV6 HB6 HF6 HV5 HB5 HF5
  go_upto_region 12 with (first
    | (go_at_call 15; refine (look_no HV7.out _).mono ?_; rintro e w8 ⟨rfl, hb⟩; have HV8 := hid (NoNet.kept HV7.out hb); have HB8 := hid (HB7.out.trans (hb.mono HB7.out.size)); have HF8 := hid (HF7.out.kept hb HF7.out.lt); have HG8 := hid (HG7.out.kept hb HG7.out.lt); clear hb)
    | (show wpList _ _ _ (Oper.mk none (.store 41 (.tmp 22) (.tmp 81)) _ _ _ _ :: _) _ _; refine Row.wpStore' (Row.new' w8 vz.toArray vz 41 _ rfl rfl) 41 (.tmp 22) (.tmp 81) vz rfl rfl rfl rfl rfl vz_one i41 ?_; intro w9 HW))
  have HB9 : Hid (Below w.heap.size w w9) := by show Below _ _ _; rw [HW.out]; exact below_setRow (HB8.out.alloc HB8.out.size _) HB8.out.size _
  have HK9 : Hid (Below w8.heap.size w8 w9) := by show Below _ _ _; rw [HW.out]; exact below_setRow (below_grow (Below.refl _ _) _) (Nat.le_refl _) _
  have HL9 : Hid (Row w9 w8.heap.size vz 41) := by show Row _ _ _ _; rw [HW.out]; exact (Row.new' w8 vz.toArray vz 41 _ rfl rfl).row _
  have HV9 := hid (NoNet.kept HV8.out HK9.out)
  have HF9 := hid (HF8.out.kept HK9.out HF8.out.lt)
  have HG9 := hid (HG8.out.kept HK9.out HG8.out.lt)
  generalize w8.heap.size = lb at *
  clear HW HV8 HB8 HF8 HG8 HV7 HB7 HF7 HG7 HK9
  go_upto_region 13 with (first
    | (go_at_call 20; refine (drop_no HV9.out _ _ _).mono ?_; rintro e w10 ⟨rfl, hb⟩; have HV10 := hid (NoNet.kept HV9.out hb); have HB10 := hid (HB9.out.trans (hb.mono HB9.out.size)); have HF10 := hid (HF9.out.kept hb HF9.out.lt); have HG10 := hid (HG9.out.kept hb HG9.out.lt); have HL10 := hid (HL9.out.kept hb HL9.out.lt); clear hb)
    | (go_at_call 17; refine (spoil_no HV10.out _ _ _ _ _).mono ?_; rintro e w11 ⟨rfl, hb⟩; have HV11 := hid (NoNet.kept HV10.out hb); have HB11 := hid (HB10.out.trans (hb.mono HB10.out.size)); have HF11 := hid (HF10.out.kept hb HF10.out.lt); have HG11 := hid (HG10.out.kept hb HG10.out.lt); have HL11 := hid (HL10.out.kept hb HL10.out.lt); clear hb)
    | (go_at_call 18; refine (set_no HV11.out _ _).mono ?_; rintro e w12 ⟨rfl, rfl⟩)
    | (show wpList _ _ _ (Oper.mk none (.store 55 (.tmp 24) (.tmp 102)) _ _ _ _ :: _) _ _; refine Row.wpStore' (Row.new' w12 _ az 55 _ rfl rfl) 55 (.tmp 24) (.tmp 102) a42 rfl rfl rfl rfl rfl a42_one i55 ?_; intro w13 HW))
  have HB13 : Hid (Below w.heap.size w w13) := by show Below _ _ _; rw [HW.out]; exact below_setRow (HB11.out.alloc HB11.out.size _) HB11.out.size _
  have HK13 : Hid (Below w12.heap.size w12 w13) := by show Below _ _ _; rw [HW.out]; exact below_setRow (below_grow (Below.refl _ _) _) (Nat.le_refl _) _
  have HA13 : Hid (Row w13 w12.heap.size a42 55) := by show Row _ _ _ _; rw [HW.out]; exact (Row.new' w12 _ az 55 _ rfl rfl).row _
  have HV13 := hid (NoNet.kept HV11.out HK13.out)
  have HF13 := hid (HF11.out.kept HK13.out HF11.out.lt)
  have HG13 := hid (HG11.out.kept HK13.out HG11.out.lt)
  have HL13 := hid (HL11.out.kept HK13.out HL11.out.lt)
  generalize w12.heap.size = ab at *
  clear HW HV9 HB9 HF9 HG9 HL9 HV10 HB10 HF10 HG10 HL10 HV11 HB11 HF11 HG11 HL11 HK13
  have a0 := HA13.out.cell 0 _ rfl
  have a1 := HA13.out.cell 1 _ rfl
  have a2 := HA13.out.cell 2 _ rfl
  have a3 := HA13.out.cell 3 _ rfl
  have a4 := HA13.out.cell 4 _ rfl
  have a5 := HA13.out.cell 5 _ rfl
  have a6 := HA13.out.cell 6 _ rfl
  have a7 := HA13.out.cell 7 _ rfl
  go_wp2
  refine wp_loop_rounds 9 ?_
  iterate 8 (rw [rounds_succ]; go_wp2)
  rw [rounds_succ]
  go_upto_region 18 with (fail)
  clear a0 a1 a2 a3 a4 a5 a6 a7 HA13
  have f0 := HF13.out.cell 0 _ rfl
  have f1 := HF13.out.cell 1 _ rfl
  have g0 := HG13.out.cell 0 _ rfl
  have g1 := HG13.out.cell 1 _ rfl
  have l0 := HL13.out.cell 0 _ (show vz[0]? = some (Value.bool false) from rfl)
  have l1 := HL13.out.cell 1 _ (show vz[1]? = some (Value.int IntKind.i64 0) from rfl)
  have l2 := HL13.out.cell 2 _ (show vz[2]? = some (Value.int IntKind.i64 0) from rfl)
  have l3 := HL13.out.cell 3 _ (show vz[3]? = some (Value.int IntKind.i64 0) from rfl)
  have l4 := HL13.out.cell 4 _ (show vz[4]? = some (Value.int IntKind.u64 0) from rfl)
  have l5 := HL13.out.cell 5 _ (show vz[5]? = some (Value.int IntKind.u64 0) from rfl)
  have l6 := HL13.out.cell 6 _ (show vz[6]? = some (Value.int IntKind.u64 0) from rfl)
  have l7 := HL13.out.cell 7 _ (show vz[7]? = some (Value.int IntKind.u64 0) from rfl)
  have l8 := HL13.out.cell 8 _ (show vz[8]? = some (Value.int IntKind.u64 0) from rfl)
  have l9 := HL13.out.cell 9 _ (show vz[9]? = some (Value.int IntKind.u64 0) from rfl)
  have l10 := HL13.out.cell 10 _ (show vz[10]? = some (Value.int IntKind.u64 0) from rfl)
  have l11 := HL13.out.cell 11 _ (show vz[11]? = some (Value.int IntKind.u64 0) from rfl)
  have l12 := HL13.out.cell 12 _ (show vz[12]? = some (Value.int IntKind.u64 0) from rfl)
  have l13 := HL13.out.cell 13 _ (show vz[13]? = some (Value.int IntKind.u64 0) from rfl)
  have heq := eq41
  rw [vz_eq] at heq
  clear HF13 HG13 HL13
  go_wp2_with (go_at_call 19; refine (paths_no HV13.out).mono ?_; rintro e w14 ⟨rfl, rfl⟩)
  go_ret
  exact ⟨rfl, HB13.out⟩
end Go.Proofs.Ytjnmfedefmemnaa
