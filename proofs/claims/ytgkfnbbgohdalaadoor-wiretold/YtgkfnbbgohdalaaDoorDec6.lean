import Derived.Test.YtgkfnbbgohdalaaDoorDec5
import Derived.WalkMore
import Derived.ScopeJumps
namespace Go.Proofs.YtgkfnbbgohdalaaDoor
open Go.RowKit
set_option maxRecDepth 100000

/-- What Decode gives: a frame in cells of its own, and an error. -/
def DecGives (w : World) (bs : List (BitVec 8)) (er : Int) (e : Ending) (w' : World) : Prop :=
  ∃ da dc ra rc ma mc c, e = .returned (.tuple #[.agg c.toArray, .int .i64 er]) ∧ FrAt w' c (if er = 0 then rdf bs else Fr.zero) da dc ra rc ma mc ∧ Below w.heap.size w w' ∧ (∀ ad, da = some ad → w.heap.size ≤ ad.block) ∧ (∀ ad, ra = some ad → w.heap.size ≤ ad.block) ∧ (∀ ad, ma = some ad → w.heap.size ≤ ad.block)
theorem zero_at (w : World) : FrAt w (fcells Fr.zero (.slice none 0 0) (.slice none 0 0) (.slice none 0 0)) Fr.zero none 0 none 0 none 0 :=
  { cells := rfl, data := BytesAt_nil _ _, ranges := RangesAt_nil _ _, mac := BytesAt_nil _ _, num := by decide, off := by decide, edge := by decide, rlt := (fun r h => by cases h), token := by decide, nonce := by decide, dlen := by decide, rlen := by decide, mlen := by decide }
theorem FrAt.row {w : World} {c : List Value} {f : Fr} {da ra ma : Option Addr} {dc rc mc q : Nat} (h : FrAt w c f da dc ra rc ma mc) (h1 : ∀ ad, da = some ad → ad.block ≠ q) (h2 : ∀ ad, ra = some ad → ad.block ≠ q) (h3 : ∀ ad, ma = some ad → ad.block ≠ q) (cs : Array Value) : FrAt (w.setRow q cs) c f da dc ra rc ma mc :=
  { h with data := h.data.row h1 cs, ranges := h.ranges.row h2 cs, mac := h.mac.row h3 cs }
theorem Row.result2 {P : Program} {w : World} {g t : Nat} {c : List Value} {fn : Func} {p u : Tmp} {ty : TypeId} {v : Value} (h : Row w g c t) (hr : fn.results = #[.cell p ty, .tmp u]) (tmps : Array Value) (hp : tmps.getD p undef = .pointer (some ⟨g, 0, none⟩)) (hu : tmps.getD u undef = v) (d : TypeDesc)
    (hd1 : P.underlying ty = some d) (hd : (match d with | .struct _ | .array _ _ => true | _ => false) = true) (hi : (P.info? ty).map (·.size) = some c.length) : (results fn tmps).run P w = .ok (.tuple #[.agg c.toArray, v]) w := by
  have hp' : tmps[p]?.getD undef = .pointer (some ⟨g, 0, none⟩) := by simpa using hp
  have hu' : tmps[u]?.getD undef = v := by simpa using hu
  simp [results, hr, hp', hu', asAddr, run_loadVar_row w g t ty c.toArray (0, 0) d h.at_ hd1 hd (by simpa using hi)]

set_option maxHeartbeats 2000000 in
theorem dec_short {w : World} {a : Option Addr} {n cap : Nat} {bs : List (BitVec 8)} (h : n < 7) : Calls Tryd.prog 15 #[.slice a n cap] w (DecGives w bs 30) := by
  have n1 : (n : Int) < 7 := by omega
  go_enter Tryd.func15, Tryd.ntmps15
  go_wp2
  refine wp_scope_jumps 0 (fun a' w' => (∃ (u6 u7 u8 u9 u10 u11 u12 u13 u14 u15 u16 u17 u18 u19 u20 u21 u22 u23 u24 u25 u26 u27 u28 u29 u30 u31 u32 u33 u34 u35 u36 : Value), a' = { tmps := #[.slice a n cap, undef, .pointer (some ⟨w.heap.size, 0, none⟩), .int .i64 0, .pointer (some ⟨w.heap.size + 1, 0, none⟩), .int .i64 30, u6, u7, u8, u9, u10, u11, u12, u13, u14, u15, u16, u17, u18, u19, u20, u21, u22, u23, u24, u25, u26, u27, u28, u29, u30, u31, u32, u33, u34, u35, u36], defers := [] }) ∧ Row w' w.heap.size (fcells Fr.zero (.slice none 0 0) (.slice none 0 0) (.slice none 0 0)) 27 ∧ Below w.heap.size w w') (fun _ _ => 0) rfl ?_ ?_
  case refine_2 =>
    rintro a' wj ⟨⟨u6, u7, u8, u9, u10, u11, u12, u13, u14, u15, u16, u17, u18, u19, u20, u21, u22, u23, u24, u25, u26, u27, u28, u29, u30, u31, u32, u33, u34, u35, u36, rfl⟩, HRJ, HBJ⟩
    have HRj : Hid _ := HRJ
    have HBj : Hid _ := HBJ
    clear HRJ HBJ
    go_wp2_with (show wpList _ _ _ (Oper.mk none (.store 27 (.tmp 2) (.tmp 35)) _ _ _ _ :: _) _ _; refine HRj.out.wpStore' 27 (.tmp 2) (.tmp 35) (fcells Fr.zero (.slice none 0 0) (.slice none 0 0) (.slice none 0 0)) rfl rfl rfl rfl rfl (fcells_one _ _ _ _ _ _ _ _ _ _) i27 ?_; intro wz HZ)
    have R : Row wz w.heap.size (fcells Fr.zero (.slice none 0 0) (.slice none 0 0) (.slice none 0 0)) 27 := by rw [HZ.out]; exact HRj.out.row _
    have hBz : Below w.heap.size w wz := by rw [HZ.out]; exact Go.below_setRow HBj.out (Nat.le_refl _) _
    exact bodyPost_ret (v := .tuple #[.agg (fcells Fr.zero (.slice none 0 0) (.slice none 0 0) (.slice none 0 0)).toArray, .int .i64 30]) (R.result2 Tryd.results15 _ rfl rfl _ Tryd.underlying27 rfl i27) rfl ⟨none, 0, none, 0, none, 0, _, rfl, by rw [if_neg (by decide)]; exact zero_at wz, hBz, (fun _ h => by cases h), (fun _ h => by cases h), (fun _ h => by cases h)⟩
  go_upto_region 3 with (fail)
  refine wp_world fun W0 HW => ?_
  have HZ0 : Hid (Row W0 w.heap.size (fcells Fr.zero (.slice none 0 0) (.slice none 0 0) (.slice none 0 0)) 27) := by show Row _ _ _ _; rw [HW.out]; exact (Row.new' _ _ _ _ _ rfl rfl).alloc _
  have HF0 : Hid (Row W0 (w.heap.size + 1) (fcells Fr.zero (.slice none 0 0) (.slice none 0 0) (.slice none 0 0)) 27) := by show Row _ _ _ _; rw [HW.out]; exact Row.new' _ _ _ _ _ (by simp) rfl
  have HB0 : Hid (Below w.heap.size w W0) := by show Below _ _ _; rw [HW.out]; exact ((Below.refl _ _).alloc (Nat.le_refl _) _).alloc (by simp) _
  have HS0 : Hid (w.heap.size + 1 < W0.heap.size) := HF0.out.lt
  clear HW
  go_wp2
  go_step3
  exact ⟨rfl, ⟨_, _, _, _, _, _, _, _, _, _, _, _, _, _, _, _, _, _, _, _, _, _, _, _, _, _, _, _, _, _, _, rfl⟩, HZ0.out, HB0.out⟩

set_option maxHeartbeats 2000000 in
theorem dec_long {w : World} {a : Option Addr} {n cap : Nat} {bs : List (BitVec 8)} (h : 1048 < n) : Calls Tryd.prog 15 #[.slice a n cap] w (DecGives w bs 31) := by
  have n1 : (1048 : Int) < (n : Int) := by omega
  have n2 : (7 : Int) ≤ (n : Int) := by omega
  go_enter Tryd.func15, Tryd.ntmps15
  go_wp2
  refine wp_scope_jumps 0 (fun a' w' => (∃ (u6 u7 u8 u9 u10 u11 u12 u13 u14 u15 u16 u17 u18 u19 u20 u21 u22 u23 u24 u25 u26 u27 u28 u29 u30 u31 u32 u33 u34 u35 u36 : Value), a' = { tmps := #[.slice a n cap, undef, .pointer (some ⟨w.heap.size, 0, none⟩), .int .i64 0, .pointer (some ⟨w.heap.size + 1, 0, none⟩), .int .i64 31, u6, u7, u8, u9, u10, u11, u12, u13, u14, u15, u16, u17, u18, u19, u20, u21, u22, u23, u24, u25, u26, u27, u28, u29, u30, u31, u32, u33, u34, u35, u36], defers := [] }) ∧ Row w' w.heap.size (fcells Fr.zero (.slice none 0 0) (.slice none 0 0) (.slice none 0 0)) 27 ∧ Below w.heap.size w w') (fun _ _ => 0) rfl ?_ ?_
  case refine_2 =>
    rintro a' wj ⟨⟨u6, u7, u8, u9, u10, u11, u12, u13, u14, u15, u16, u17, u18, u19, u20, u21, u22, u23, u24, u25, u26, u27, u28, u29, u30, u31, u32, u33, u34, u35, u36, rfl⟩, HRJ, HBJ⟩
    have HRj : Hid _ := HRJ
    have HBj : Hid _ := HBJ
    clear HRJ HBJ
    go_wp2_with (show wpList _ _ _ (Oper.mk none (.store 27 (.tmp 2) (.tmp 35)) _ _ _ _ :: _) _ _; refine HRj.out.wpStore' 27 (.tmp 2) (.tmp 35) (fcells Fr.zero (.slice none 0 0) (.slice none 0 0) (.slice none 0 0)) rfl rfl rfl rfl rfl (fcells_one _ _ _ _ _ _ _ _ _ _) i27 ?_; intro wz HZ)
    have R : Row wz w.heap.size (fcells Fr.zero (.slice none 0 0) (.slice none 0 0) (.slice none 0 0)) 27 := by rw [HZ.out]; exact HRj.out.row _
    have hBz : Below w.heap.size w wz := by rw [HZ.out]; exact Go.below_setRow HBj.out (Nat.le_refl _) _
    exact bodyPost_ret (v := .tuple #[.agg (fcells Fr.zero (.slice none 0 0) (.slice none 0 0) (.slice none 0 0)).toArray, .int .i64 31]) (R.result2 Tryd.results15 _ rfl rfl _ Tryd.underlying27 rfl i27) rfl ⟨none, 0, none, 0, none, 0, _, rfl, by rw [if_neg (by decide)]; exact zero_at wz, hBz, (fun _ h => by cases h), (fun _ h => by cases h), (fun _ h => by cases h)⟩
  go_upto_region 3 with (fail)
  refine wp_world fun W0 HW => ?_
  have HZ0 : Hid (Row W0 w.heap.size (fcells Fr.zero (.slice none 0 0) (.slice none 0 0) (.slice none 0 0)) 27) := by show Row _ _ _ _; rw [HW.out]; exact (Row.new' _ _ _ _ _ rfl rfl).alloc _
  have HF0 : Hid (Row W0 (w.heap.size + 1) (fcells Fr.zero (.slice none 0 0) (.slice none 0 0) (.slice none 0 0)) 27) := by show Row _ _ _ _; rw [HW.out]; exact Row.new' _ _ _ _ _ (by simp) rfl
  have HB0 : Hid (Below w.heap.size w W0) := by show Below _ _ _; rw [HW.out]; exact ((Below.refl _ _).alloc (Nat.le_refl _) _).alloc (by simp) _
  have HS0 : Hid (w.heap.size + 1 < W0.heap.size) := HF0.out.lt
  clear HW
  go_wp2
  go_step3
  exact ⟨rfl, ⟨_, _, _, _, _, _, _, _, _, _, _, _, _, _, _, _, _, _, _, _, _, _, _, _, _, _, _, _, _, _, _, rfl⟩, HZ0.out, HB0.out⟩

open Classical in
set_option maxHeartbeats 4000000 in
theorem dec_sum {w : World} {a : Option Addr} {n cap : Nat} {bs : List (BitVec 8)} (hB : BytesAt w a bs) (hn : bs.length = n) (hcap : n ≤ cap) (hT : CrcTab w)  (h7 : 7 ≤ n) (h5 : n ≤ 1048) (hsm : ¬summedB bs) : Calls Tryd.prog 15 #[.slice a n cap] w (DecGives w bs 32) := by
  have n1 : (7 : Int) ≤ (n : Int) := by omega
  have n2 : (n : Int) ≤ 1048 := by omega
  obtain ⟨g, o, rfl⟩ := hB.addr (by omega)
  have HC0 : Hid (w.cell? ⟨g, o, none⟩ = some (.int .u8 (ub (byte bs 0)))) := hB.byte0 (by omega) rfl
  have hbd := ub_bd (byte bs 0)
  have hw0 : IntKind.i64.wrap (ub (byte bs 0)) = ub (byte bs 0) := by unfold IntKind.wrap; simp [IntKind.bits, IntKind.signed]; omega
  have HKN : Hid (decide (known (ub (byte bs 0))) = decide (known (ub (byte bs 0)))) := rfl
  have HSM : Hid (∀ W, Below w.heap.size w W → Calls Tryd.prog 29 #[.slice (some ⟨g, o, none⟩) n cap] W fun e w' => e = .returned (.bool false) ∧ Below W.heap.size W w') := fun W hb => by
    have := summed_any (hB.kept hb) hn h7 h5 hcap (hT.kept hb)
    rw [decide_eq_false hsm] at this
    exact this
  clear hB hT hcap hn hbd hsm HKN HC0
  go_enter Tryd.func15, Tryd.ntmps15
  go_wp2
  refine wp_scope_jumps 0 (fun a' w' => (∃ (u6 u7 u8 u9 u10 u11 u12 u13 u14 u15 u16 u17 u18 u19 u20 u21 u22 u23 u24 u25 u26 u27 u28 u29 u30 u31 u32 u33 u34 u35 u36 : Value), a' = { tmps := #[.slice (some ⟨g, o, none⟩) n cap, undef, .pointer (some ⟨w.heap.size, 0, none⟩), .int .i64 0, .pointer (some ⟨w.heap.size + 1, 0, none⟩), .int .i64 32, u6, u7, u8, u9, u10, u11, u12, u13, u14, u15, u16, u17, u18, u19, u20, u21, u22, u23, u24, u25, u26, u27, u28, u29, u30, u31, u32, u33, u34, u35, u36], defers := [] }) ∧ Row w' w.heap.size (fcells Fr.zero (.slice none 0 0) (.slice none 0 0) (.slice none 0 0)) 27 ∧ Below w.heap.size w w') (fun _ _ => 0) rfl ?_ ?_
  case refine_2 =>
    rintro a' wj ⟨⟨u6, u7, u8, u9, u10, u11, u12, u13, u14, u15, u16, u17, u18, u19, u20, u21, u22, u23, u24, u25, u26, u27, u28, u29, u30, u31, u32, u33, u34, u35, u36, rfl⟩, HRJ, HBJ⟩
    have HRj : Hid _ := HRJ
    have HBj : Hid _ := HBJ
    clear HRJ HBJ
    go_wp2_with (show wpList _ _ _ (Oper.mk none (.store 27 (.tmp 2) (.tmp 35)) _ _ _ _ :: _) _ _; refine HRj.out.wpStore' 27 (.tmp 2) (.tmp 35) (fcells Fr.zero (.slice none 0 0) (.slice none 0 0) (.slice none 0 0)) rfl rfl rfl rfl rfl (fcells_one _ _ _ _ _ _ _ _ _ _) i27 ?_; intro wz HZ)
    have R : Row wz w.heap.size (fcells Fr.zero (.slice none 0 0) (.slice none 0 0) (.slice none 0 0)) 27 := by rw [HZ.out]; exact HRj.out.row _
    have hBz : Below w.heap.size w wz := by rw [HZ.out]; exact Go.below_setRow HBj.out (Nat.le_refl _) _
    exact bodyPost_ret (v := .tuple #[.agg (fcells Fr.zero (.slice none 0 0) (.slice none 0 0) (.slice none 0 0)).toArray, .int .i64 32]) (R.result2 Tryd.results15 _ rfl rfl _ Tryd.underlying27 rfl i27) rfl ⟨none, 0, none, 0, none, 0, _, rfl, by rw [if_neg (by decide)]; exact zero_at wz, hBz, (fun _ h => by cases h), (fun _ h => by cases h), (fun _ h => by cases h)⟩
  go_upto_region 3 with (fail)
  refine wp_world fun W0 HW => ?_
  have HZ0 : Hid (Row W0 w.heap.size (fcells Fr.zero (.slice none 0 0) (.slice none 0 0) (.slice none 0 0)) 27) := by show Row _ _ _ _; rw [HW.out]; exact (Row.new' _ _ _ _ _ rfl rfl).alloc _
  have HF0 : Hid (Row W0 (w.heap.size + 1) (fcells Fr.zero (.slice none 0 0) (.slice none 0 0) (.slice none 0 0)) 27) := by show Row _ _ _ _; rw [HW.out]; exact Row.new' _ _ _ _ _ (by simp) rfl
  have HB0 : Hid (Below w.heap.size w W0) := by show Below _ _ _; rw [HW.out]; exact ((Below.refl _ _).alloc (Nat.le_refl _) _).alloc (by simp) _
  have HS0 : Hid (w.heap.size + 1 < W0.heap.size) := HF0.out.lt
  clear HW
  go_wp2_with (first
    | (go_at_call 29; refine (HSM.out _ HB0.out).mono ?_; rintro e w1 ⟨rfl, hb1⟩; have HB1 : Hid _ := hb1; clear hb1))
  go_step3
  exact ⟨rfl, ⟨_, _, _, _, _, _, _, _, _, _, _, _, _, _, _, _, _, _, _, _, _, _, _, _, _, _, _, _, _, _, _, rfl⟩, (HZ0.out.kept HB1.out HZ0.out.lt), HB0.out.trans (HB1.out.mono HB0.out.size)⟩

open Classical in
set_option maxHeartbeats 4000000 in
theorem dec_kind {w : World} {a : Option Addr} {n cap : Nat} {bs : List (BitVec 8)} (hB : BytesAt w a bs) (hn : bs.length = n) (hcap : n ≤ cap) (hT : CrcTab w)  (h7 : 7 ≤ n) (h5 : n ≤ 1048) (hsm : summedB bs) (hkn : ¬knownB bs) : Calls Tryd.prog 15 #[.slice a n cap] w (DecGives w bs 33) := by
  have n1 : (7 : Int) ≤ (n : Int) := by omega
  have n2 : (n : Int) ≤ 1048 := by omega
  obtain ⟨g, o, rfl⟩ := hB.addr (by omega)
  have HC0 : Hid (w.cell? ⟨g, o, none⟩ = some (.int .u8 (ub (byte bs 0)))) := hB.byte0 (by omega) rfl
  have hbd := ub_bd (byte bs 0)
  have hw0 : IntKind.i64.wrap (ub (byte bs 0)) = ub (byte bs 0) := by unfold IntKind.wrap; simp [IntKind.bits, IntKind.signed]; omega
  have HKN : Hid (decide (known (ub (byte bs 0))) = false) := decide_eq_false (fun h => hkn ⟨by have := h.1; unfold ub at this; omega, by have := h.2; unfold ub at this; omega⟩)
  have HSM : Hid (∀ W, Below w.heap.size w W → Calls Tryd.prog 29 #[.slice (some ⟨g, o, none⟩) n cap] W fun e w' => e = .returned (.bool true) ∧ Below W.heap.size W w') := fun W hb => by
    have := summed_any (hB.kept hb) hn h7 h5 hcap (hT.kept hb)
    rw [decide_eq_true hsm] at this
    exact this
  clear hB hT hcap hn hbd hsm hkn
  go_enter Tryd.func15, Tryd.ntmps15
  go_wp2
  refine wp_scope_jumps 0 (fun a' w' => (∃ (u6 u7 u8 u9 u10 u11 u12 u13 u14 u15 u16 u17 u18 u19 u20 u21 u22 u23 u24 u25 u26 u27 u28 u29 u30 u31 u32 u33 u34 u35 u36 : Value), a' = { tmps := #[.slice (some ⟨g, o, none⟩) n cap, undef, .pointer (some ⟨w.heap.size, 0, none⟩), .int .i64 0, .pointer (some ⟨w.heap.size + 1, 0, none⟩), .int .i64 33, u6, u7, u8, u9, u10, u11, u12, u13, u14, u15, u16, u17, u18, u19, u20, u21, u22, u23, u24, u25, u26, u27, u28, u29, u30, u31, u32, u33, u34, u35, u36], defers := [] }) ∧ Row w' w.heap.size (fcells Fr.zero (.slice none 0 0) (.slice none 0 0) (.slice none 0 0)) 27 ∧ Below w.heap.size w w') (fun _ _ => 0) rfl ?_ ?_
  case refine_2 =>
    rintro a' wj ⟨⟨u6, u7, u8, u9, u10, u11, u12, u13, u14, u15, u16, u17, u18, u19, u20, u21, u22, u23, u24, u25, u26, u27, u28, u29, u30, u31, u32, u33, u34, u35, u36, rfl⟩, HRJ, HBJ⟩
    have HRj : Hid _ := HRJ
    have HBj : Hid _ := HBJ
    clear HRJ HBJ
    go_wp2_with (show wpList _ _ _ (Oper.mk none (.store 27 (.tmp 2) (.tmp 35)) _ _ _ _ :: _) _ _; refine HRj.out.wpStore' 27 (.tmp 2) (.tmp 35) (fcells Fr.zero (.slice none 0 0) (.slice none 0 0) (.slice none 0 0)) rfl rfl rfl rfl rfl (fcells_one _ _ _ _ _ _ _ _ _ _) i27 ?_; intro wz HZ)
    have R : Row wz w.heap.size (fcells Fr.zero (.slice none 0 0) (.slice none 0 0) (.slice none 0 0)) 27 := by rw [HZ.out]; exact HRj.out.row _
    have hBz : Below w.heap.size w wz := by rw [HZ.out]; exact Go.below_setRow HBj.out (Nat.le_refl _) _
    exact bodyPost_ret (v := .tuple #[.agg (fcells Fr.zero (.slice none 0 0) (.slice none 0 0) (.slice none 0 0)).toArray, .int .i64 33]) (R.result2 Tryd.results15 _ rfl rfl _ Tryd.underlying27 rfl i27) rfl ⟨none, 0, none, 0, none, 0, _, rfl, by rw [if_neg (by decide)]; exact zero_at wz, hBz, (fun _ h => by cases h), (fun _ h => by cases h), (fun _ h => by cases h)⟩
  go_upto_region 3 with (fail)
  refine wp_world fun W0 HW => ?_
  have HZ0 : Hid (Row W0 w.heap.size (fcells Fr.zero (.slice none 0 0) (.slice none 0 0) (.slice none 0 0)) 27) := by show Row _ _ _ _; rw [HW.out]; exact (Row.new' _ _ _ _ _ rfl rfl).alloc _
  have HF0 : Hid (Row W0 (w.heap.size + 1) (fcells Fr.zero (.slice none 0 0) (.slice none 0 0) (.slice none 0 0)) 27) := by show Row _ _ _ _; rw [HW.out]; exact Row.new' _ _ _ _ _ (by simp) rfl
  have HB0 : Hid (Below w.heap.size w W0) := by show Below _ _ _; rw [HW.out]; exact ((Below.refl _ _).alloc (Nat.le_refl _) _).alloc (by simp) _
  have HS0 : Hid (w.heap.size + 1 < W0.heap.size) := HF0.out.lt
  clear HW
  go_wp2_with (first
    | (go_at_call 29; refine (HSM.out _ HB0.out).mono ?_; rintro e w1 ⟨rfl, hb1⟩; have HB1 : Hid _ := hb1; clear hb1; have b0 := cell_kept (HB0.out.trans (HB1.out.mono HB0.out.size)) HC0.out)
    | (go_at_call 18; refine (known_any _ _).mono ?_; rintro e w' ⟨rfl, rfl⟩; rw [HKN.out]))
  go_step3
  exact ⟨rfl, ⟨_, _, _, _, _, _, _, _, _, _, _, _, _, _, _, _, _, _, _, _, _, _, _, _, _, _, _, _, _, _, _, rfl⟩, (HZ0.out.kept HB1.out HZ0.out.lt), HB0.out.trans (HB1.out.mono HB0.out.size)⟩

open Classical in
set_option maxHeartbeats 4000000 in
theorem dec_size {w : World} {a : Option Addr} {n cap : Nat} {bs : List (BitVec 8)} (hB : BytesAt w a bs) (hn : bs.length = n) (hcap : n ≤ cap) (hT : CrcTab w) (hS : SizesTab w) (h7 : 7 ≤ n) (h5 : n ≤ 1048) (hsm : summedB bs) (hkn : knownB bs) (hsz : ¬n = sizeB bs) : Calls Tryd.prog 15 #[.slice a n cap] w (DecGives w bs 34) := by
  have n1 : (7 : Int) ≤ (n : Int) := by omega
  have n2 : (n : Int) ≤ 1048 := by omega
  obtain ⟨g, o, rfl⟩ := hB.addr (by omega)
  have HC0 : Hid (w.cell? ⟨g, o, none⟩ = some (.int .u8 (ub (byte bs 0)))) := hB.byte0 (by omega) rfl
  have hbd := ub_bd (byte bs 0)
  have hw0 : IntKind.i64.wrap (ub (byte bs 0)) = ub (byte bs 0) := by unfold IntKind.wrap; simp [IntKind.bits, IntKind.signed]; omega
  have HKN : Hid (decide (known (ub (byte bs 0))) = true) := decide_eq_true (show known (ub (byte bs 0)) from ⟨by have := hkn.1; unfold ub; omega, by have := hkn.2; unfold ub; omega⟩)
  have HSM : Hid (∀ W, Below w.heap.size w W → Calls Tryd.prog 29 #[.slice (some ⟨g, o, none⟩) n cap] W fun e w' => e = .returned (.bool true) ∧ Below W.heap.size W w') := fun W hb => by
    have := summed_any (hB.kept hb) hn h7 h5 hcap (hT.kept hb)
    rw [decide_eq_true hsm] at this
    exact this
  have HST : Hid (∀ W, Below w.heap.size w W → Calls Tryd.prog 30 #[.slice (some ⟨g, o, none⟩) n cap] W fun e w' => e = .returned (.int .i64 (sizeB bs : Nat)) ∧ w' = W) := fun W hb => sizeTold_any (hB.kept hb) hn h7 h5 hcap (hS.kept hb) hkn
  have ez : ((n : Int) != (sizeB bs : Int)) = true := by rw [bne_iff_ne]; omega
  have ez2 : ¬ (n : Int) = (sizeB bs : Int) := by omega
  generalize (sizeB bs : Int) = sz at *
  clear hB hT hS hcap hn hbd hsm hkn hsz
  go_enter Tryd.func15, Tryd.ntmps15
  go_wp2
  refine wp_scope_jumps 0 (fun a' w' => (∃ (u6 u7 u8 u9 u10 u11 u12 u13 u14 u15 u16 u17 u18 u19 u20 u21 u22 u23 u24 u25 u26 u27 u28 u29 u30 u31 u32 u33 u34 u35 u36 : Value), a' = { tmps := #[.slice (some ⟨g, o, none⟩) n cap, undef, .pointer (some ⟨w.heap.size, 0, none⟩), .int .i64 0, .pointer (some ⟨w.heap.size + 1, 0, none⟩), .int .i64 34, u6, u7, u8, u9, u10, u11, u12, u13, u14, u15, u16, u17, u18, u19, u20, u21, u22, u23, u24, u25, u26, u27, u28, u29, u30, u31, u32, u33, u34, u35, u36], defers := [] }) ∧ Row w' w.heap.size (fcells Fr.zero (.slice none 0 0) (.slice none 0 0) (.slice none 0 0)) 27 ∧ Below w.heap.size w w') (fun _ _ => 0) rfl ?_ ?_
  case refine_2 =>
    rintro a' wj ⟨⟨u6, u7, u8, u9, u10, u11, u12, u13, u14, u15, u16, u17, u18, u19, u20, u21, u22, u23, u24, u25, u26, u27, u28, u29, u30, u31, u32, u33, u34, u35, u36, rfl⟩, HRJ, HBJ⟩
    have HRj : Hid _ := HRJ
    have HBj : Hid _ := HBJ
    clear HRJ HBJ
    go_wp2_with (show wpList _ _ _ (Oper.mk none (.store 27 (.tmp 2) (.tmp 35)) _ _ _ _ :: _) _ _; refine HRj.out.wpStore' 27 (.tmp 2) (.tmp 35) (fcells Fr.zero (.slice none 0 0) (.slice none 0 0) (.slice none 0 0)) rfl rfl rfl rfl rfl (fcells_one _ _ _ _ _ _ _ _ _ _) i27 ?_; intro wz HZ)
    have R : Row wz w.heap.size (fcells Fr.zero (.slice none 0 0) (.slice none 0 0) (.slice none 0 0)) 27 := by rw [HZ.out]; exact HRj.out.row _
    have hBz : Below w.heap.size w wz := by rw [HZ.out]; exact Go.below_setRow HBj.out (Nat.le_refl _) _
    exact bodyPost_ret (v := .tuple #[.agg (fcells Fr.zero (.slice none 0 0) (.slice none 0 0) (.slice none 0 0)).toArray, .int .i64 34]) (R.result2 Tryd.results15 _ rfl rfl _ Tryd.underlying27 rfl i27) rfl ⟨none, 0, none, 0, none, 0, _, rfl, by rw [if_neg (by decide)]; exact zero_at wz, hBz, (fun _ h => by cases h), (fun _ h => by cases h), (fun _ h => by cases h)⟩
  go_upto_region 3 with (fail)
  refine wp_world fun W0 HW => ?_
  have HZ0 : Hid (Row W0 w.heap.size (fcells Fr.zero (.slice none 0 0) (.slice none 0 0) (.slice none 0 0)) 27) := by show Row _ _ _ _; rw [HW.out]; exact (Row.new' _ _ _ _ _ rfl rfl).alloc _
  have HF0 : Hid (Row W0 (w.heap.size + 1) (fcells Fr.zero (.slice none 0 0) (.slice none 0 0) (.slice none 0 0)) 27) := by show Row _ _ _ _; rw [HW.out]; exact Row.new' _ _ _ _ _ (by simp) rfl
  have HB0 : Hid (Below w.heap.size w W0) := by show Below _ _ _; rw [HW.out]; exact ((Below.refl _ _).alloc (Nat.le_refl _) _).alloc (by simp) _
  have HS0 : Hid (w.heap.size + 1 < W0.heap.size) := HF0.out.lt
  clear HW
  go_wp2_with (first
    | (go_at_call 29; refine (HSM.out _ HB0.out).mono ?_; rintro e w1 ⟨rfl, hb1⟩; have HB1 : Hid _ := hb1; clear hb1; have b0 := cell_kept (HB0.out.trans (HB1.out.mono HB0.out.size)) HC0.out)
    | (go_at_call 18; refine (known_any _ _).mono ?_; rintro e w' ⟨rfl, rfl⟩; rw [HKN.out])
    | (go_at_call 30; refine (HST.out _ (HB0.out.trans (HB1.out.mono HB0.out.size))).mono ?_; rintro e w' ⟨rfl, rfl⟩))
  go_step3
  exact ⟨rfl, ⟨_, _, _, _, _, _, _, _, _, _, _, _, _, _, _, _, _, _, _, _, _, _, _, _, _, _, _, _, _, _, _, rfl⟩, (HZ0.out.kept HB1.out HZ0.out.lt), HB0.out.trans (HB1.out.mono HB0.out.size)⟩

open Classical in
set_option maxHeartbeats 4000000 in
theorem dec_flag {w : World} {a : Option Addr} {n cap : Nat} {bs : List (BitVec 8)} (hB : BytesAt w a bs) (hn : bs.length = n) (hcap : n ≤ cap) (hT : CrcTab w) (hS : SizesTab w) (h7 : 7 ≤ n) (h5 : n ≤ 1048) (hsm : summedB bs) (hkn : knownB bs) (hsz : n = sizeB bs) (hfl : ¬flaggedB bs) : Calls Tryd.prog 15 #[.slice a n cap] w (DecGives w bs 35) := by
  have n1 : (7 : Int) ≤ (n : Int) := by omega
  have n2 : (n : Int) ≤ 1048 := by omega
  obtain ⟨g, o, rfl⟩ := hB.addr (by omega)
  have HC0 : Hid (w.cell? ⟨g, o, none⟩ = some (.int .u8 (ub (byte bs 0)))) := hB.byte0 (by omega) rfl
  have hbd := ub_bd (byte bs 0)
  have hw0 : IntKind.i64.wrap (ub (byte bs 0)) = ub (byte bs 0) := by unfold IntKind.wrap; simp [IntKind.bits, IntKind.signed]; omega
  have HKN : Hid (decide (known (ub (byte bs 0))) = true) := decide_eq_true (show known (ub (byte bs 0)) from ⟨by have := hkn.1; unfold ub; omega, by have := hkn.2; unfold ub; omega⟩)
  have HSM : Hid (∀ W, Below w.heap.size w W → Calls Tryd.prog 29 #[.slice (some ⟨g, o, none⟩) n cap] W fun e w' => e = .returned (.bool true) ∧ Below W.heap.size W w') := fun W hb => by
    have := summed_any (hB.kept hb) hn h7 h5 hcap (hT.kept hb)
    rw [decide_eq_true hsm] at this
    exact this
  have HST : Hid (∀ W, Below w.heap.size w W → Calls Tryd.prog 30 #[.slice (some ⟨g, o, none⟩) n cap] W fun e w' => e = .returned (.int .i64 (sizeB bs : Nat)) ∧ w' = W) := fun W hb => sizeTold_any (hB.kept hb) hn h7 h5 hcap (hS.kept hb) hkn
  have HFL : Hid (∀ W, Below w.heap.size w W → Calls Tryd.prog 31 #[.slice (some ⟨g, o, none⟩) n cap] W fun e w' => e = .returned (.bool false) ∧ w' = W) := fun W hb => by
    have := flagged_any (cap := cap) (hB.kept hb) hn h7 hsz
    rw [decide_eq_false hfl] at this
    exact this
  have ez : ((n : Int) != (sizeB bs : Int)) = false := by rw [hsz]; simp
  obtain ⟨sz, hse⟩ : ∃ sz, sz = sizeB bs := ⟨_, rfl⟩
  rw [← hse] at HST ez
  clear hB hT hS hcap hn hbd hsm hkn hsz hfl hse
  go_enter Tryd.func15, Tryd.ntmps15
  go_wp2
  refine wp_scope_jumps 0 (fun a' w' => (∃ (u6 u7 u8 u9 u10 u11 u12 u13 u14 u15 u16 u17 u18 u19 u20 u21 u22 u23 u24 u25 u26 u27 u28 u29 u30 u31 u32 u33 u34 u35 u36 : Value), a' = { tmps := #[.slice (some ⟨g, o, none⟩) n cap, undef, .pointer (some ⟨w.heap.size, 0, none⟩), .int .i64 0, .pointer (some ⟨w.heap.size + 1, 0, none⟩), .int .i64 35, u6, u7, u8, u9, u10, u11, u12, u13, u14, u15, u16, u17, u18, u19, u20, u21, u22, u23, u24, u25, u26, u27, u28, u29, u30, u31, u32, u33, u34, u35, u36], defers := [] }) ∧ Row w' w.heap.size (fcells Fr.zero (.slice none 0 0) (.slice none 0 0) (.slice none 0 0)) 27 ∧ Below w.heap.size w w') (fun _ _ => 0) rfl ?_ ?_
  case refine_2 =>
    rintro a' wj ⟨⟨u6, u7, u8, u9, u10, u11, u12, u13, u14, u15, u16, u17, u18, u19, u20, u21, u22, u23, u24, u25, u26, u27, u28, u29, u30, u31, u32, u33, u34, u35, u36, rfl⟩, HRJ, HBJ⟩
    have HRj : Hid _ := HRJ
    have HBj : Hid _ := HBJ
    clear HRJ HBJ
    go_wp2_with (show wpList _ _ _ (Oper.mk none (.store 27 (.tmp 2) (.tmp 35)) _ _ _ _ :: _) _ _; refine HRj.out.wpStore' 27 (.tmp 2) (.tmp 35) (fcells Fr.zero (.slice none 0 0) (.slice none 0 0) (.slice none 0 0)) rfl rfl rfl rfl rfl (fcells_one _ _ _ _ _ _ _ _ _ _) i27 ?_; intro wz HZ)
    have R : Row wz w.heap.size (fcells Fr.zero (.slice none 0 0) (.slice none 0 0) (.slice none 0 0)) 27 := by rw [HZ.out]; exact HRj.out.row _
    have hBz : Below w.heap.size w wz := by rw [HZ.out]; exact Go.below_setRow HBj.out (Nat.le_refl _) _
    exact bodyPost_ret (v := .tuple #[.agg (fcells Fr.zero (.slice none 0 0) (.slice none 0 0) (.slice none 0 0)).toArray, .int .i64 35]) (R.result2 Tryd.results15 _ rfl rfl _ Tryd.underlying27 rfl i27) rfl ⟨none, 0, none, 0, none, 0, _, rfl, by rw [if_neg (by decide)]; exact zero_at wz, hBz, (fun _ h => by cases h), (fun _ h => by cases h), (fun _ h => by cases h)⟩
  go_upto_region 3 with (fail)
  refine wp_world fun W0 HW => ?_
  have HZ0 : Hid (Row W0 w.heap.size (fcells Fr.zero (.slice none 0 0) (.slice none 0 0) (.slice none 0 0)) 27) := by show Row _ _ _ _; rw [HW.out]; exact (Row.new' _ _ _ _ _ rfl rfl).alloc _
  have HF0 : Hid (Row W0 (w.heap.size + 1) (fcells Fr.zero (.slice none 0 0) (.slice none 0 0) (.slice none 0 0)) 27) := by show Row _ _ _ _; rw [HW.out]; exact Row.new' _ _ _ _ _ (by simp) rfl
  have HB0 : Hid (Below w.heap.size w W0) := by show Below _ _ _; rw [HW.out]; exact ((Below.refl _ _).alloc (Nat.le_refl _) _).alloc (by simp) _
  have HS0 : Hid (w.heap.size + 1 < W0.heap.size) := HF0.out.lt
  clear HW
  go_wp2_with (first
    | (go_at_call 29; refine (HSM.out _ HB0.out).mono ?_; rintro e w1 ⟨rfl, hb1⟩; have HB1 : Hid _ := hb1; clear hb1; have b0 := cell_kept (HB0.out.trans (HB1.out.mono HB0.out.size)) HC0.out)
    | (go_at_call 18; refine (known_any _ _).mono ?_; rintro e w' ⟨rfl, rfl⟩; rw [HKN.out])
    | (go_at_call 30; refine (HST.out _ (HB0.out.trans (HB1.out.mono HB0.out.size))).mono ?_; rintro e w' ⟨rfl, rfl⟩)
    | (go_at_call 31; refine (HFL.out _ (HB0.out.trans (HB1.out.mono HB0.out.size))).mono ?_; rintro e w' ⟨rfl, rfl⟩))
  go_step3
  exact ⟨rfl, ⟨_, _, _, _, _, _, _, _, _, _, _, _, _, _, _, _, _, _, _, _, _, _, _, _, _, _, _, _, _, _, _, rfl⟩, (HZ0.out.kept HB1.out HZ0.out.lt), HB0.out.trans (HB1.out.mono HB0.out.size)⟩

open Classical in
set_option maxHeartbeats 4000000 in
theorem dec_field {w : World} {a : Option Addr} {n cap : Nat} {bs : List (BitVec 8)} (hB : BytesAt w a bs) (hn : bs.length = n) (hcap : n ≤ cap) (hT : CrcTab w) (hS : SizesTab w) (h7 : 7 ≤ n) (h5 : n ≤ 1048) (hsm : summedB bs) (hkn : knownB bs) (hsz : n = sizeB bs) (hfl : flaggedB bs) (hft : ¬fit (rdf bs)) : Calls Tryd.prog 15 #[.slice a n cap] w (DecGives w bs 35) := by
  have n1 : (7 : Int) ≤ (n : Int) := by omega
  have n2 : (n : Int) ≤ 1048 := by omega
  obtain ⟨g, o, rfl⟩ := hB.addr (by omega)
  have HC0 : Hid (w.cell? ⟨g, o, none⟩ = some (.int .u8 (ub (byte bs 0)))) := hB.byte0 (by omega) rfl
  have hbd := ub_bd (byte bs 0)
  have hw0 : IntKind.i64.wrap (ub (byte bs 0)) = ub (byte bs 0) := by unfold IntKind.wrap; simp [IntKind.bits, IntKind.signed]; omega
  have HKN : Hid (decide (known (ub (byte bs 0))) = true) := decide_eq_true (show known (ub (byte bs 0)) from ⟨by have := hkn.1; unfold ub; omega, by have := hkn.2; unfold ub; omega⟩)
  have HSM : Hid (∀ W, Below w.heap.size w W → Calls Tryd.prog 29 #[.slice (some ⟨g, o, none⟩) n cap] W fun e w' => e = .returned (.bool true) ∧ Below W.heap.size W w') := fun W hb => by
    have := summed_any (hB.kept hb) hn h7 h5 hcap (hT.kept hb)
    rw [decide_eq_true hsm] at this
    exact this
  have HST : Hid (∀ W, Below w.heap.size w W → Calls Tryd.prog 30 #[.slice (some ⟨g, o, none⟩) n cap] W fun e w' => e = .returned (.int .i64 (sizeB bs : Nat)) ∧ w' = W) := fun W hb => sizeTold_any (hB.kept hb) hn h7 h5 hcap (hS.kept hb) hkn
  have HFL : Hid (∀ W, Below w.heap.size w W → Calls Tryd.prog 31 #[.slice (some ⟨g, o, none⟩) n cap] W fun e w' => e = .returned (.bool true) ∧ w' = W) := fun W hb => by
    have := flagged_any (cap := cap) (hB.kept hb) hn h7 hsz
    rw [decide_eq_true hfl] at this
    exact this
  have HRD : Hid (∀ W, Below w.heap.size w W → Calls Tryd.prog 32 #[.slice (some ⟨g, o, none⟩) n cap] W (ReadGives W bs)) := fun W hb => read_any (hB.kept hb) hn h5 hcap hkn hsz h7
  have HFT : Hid (decide (fit (rdf bs)) = false) := decide_eq_false hft
  have ez : ((n : Int) != (sizeB bs : Int)) = false := by rw [hsz]; simp
  obtain ⟨sz, hse⟩ : ∃ sz, sz = sizeB bs := ⟨_, rfl⟩
  rw [← hse] at HST ez
  clear hB hT hS hcap hn hbd hsm hkn hsz hfl hft hse
  go_enter Tryd.func15, Tryd.ntmps15
  go_wp2
  refine wp_scope_jumps 0 (fun a' w' => (∃ (u6 u7 u8 u9 u10 u11 u12 u13 u14 u15 u16 u17 u18 u19 u20 u21 u22 u23 u24 u25 u26 u27 u28 u29 u30 u31 u32 u33 u34 u35 u36 : Value), a' = { tmps := #[.slice (some ⟨g, o, none⟩) n cap, undef, .pointer (some ⟨w.heap.size, 0, none⟩), .int .i64 0, .pointer (some ⟨w.heap.size + 1, 0, none⟩), .int .i64 35, u6, u7, u8, u9, u10, u11, u12, u13, u14, u15, u16, u17, u18, u19, u20, u21, u22, u23, u24, u25, u26, u27, u28, u29, u30, u31, u32, u33, u34, u35, u36], defers := [] }) ∧ Row w' w.heap.size (fcells Fr.zero (.slice none 0 0) (.slice none 0 0) (.slice none 0 0)) 27 ∧ Below w.heap.size w w') (fun _ _ => 0) rfl ?_ ?_
  case refine_2 =>
    rintro a' wj ⟨⟨u6, u7, u8, u9, u10, u11, u12, u13, u14, u15, u16, u17, u18, u19, u20, u21, u22, u23, u24, u25, u26, u27, u28, u29, u30, u31, u32, u33, u34, u35, u36, rfl⟩, HRJ, HBJ⟩
    have HRj : Hid _ := HRJ
    have HBj : Hid _ := HBJ
    clear HRJ HBJ
    go_wp2_with (show wpList _ _ _ (Oper.mk none (.store 27 (.tmp 2) (.tmp 35)) _ _ _ _ :: _) _ _; refine HRj.out.wpStore' 27 (.tmp 2) (.tmp 35) (fcells Fr.zero (.slice none 0 0) (.slice none 0 0) (.slice none 0 0)) rfl rfl rfl rfl rfl (fcells_one _ _ _ _ _ _ _ _ _ _) i27 ?_; intro wz HZ)
    have R : Row wz w.heap.size (fcells Fr.zero (.slice none 0 0) (.slice none 0 0) (.slice none 0 0)) 27 := by rw [HZ.out]; exact HRj.out.row _
    have hBz : Below w.heap.size w wz := by rw [HZ.out]; exact Go.below_setRow HBj.out (Nat.le_refl _) _
    exact bodyPost_ret (v := .tuple #[.agg (fcells Fr.zero (.slice none 0 0) (.slice none 0 0) (.slice none 0 0)).toArray, .int .i64 35]) (R.result2 Tryd.results15 _ rfl rfl _ Tryd.underlying27 rfl i27) rfl ⟨none, 0, none, 0, none, 0, _, rfl, by rw [if_neg (by decide)]; exact zero_at wz, hBz, (fun _ h => by cases h), (fun _ h => by cases h), (fun _ h => by cases h)⟩
  go_upto_region 3 with (fail)
  refine wp_world fun W0 HW => ?_
  have HZ0 : Hid (Row W0 w.heap.size (fcells Fr.zero (.slice none 0 0) (.slice none 0 0) (.slice none 0 0)) 27) := by show Row _ _ _ _; rw [HW.out]; exact (Row.new' _ _ _ _ _ rfl rfl).alloc _
  have HF0 : Hid (Row W0 (w.heap.size + 1) (fcells Fr.zero (.slice none 0 0) (.slice none 0 0) (.slice none 0 0)) 27) := by show Row _ _ _ _; rw [HW.out]; exact Row.new' _ _ _ _ _ (by simp) rfl
  have HB0 : Hid (Below w.heap.size w W0) := by show Below _ _ _; rw [HW.out]; exact ((Below.refl _ _).alloc (Nat.le_refl _) _).alloc (by simp) _
  have HS0 : Hid (w.heap.size + 1 < W0.heap.size) := HF0.out.lt
  clear HW
  go_wp2_with (first
    | (go_at_call 29; refine (HSM.out _ HB0.out).mono ?_; rintro e w1 ⟨rfl, hb1⟩; have HB1 : Hid _ := hb1; clear hb1; have b0 := cell_kept (HB0.out.trans (HB1.out.mono HB0.out.size)) HC0.out)
    | (go_at_call 18; refine (known_any _ _).mono ?_; rintro e w' ⟨rfl, rfl⟩; rw [HKN.out])
    | (go_at_call 30; refine (HST.out _ (HB0.out.trans (HB1.out.mono HB0.out.size))).mono ?_; rintro e w' ⟨rfl, rfl⟩)
    | (go_at_call 31; refine (HFL.out _ (HB0.out.trans (HB1.out.mono HB0.out.size))).mono ?_; rintro e w' ⟨rfl, rfl⟩)
    | (go_at_call 32; go_loud (refine (HRD.out _ (HB0.out.trans (HB1.out.mono HB0.out.size))).mono ?_; rintro e w2 ⟨da, dc, ra, rc, ma, mc, c, rfl, hfr, hb2, hf1, hf2, hf3⟩; have HFR : Hid (FrAt w2 c (rdf bs) da dc ra rc ma mc) := hfr; have HB2 : Hid _ := hb2; have HF1 : Hid _ := hf1; have HF2 : Hid _ := hf2; have HF3 : Hid _ := hf3; clear hfr hb2 hf1 hf2 hf3 b0))
    | (show wpList _ _ _ (Oper.mk none (.store 27 (.tmp 4) (.tmp 30)) _ _ _ _ :: _) _ _; refine ((HF0.out.kept HB1.out HF0.out.lt).kept HB2.out (Nat.lt_of_lt_of_le HF0.out.lt HB1.out.size)).wpStore' 27 (.tmp 4) (.tmp 30) c rfl rfl rfl rfl (by rw [HFR.out.cells]; rfl) (by rw [HFR.out.cells]; exact fcells_one _ _ _ _ _ _ _ _ _ _) (by rw [HFR.out.cells]; exact i27) ?_; intro w3 HW3; have HQ3 : Hid (Row w3 (w.heap.size + 1) c 27) := (by show Row _ _ _ _; rw [HW3.out]; exact ((HF0.out.kept HB1.out HF0.out.lt).kept HB2.out (Nat.lt_of_lt_of_le HF0.out.lt HB1.out.size)).row _); have HZ3 : Hid (Row w3 w.heap.size (fcells Fr.zero (.slice none 0 0) (.slice none 0 0) (.slice none 0 0)) 27) := (by show Row _ _ _ _; rw [HW3.out]; exact ((HZ0.out.kept HB1.out HZ0.out.lt).kept HB2.out (Nat.lt_of_lt_of_le HZ0.out.lt HB1.out.size)).rowOther (show w.heap.size ≠ w.heap.size + 1 by omega) _); have HFR3 : Hid (FrAt w3 c (rdf bs) da dc ra rc ma mc) := (by show FrAt _ _ _ _ _ _ _ _ _; rw [HW3.out]; exact HFR.out.row (q := w.heap.size + 1) (fun ad h => by have h1 := HF1.out ad h; have h2 := HS0.out; have h3 := HB1.out.size; omega) (fun ad h => by have h1 := HF2.out ad h; have h2 := HS0.out; have h3 := HB1.out.size; omega) (fun ad h => by have h1 := HF3.out ad h; have h2 := HS0.out; have h3 := HB1.out.size; omega) _); have HB3 : Hid (Below w.heap.size w w3) := (by show Below _ _ _; rw [HW3.out]; exact Go.below_setRow (HB0.out.trans ((HB1.out.trans (HB2.out.mono HB1.out.size)).mono HB0.out.size)) (Nat.le_succ _) _); have HCL : Hid (c.length = 12) := (by show c.length = 12; rw [HFR.out.cells]; rfl); have HC1 : Hid (∀ v ∈ c, v.oneCell' = true) := (by show ∀ v ∈ c, _; rw [HFR.out.cells]; exact fcells_one _ _ _ _ _ _ _ _ _ _); clear HW3)
    | (show wpList _ _ _ (Oper.mk (some 31) (.load 27 (.tmp 4)) _ _ _ _ :: _) _ _; refine HQ3.out.wpLoad 27 (.tmp 4) rfl rfl rfl _ Tryd.underlying27 rfl (by rw [HCL.out]; exact i27) ?_)
    | (go_at_call 14; refine (fit_any HFR3.out).mono ?_; rintro e w4 ⟨rfl, hb4⟩; have HB4 : Hid _ := hb4; clear hb4; rw [HFT.out]))
  go_step3
  exact ⟨rfl, ⟨_, _, _, _, _, _, _, _, _, _, _, _, _, _, _, _, _, _, _, _, _, _, _, _, _, _, _, _, _, _, _, rfl⟩, (HZ3.out.kept HB4.out HZ3.out.lt), HB3.out.trans (HB4.out.mono HB3.out.size)⟩

open Classical in
set_option maxHeartbeats 4000000 in
theorem dec_ok {w : World} {a : Option Addr} {n cap : Nat} {bs : List (BitVec 8)} (hB : BytesAt w a bs) (hn : bs.length = n) (hcap : n ≤ cap) (hT : CrcTab w) (hS : SizesTab w) (h7 : 7 ≤ n) (h5 : n ≤ 1048) (hsm : summedB bs) (hkn : knownB bs) (hsz : n = sizeB bs) (hfl : flaggedB bs) (hft : fit (rdf bs)) : Calls Tryd.prog 15 #[.slice a n cap] w (DecGives w bs 0) := by
  have n1 : (7 : Int) ≤ (n : Int) := by omega
  have n2 : (n : Int) ≤ 1048 := by omega
  obtain ⟨g, o, rfl⟩ := hB.addr (by omega)
  have HC0 : Hid (w.cell? ⟨g, o, none⟩ = some (.int .u8 (ub (byte bs 0)))) := hB.byte0 (by omega) rfl
  have hbd := ub_bd (byte bs 0)
  have hw0 : IntKind.i64.wrap (ub (byte bs 0)) = ub (byte bs 0) := by unfold IntKind.wrap; simp [IntKind.bits, IntKind.signed]; omega
  have HKN : Hid (decide (known (ub (byte bs 0))) = true) := decide_eq_true (show known (ub (byte bs 0)) from ⟨by have := hkn.1; unfold ub; omega, by have := hkn.2; unfold ub; omega⟩)
  have HSM : Hid (∀ W, Below w.heap.size w W → Calls Tryd.prog 29 #[.slice (some ⟨g, o, none⟩) n cap] W fun e w' => e = .returned (.bool true) ∧ Below W.heap.size W w') := fun W hb => by
    have := summed_any (hB.kept hb) hn h7 h5 hcap (hT.kept hb)
    rw [decide_eq_true hsm] at this
    exact this
  have HST : Hid (∀ W, Below w.heap.size w W → Calls Tryd.prog 30 #[.slice (some ⟨g, o, none⟩) n cap] W fun e w' => e = .returned (.int .i64 (sizeB bs : Nat)) ∧ w' = W) := fun W hb => sizeTold_any (hB.kept hb) hn h7 h5 hcap (hS.kept hb) hkn
  have HFL : Hid (∀ W, Below w.heap.size w W → Calls Tryd.prog 31 #[.slice (some ⟨g, o, none⟩) n cap] W fun e w' => e = .returned (.bool true) ∧ w' = W) := fun W hb => by
    have := flagged_any (cap := cap) (hB.kept hb) hn h7 hsz
    rw [decide_eq_true hfl] at this
    exact this
  have HRD : Hid (∀ W, Below w.heap.size w W → Calls Tryd.prog 32 #[.slice (some ⟨g, o, none⟩) n cap] W (ReadGives W bs)) := fun W hb => read_any (hB.kept hb) hn h5 hcap hkn hsz h7
  have HFT : Hid (decide (fit (rdf bs)) = true) := decide_eq_true hft
  have ez : ((n : Int) != (sizeB bs : Int)) = false := by rw [hsz]; simp
  obtain ⟨sz, hse⟩ : ∃ sz, sz = sizeB bs := ⟨_, rfl⟩
  rw [← hse] at HST ez
  clear hB hT hS hcap hn hbd hsm hkn hsz hfl hft hse
  go_enter Tryd.func15, Tryd.ntmps15
  go_wp2
  refine wp_scope_jumps 0 (fun _ _ => False) (fun _ _ => 0) rfl ?_ (fun _ _ h => h.elim)
  go_upto_region 3 with (fail)
  refine wp_world fun W0 HW => ?_
  have HZ0 : Hid (Row W0 w.heap.size (fcells Fr.zero (.slice none 0 0) (.slice none 0 0) (.slice none 0 0)) 27) := by show Row _ _ _ _; rw [HW.out]; exact (Row.new' _ _ _ _ _ rfl rfl).alloc _
  have HF0 : Hid (Row W0 (w.heap.size + 1) (fcells Fr.zero (.slice none 0 0) (.slice none 0 0) (.slice none 0 0)) 27) := by show Row _ _ _ _; rw [HW.out]; exact Row.new' _ _ _ _ _ (by simp) rfl
  have HB0 : Hid (Below w.heap.size w W0) := by show Below _ _ _; rw [HW.out]; exact ((Below.refl _ _).alloc (Nat.le_refl _) _).alloc (by simp) _
  have HS0 : Hid (w.heap.size + 1 < W0.heap.size) := HF0.out.lt
  clear HW
  go_wp2_with (first
    | (go_at_call 29; refine (HSM.out _ HB0.out).mono ?_; rintro e w1 ⟨rfl, hb1⟩; have HB1 : Hid _ := hb1; clear hb1; have b0 := cell_kept (HB0.out.trans (HB1.out.mono HB0.out.size)) HC0.out)
    | (go_at_call 18; refine (known_any _ _).mono ?_; rintro e w' ⟨rfl, rfl⟩; rw [HKN.out])
    | (go_at_call 30; refine (HST.out _ (HB0.out.trans (HB1.out.mono HB0.out.size))).mono ?_; rintro e w' ⟨rfl, rfl⟩)
    | (go_at_call 31; refine (HFL.out _ (HB0.out.trans (HB1.out.mono HB0.out.size))).mono ?_; rintro e w' ⟨rfl, rfl⟩)
    | (go_at_call 32; go_loud (refine (HRD.out _ (HB0.out.trans (HB1.out.mono HB0.out.size))).mono ?_; rintro e w2 ⟨da, dc, ra, rc, ma, mc, c, rfl, hfr, hb2, hf1, hf2, hf3⟩; have HFR : Hid (FrAt w2 c (rdf bs) da dc ra rc ma mc) := hfr; have HB2 : Hid _ := hb2; have HF1 : Hid _ := hf1; have HF2 : Hid _ := hf2; have HF3 : Hid _ := hf3; clear hfr hb2 hf1 hf2 hf3 b0))
    | (show wpList _ _ _ (Oper.mk none (.store 27 (.tmp 4) (.tmp 30)) _ _ _ _ :: _) _ _; refine ((HF0.out.kept HB1.out HF0.out.lt).kept HB2.out (Nat.lt_of_lt_of_le HF0.out.lt HB1.out.size)).wpStore' 27 (.tmp 4) (.tmp 30) c rfl rfl rfl rfl (by rw [HFR.out.cells]; rfl) (by rw [HFR.out.cells]; exact fcells_one _ _ _ _ _ _ _ _ _ _) (by rw [HFR.out.cells]; exact i27) ?_; intro w3 HW3; have HQ3 : Hid (Row w3 (w.heap.size + 1) c 27) := (by show Row _ _ _ _; rw [HW3.out]; exact ((HF0.out.kept HB1.out HF0.out.lt).kept HB2.out (Nat.lt_of_lt_of_le HF0.out.lt HB1.out.size)).row _); have HZ3 : Hid (Row w3 w.heap.size (fcells Fr.zero (.slice none 0 0) (.slice none 0 0) (.slice none 0 0)) 27) := (by show Row _ _ _ _; rw [HW3.out]; exact ((HZ0.out.kept HB1.out HZ0.out.lt).kept HB2.out (Nat.lt_of_lt_of_le HZ0.out.lt HB1.out.size)).rowOther (show w.heap.size ≠ w.heap.size + 1 by omega) _); have HFR3 : Hid (FrAt w3 c (rdf bs) da dc ra rc ma mc) := (by show FrAt _ _ _ _ _ _ _ _ _; rw [HW3.out]; exact HFR.out.row (q := w.heap.size + 1) (fun ad h => by have h1 := HF1.out ad h; have h2 := HS0.out; have h3 := HB1.out.size; omega) (fun ad h => by have h1 := HF2.out ad h; have h2 := HS0.out; have h3 := HB1.out.size; omega) (fun ad h => by have h1 := HF3.out ad h; have h2 := HS0.out; have h3 := HB1.out.size; omega) _); have HB3 : Hid (Below w.heap.size w w3) := (by show Below _ _ _; rw [HW3.out]; exact Go.below_setRow (HB0.out.trans ((HB1.out.trans (HB2.out.mono HB1.out.size)).mono HB0.out.size)) (Nat.le_succ _) _); have HCL : Hid (c.length = 12) := (by show c.length = 12; rw [HFR.out.cells]; rfl); have HC1 : Hid (∀ v ∈ c, v.oneCell' = true) := (by show ∀ v ∈ c, _; rw [HFR.out.cells]; exact fcells_one _ _ _ _ _ _ _ _ _ _); clear HW3)
    | (show wpList _ _ _ (Oper.mk (some 31) (.load 27 (.tmp 4)) _ _ _ _ :: _) _ _; refine HQ3.out.wpLoad 27 (.tmp 4) rfl rfl rfl _ Tryd.underlying27 rfl (by rw [HCL.out]; exact i27) ?_)
    | (go_at_call 14; refine (fit_any HFR3.out).mono ?_; rintro e w4 ⟨rfl, hb4⟩; have HB4 : Hid _ := hb4; clear hb4; rw [HFT.out])
    | (show wpList _ _ _ (Oper.mk (some 34) (.load 27 (.tmp 4)) _ _ _ _ :: _) _ _; refine (HQ3.out.kept HB4.out HQ3.out.lt).wpLoad 27 (.tmp 4) rfl rfl rfl _ Tryd.underlying27 rfl (by rw [HCL.out]; exact i27) ?_)
    | (show wpList _ _ _ (Oper.mk none (.store 27 (.tmp 2) (.tmp 34)) _ _ _ _ :: _) _ _; refine (HZ3.out.kept HB4.out HZ3.out.lt).wpStore' 27 (.tmp 2) (.tmp 34) c rfl rfl rfl rfl (by rw [HCL.out]; rfl) HC1.out (by rw [HCL.out]; exact i27) ?_; intro wz HZ))
  have R : Row wz w.heap.size c 27 := by rw [HZ.out]; exact (HZ3.out.kept HB4.out HZ3.out.lt).row _
  have hBz : Below w.heap.size w wz := by rw [HZ.out]; exact Go.below_setRow (HB3.out.trans (HB4.out.mono HB3.out.size)) (Nat.le_refl _) _
  refine bodyPost_ret (v := .tuple #[.agg c.toArray, .int .i64 0]) (R.result2 Tryd.results15 _ rfl rfl _ Tryd.underlying27 rfl (by rw [HCL.out]; exact i27)) rfl ⟨da, dc, ra, rc, ma, mc, c, rfl, ?_, hBz, (fun ad h => by have h1 := HF1.out ad h; have h2 := HS0.out; have h3 := HB1.out.size; omega), (fun ad h => by have h1 := HF2.out ad h; have h2 := HS0.out; have h3 := HB1.out.size; omega), (fun ad h => by have h1 := HF3.out ad h; have h2 := HS0.out; have h3 := HB1.out.size; omega)⟩
  rw [if_pos rfl, HZ.out]
  exact (HFR3.out.kept HB4.out).row (q := w.heap.size) (fun ad h => by have h1 := HF1.out ad h; have h2 := HS0.out; have h3 := HB1.out.size; omega) (fun ad h => by have h1 := HF2.out ad h; have h2 := HS0.out; have h3 := HB1.out.size; omega) (fun ad h => by have h1 := HF3.out ad h; have h2 := HS0.out; have h3 := HB1.out.size; omega) _

/-- Decode. -/
theorem decode_any {w : World} {a : Option Addr} {n cap : Nat} {bs : List (BitVec 8)} (hB : BytesAt w a bs) (hn : bs.length = n) (hcap : n ≤ cap) (hT : CrcTab w) (hS : SizesTab w) : Calls Tryd.prog 15 #[.slice a n cap] w (DecGives w bs (decE bs)) := by
  unfold decE
  rw [hn]
  by_cases h1 : n < 7
  · rw [if_pos h1]; exact dec_short h1
  rw [if_neg h1]
  by_cases h2 : 1048 < n
  · rw [if_pos h2]; exact dec_long h2
  rw [if_neg h2]
  by_cases h3 : summedB bs
  · rw [if_neg (by simpa using h3)]
    by_cases h4 : knownB bs
    · rw [if_neg (by simpa using h4)]
      by_cases h5 : n = sizeB bs
      · rw [if_neg (by simpa using h5)]
        by_cases h6 : flaggedB bs
        · rw [if_neg (by simpa using h6)]
          by_cases h7 : fit (rdf bs)
          · rw [if_neg (by simpa using h7)]
            exact dec_ok hB hn hcap hT hS (by omega) (by omega) h3 h4 h5 h6 h7
          · rw [if_pos h7]
            exact dec_field hB hn hcap hT hS (by omega) (by omega) h3 h4 h5 h6 h7
        · rw [if_pos h6]
          exact dec_flag hB hn hcap hT hS (by omega) (by omega) h3 h4 h5 h6
      · rw [if_pos h5]
        exact dec_size hB hn hcap hT hS (by omega) (by omega) h3 h4 h5
    · rw [if_pos h4]
      exact dec_kind hB hn hcap hT (by omega) (by omega) h3 h4
  · rw [if_pos h3]
    exact dec_sum hB hn hcap hT (by omega) (by omega) h3
end Go.Proofs.YtgkfnbbgohdalaaDoor
