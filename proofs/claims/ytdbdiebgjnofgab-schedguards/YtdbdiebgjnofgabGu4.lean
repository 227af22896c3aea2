import Derived.Test.YtdbdiebgjnofgabGu2
import Derived.Test.YtdbdiebgjnofgabSd9
import Derived.Lib.SlBytesConst
namespace Go.Proofs.Ytdbdiebgjnofgab
open Go.RowKit Go.Maps Go.Sort
set_option maxRecDepth 100000

theorem bytes_const (w : World) (bs : List (BitVec 8)) (fr : Nat × Nat) : Snd.BytesAt (w.alloc (.cells (Snd.bcells bs).toArray 5 fr)) (some ⟨w.heap.size, 0, none⟩) bs := fun k hk => by
  refine ⟨_, _, rfl, ?_⟩
  rw [Nat.zero_add, World.cell?_alloc_mark]
  simpa using Snd.bcells_get hk
def abj : List (BitVec 8) := [97#8, 98#8, 99#8, 100#8, 101#8, 102#8, 103#8, 104#8, 105#8, 106#8]
def jL (g : Nat) : List Snd.Ck := [Snd.dataCk 0 [97#8, 98#8, 99#8, 100#8, 101#8] (some ⟨g, 0, none⟩), Snd.dataCk 5 [102#8, 103#8, 104#8, 105#8, 106#8] (some ⟨g, 5, none⟩)]
theorem cut_abj (g t : Nat) (h : 10 ≤ t * 5) : Snd.cutCks 5 g t 0 0 (abj.take 10) = jL g := by
  obtain ⟨t, rfl⟩ : ∃ s, t = s + 2 := ⟨t - 2, by omega⟩
  have : ∀ o e, Snd.cutCks 5 g t o e [] = [] := fun o e => by cases t <;> simp [Snd.cutCks]
  simp [Snd.cutCks, abj, jL, this]
def jF (g : Nat) : Snd.Sb := ⟨20, 5, 0, 0, 10, 7, false, jL g⟩
theorem jF_cut (g t : Nat) (h : 10 ≤ t * 5) : (Snd.Sb.mk1 0 20 5 7).cutT 5 g 0 (abj.take 10) t = jF g := by
  unfold Snd.Sb.cutT jF
  rw [show (Snd.Sb.mk1 0 20 5 7).end_ = 0 from rfl, show (Snd.Sb.mk1 0 20 5 7).L = [] from rfl, List.nil_append, cut_abj g t h]
  have e : min (t * 5) (abj.take 10).length = 10 := by simp [abj]; omega
  rw [e]
  rfl
theorem jF_may0 (g : Nat) : (jF g).mayOn ((jF g).L[0]'(by show 0 < 2; decide)) (Snd.bit 0) = true := by
  have hg : (jF g).mayGo (Snd.dataCk 0 [97#8, 98#8, 99#8, 100#8, 101#8] (some ⟨g, 0, none⟩)) = true := by simp [Snd.Sb.mayGo, Snd.dataCk, Snd.Ck.behind, jF]
  show (jF g).mayOn (Snd.dataCk 0 [97#8, 98#8, 99#8, 100#8, 101#8] (some ⟨g, 0, none⟩)) (Snd.bit 0) = true
  unfold Snd.Sb.mayOn
  rw [hg]
  show (!(Snd.bit 0 == 0) && (!false && (bits BinOp.and IntKind.u8 0 (Snd.bit 0) == 0)) && true) = true
  decide
theorem jF_may1 (g : Nat) : (jF g).mayOn ((jF g).L[1]'(by show 1 < 2; decide)) (Snd.bit 0) = false := by
  have hg : (jF g).mayGo (Snd.dataCk 5 [102#8, 103#8, 104#8, 105#8, 106#8] (some ⟨g, 5, none⟩)) = false := by simp [Snd.Sb.mayGo, Snd.dataCk, Snd.Ck.behind, jF]
  show (jF g).mayOn (Snd.dataCk 5 [102#8, 103#8, 104#8, 105#8, 106#8] (some ⟨g, 5, none⟩)) (Snd.bit 0) = false
  unfold Snd.Sb.mayOn
  rw [hg, Bool.and_false]
abbrev pv0 : Pv := ⟨true, false, false, 0, 1, 0, false, ⟨0, 0, false, ⟨none, 0, 0⟩, false⟩⟩
abbrev pv1 : Pv := ⟨true, false, false, 0, 1, 1, false, ⟨0, 0, false, ⟨none, 0, 0⟩, false⟩⟩
abbrev pvw (g : Nat) : Vw := ⟨some ⟨g, 0, none⟩, 2, [pv0, pv1], false, ⟨0, 0, false, ⟨none, 0, 0⟩, false⟩, 0, 0⟩
set_option maxHeartbeats 4000000 in
theorem passes_any (w : World) : Calls Try.prog 29 #[] w fun e w' => e = .returned (.bool true) ∧ Below w.heap.size w w' := by
  have kc := fun (w : World) (C : Array Value) (n c : Nat) => Lib.run_convert_bytes_const (P := Try.prog) w 58 5 C n c Try.underlying58 Try.underlying5
  go_enter Try.func29, Try.ntmps29
  go_wp2_with fail
  refine (Snd.new_any w (b := 0) (r := 20) (m := 5) (by decide) (by decide) (by decide) rfl rfl rfl).mono ?_
  rintro e w1 ⟨p, rfl, hS, hb1, hp1⟩
  have HS1 := hid hS
  have HB1 := hid hb1
  clear hS hb1
  have hbx : Below w1.heap.size w1 (w1.alloc (.cells (Snd.bcells abj).toArray 5 (10, 11))) := (Below.refl _ _).alloc (Nat.le_refl _) _
  have HW := hid (Snd.write_yes (HS1.out.kept hbx) rfl (by decide) (bytes_const w1 abj (10, 11)) 10 10 rfl (by decide) (by decide) (fun e => by cases e) (fun d hd => by cases hd) (fun g o e => by cases e) 10 (by decide))
  have HBX := hid (HB1.out.trans (hbx.mono HB1.out.size))
  clear hbx
  go_wp2_with fail
  refine HW.out.mono ?_
  rintro e w2 ⟨rfl, hA⟩
  rcases hA with ⟨h0, _⟩ | ⟨wq, m, g, t, a', cap', _, hbq, hm, hg, ht, hC⟩
  · cases h0
  obtain rfl : m = 5 := by
    have : (5 : Int) = m := hm
    omega
  have hsb := hC.sb
  rw [jF_cut g t ht] at hsb
  obtain ⟨g2, o2, arr, rfl, _⟩ := hsb.blk (k := 0) (by show 0 < 2; decide)
  have HB2 : Hid (Below w.heap.size w w2) := by
    have h1 := HBX.out.trans (hbq.mono HBX.out.size)
    refine h1.trans (hC.fr.below (fun x hx => ?_) h1.size)
    rcases hx with rfl | ⟨_, e⟩
    · exact hp1
    · cases e
  have HS2 := hid hsb
  clear hsb hC hbq hm hg ht HS1 HB1 HBX HW
  go_upto_region 5 with fail
  refine wp_world fun W HW => ?_
  have HBW : Hid (Below w2.heap.size w2 W) := by show Below _ _ _; rw [HW.out]; exact ((Below.refl _ _).alloc (Nat.le_refl _) _).alloc (by simp) _
  have HV : Hid (VwAt W (pvw w2.heap.size)) := by
    refine ⟨Row.paths (t := 39) ?_, by simp⟩
    rw [HW.out]
    exact (Row.new' _ _ _ _ _ rfl rfl).alloc _
  have HX : Hid (Row W (w2.heap.size + 1) (pvw w2.heap.size).cells 28) := by show Row _ _ _ _; rw [HW.out]; exact Row.new' _ _ _ _ _ (by simp) rfl
  have HS3 := hid (HS2.out.kept HBW.out)
  have HB3 := hid (HB2.out.trans (HBW.out.mono HB2.out.size))
  clear HW HBW HS2 HB2
  generalize w2.heap.size = vg at *
  have HM1 : Hid (∀ W', Below W.heap.size W W' → Calls Try.prog 26 #[.pointer (some ⟨p, 0, none⟩), .int .i64 0, .int .u64 0, .int .i64 5] W' fun e w' => e = .returned (.bool true) ∧ Below W'.heap.size W' w') := fun W' hW => by
    have := Snd.may_some (HS3.out.kept hW).r 0 (off := 0) 5 (k := 0) (by show 0 < 2; decide) rfl
    rw [jF_may0] at this
    exact this
  have HM2 : Hid (∀ W', Below W.heap.size W W' → Calls Try.prog 26 #[.pointer (some ⟨p, 0, none⟩), .int .i64 0, .int .u64 5, .int .i64 5] W' fun e w' => e = .returned (.bool false) ∧ Below W'.heap.size W' w') := fun W' hW => by
    have := Snd.may_some (HS3.out.kept hW).r 0 (off := 5) 5 (k := 1) (by show 1 < 2; decide) rfl
    rw [jF_may1, Bool.and_false] at this
    exact this
  have HM3 : Hid (∀ W', Below W.heap.size W W' → Calls Try.prog 26 #[.pointer (some ⟨p, 0, none⟩), .int .i64 0, .int .u64 0, .int .i64 4] W' fun e w' => e = .returned (.bool false) ∧ Below W'.heap.size W' w') := fun W' hW => by
    have := Snd.may_some (HS3.out.kept hW).r 0 (off := 0) 4 (k := 0) (by show 0 < 2; decide) rfl
    rw [decide_eq_false (show ¬ ((((jF g).L[0]'(by show 0 < 2; decide)).bs.length : Nat) : Int) = 4 by show ¬ ((5 : Nat) : Int) = 4; decide), Bool.false_and] at this
    exact this
  have HG1 : Hid (∀ W', Below W.heap.size W W' → Calls Try.prog 27 #[.agg #[.slice (some ⟨vg, 0, none⟩) 2 2, .bool false, .int .u64 0, .int .i64 0, .bool false, .slice none 0 0, .bool false, .int .u64 0, .int .i64 0], .pointer (some ⟨p, 0, none⟩), .agg #[.int .i64 0, .int .u64 0, .int .i64 5]] W' fun e w' => e = .returned (.bool true) ∧ Below W'.heap.size W' w') := fun W' hW => by
    have h := guard_any (HV.out.kept hW) (p := p) 0 0 5 (fun W'' hW' => HM1.out W'' (hW.trans (hW'.mono hW.size)))
    refine h.mono ?_
    rintro e w' ⟨rfl, hb⟩
    exact ⟨rfl, hb⟩
  have HG2 : Hid (∀ W', Below W.heap.size W W' → Calls Try.prog 27 #[.agg #[.slice (some ⟨vg, 0, none⟩) 2 2, .bool false, .int .u64 0, .int .i64 0, .bool false, .slice none 0 0, .bool false, .int .u64 0, .int .i64 0], .pointer (some ⟨p, 0, none⟩), .agg #[.int .i64 0, .int .u64 5, .int .i64 5]] W' fun e w' => e = .returned (.bool false) ∧ Below W'.heap.size W' w') := fun W' hW => by
    have h := guard_any (HV.out.kept hW) (p := p) 0 5 5 (fun W'' hW' => HM2.out W'' (hW.trans (hW'.mono hW.size)))
    refine h.mono ?_
    rintro e w' ⟨rfl, hb⟩
    exact ⟨rfl, hb⟩
  have HG3 : Hid (∀ W', Below W.heap.size W W' → Calls Try.prog 27 #[.agg #[.slice (some ⟨vg, 0, none⟩) 2 2, .bool false, .int .u64 0, .int .i64 0, .bool false, .slice none 0 0, .bool false, .int .u64 0, .int .i64 0], .pointer (some ⟨p, 0, none⟩), .agg #[.int .i64 0, .int .u64 0, .int .i64 4]] W' fun e w' => e = .returned (.bool false) ∧ Below W'.heap.size W' w') := fun W' hW => by
    have h := guard_any (HV.out.kept hW) (p := p) 0 0 4 (fun W'' hW' => HM3.out W'' (hW.trans (hW'.mono hW.size)))
    refine h.mono ?_
    rintro e w' ⟨rfl, hb⟩
    exact ⟨rfl, hb⟩
  have HG4 : Hid (∀ W', Below W.heap.size W W' → Calls Try.prog 27 #[.agg #[.slice (some ⟨vg, 0, none⟩) 2 2, .bool false, .int .u64 0, .int .i64 0, .bool false, .slice none 0 0, .bool false, .int .u64 0, .int .i64 0], .pointer (some ⟨p, 0, none⟩), .agg #[.int .i64 1, .int .u64 0, .int .i64 5]] W' fun e w' => e = .returned (.bool false) ∧ Below W'.heap.size W' w') := fun W' hW => by
    have h := guard_any (HV.out.kept hW) (p := p) 1 0 5 (fun W'' hW' => Snd.may_some ((HS3.out.kept hW).kept hW').r 1 (off := 0) 5 (k := 0) (by show 0 < 2; decide) rfl)
    refine h.mono ?_
    rintro e w' ⟨rfl, hb⟩
    exact ⟨rfl, hb⟩
  have HG5 : Hid (∀ W', Below W.heap.size W W' → Calls Try.prog 27 #[.agg #[.slice (some ⟨vg, 0, none⟩) 2 2, .bool false, .int .u64 0, .int .i64 0, .bool false, .slice none 0 0, .bool false, .int .u64 0, .int .i64 0], .pointer (some ⟨p, 0, none⟩), .agg #[.int .i64 2, .int .u64 0, .int .i64 5]] W' fun e w' => e = .returned (.bool false) ∧ Below W'.heap.size W' w') := fun W' hW => by
    have h := guard_any (HV.out.kept hW) (p := p) 2 0 5 (fun W'' hW' => Snd.may_some ((HS3.out.kept hW).kept hW').r 2 (off := 0) 5 (k := 0) (by show 0 < 2; decide) rfl)
    refine h.mono ?_
    rintro e w' ⟨rfl, hb⟩
    exact ⟨rfl, hb⟩
  clear HM1 HM2 HM3 HS3 HV
  have b0 := HX.out.cell 0 _ rfl
  have b1 := HX.out.cell 1 _ rfl
  have b2 := HX.out.cell 2 _ rfl
  have b3 := HX.out.cell 3 _ rfl
  have b4 := HX.out.cell 4 _ rfl
  have b5 := HX.out.cell 5 _ rfl
  have b6 := HX.out.cell 6 _ rfl
  have b7 := HX.out.cell 7 _ rfl
  have b8 := HX.out.cell 8 _ rfl
  simp only [List.length_cons, List.length_nil, Nat.zero_add, Nat.reduceAdd] at b0
  have HA0 : Hid (Below W.heap.size W W) := Below.refl _ _
  go_wp2_with fail
  refine (HG1.out _ HA0.out).mono ?_
  rintro e wa1 ⟨rfl, hb1⟩
  have HX1 := hid (HX.out.kept hb1 HX.out.lt)
  have HA1 := hid (HA0.out.trans (hb1.mono HA0.out.size))
  clear b0 b1 b2 b3 b4 b5 b6 b7 b8 hb1
  have b0 := HX1.out.cell 0 _ rfl
  have b1 := HX1.out.cell 1 _ rfl
  have b2 := HX1.out.cell 2 _ rfl
  have b3 := HX1.out.cell 3 _ rfl
  have b4 := HX1.out.cell 4 _ rfl
  have b5 := HX1.out.cell 5 _ rfl
  have b6 := HX1.out.cell 6 _ rfl
  have b7 := HX1.out.cell 7 _ rfl
  have b8 := HX1.out.cell 8 _ rfl
  simp only [List.length_cons, List.length_nil, Nat.zero_add, Nat.reduceAdd] at b0
  go_wp2_with fail
  refine (HG2.out _ HA1.out).mono ?_
  rintro e wa2 ⟨rfl, hb2⟩
  have HX2 := hid (HX1.out.kept hb2 HX1.out.lt)
  have HA2 := hid (HA1.out.trans (hb2.mono HA1.out.size))
  clear b0 b1 b2 b3 b4 b5 b6 b7 b8 hb2
  have b0 := HX2.out.cell 0 _ rfl
  have b1 := HX2.out.cell 1 _ rfl
  have b2 := HX2.out.cell 2 _ rfl
  have b3 := HX2.out.cell 3 _ rfl
  have b4 := HX2.out.cell 4 _ rfl
  have b5 := HX2.out.cell 5 _ rfl
  have b6 := HX2.out.cell 6 _ rfl
  have b7 := HX2.out.cell 7 _ rfl
  have b8 := HX2.out.cell 8 _ rfl
  simp only [List.length_cons, List.length_nil, Nat.zero_add, Nat.reduceAdd] at b0
  go_wp2_with fail
  refine (HG3.out _ HA2.out).mono ?_
  rintro e wa3 ⟨rfl, hb3⟩
  have HX3 := hid (HX2.out.kept hb3 HX2.out.lt)
  have HA3 := hid (HA2.out.trans (hb3.mono HA2.out.size))
  clear b0 b1 b2 b3 b4 b5 b6 b7 b8 hb3
  have b0 := HX3.out.cell 0 _ rfl
  have b1 := HX3.out.cell 1 _ rfl
  have b2 := HX3.out.cell 2 _ rfl
  have b3 := HX3.out.cell 3 _ rfl
  have b4 := HX3.out.cell 4 _ rfl
  have b5 := HX3.out.cell 5 _ rfl
  have b6 := HX3.out.cell 6 _ rfl
  have b7 := HX3.out.cell 7 _ rfl
  have b8 := HX3.out.cell 8 _ rfl
  simp only [List.length_cons, List.length_nil, Nat.zero_add, Nat.reduceAdd] at b0
  go_wp2_with fail
  refine (HG4.out _ HA3.out).mono ?_
  rintro e wa4 ⟨rfl, hb4⟩
  have HX4 := hid (HX3.out.kept hb4 HX3.out.lt)
  have HA4 := hid (HA3.out.trans (hb4.mono HA3.out.size))
  clear b0 b1 b2 b3 b4 b5 b6 b7 b8 hb4
  have b0 := HX4.out.cell 0 _ rfl
  have b1 := HX4.out.cell 1 _ rfl
  have b2 := HX4.out.cell 2 _ rfl
  have b3 := HX4.out.cell 3 _ rfl
  have b4 := HX4.out.cell 4 _ rfl
  have b5 := HX4.out.cell 5 _ rfl
  have b6 := HX4.out.cell 6 _ rfl
  have b7 := HX4.out.cell 7 _ rfl
  have b8 := HX4.out.cell 8 _ rfl
  simp only [List.length_cons, List.length_nil, Nat.zero_add, Nat.reduceAdd] at b0
  go_wp2_with fail
  refine (HG5.out _ HA4.out).mono ?_
  rintro e wa5 ⟨rfl, hb5⟩
  have HX5 := hid (HX4.out.kept hb5 HX4.out.lt)
  have HA5 := hid (HA4.out.trans (hb5.mono HA4.out.size))
  clear b0 b1 b2 b3 b4 b5 b6 b7 b8 hb5
  have b0 := HX5.out.cell 0 _ rfl
  have b1 := HX5.out.cell 1 _ rfl
  have b2 := HX5.out.cell 2 _ rfl
  have b3 := HX5.out.cell 3 _ rfl
  have b4 := HX5.out.cell 4 _ rfl
  have b5 := HX5.out.cell 5 _ rfl
  have b6 := HX5.out.cell 6 _ rfl
  have b7 := HX5.out.cell 7 _ rfl
  have b8 := HX5.out.cell 8 _ rfl
  simp only [List.length_cons, List.length_nil, Nat.zero_add, Nat.reduceAdd] at b0
  go_wp2_with fail
  go_ret
  exact ⟨rfl, HB3.out.trans (HA5.out.mono HB3.out.size)⟩
end Go.Proofs.Ytdbdiebgjnofgab
