import Derived.Test.YtnohammflhadpaaSb5
namespace Go.Proofs.Ytnohammflhadpaa
open Go.RowKit Go.Maps Go.Sort
set_option maxRecDepth 100000

set_option maxHeartbeats 1000000 in
theorem want_any {w : World} {p : Nat} {F : Sb} {a : Option Addr} {cap : Nat} (h : SbR w p F a cap) : Calls Try.prog 14 #[.pointer (some ⟨p, 0, none⟩)] w fun e w' => LowAns w (F.low 255) e w' := by
  have hb0 : Below w.heap.size w (w.alloc (.cells ch0.toArray 32)) := (Below.refl _ _).alloc (Nat.le_refl _) _
  have H := hid h
  clear h
  go_enter Try.func14, Try.ntmps14
  go_upto_region 1 with fail
  refine wp_world fun W HW => ?_
  have HX : Hid (Row W w.heap.size ch0 32) := by show Row _ _ _ _; rw [HW.out]; exact Row.new' _ _ _ _ _ rfl rfl
  have HB0 : Hid (Below w.heap.size w W) := by show Below _ _ _; rw [HW.out]; exact hb0
  have HL := hid (lowest_any (H.out.kept HB0.out) 255)
  clear HW hb0
  cases hlow : F.low 255 with
  | none =>
    rw [hlow] at HL
    go_wp2_with (first | (go_at_call 39; refine HL.out.mono ?_; rintro e w1 ⟨hb1, rfl⟩; have HB1 := hid hb1; clear hb1) | (show wpList _ _ _ (Oper.mk none (.store 32 (.tmp 2) (.tmp 6)) _ _ _ _ :: _) _ _; refine (HX.out.kept HB1.out HX.out.lt).wpStore' 32 (.tmp 2) (.tmp 6) ch0 rfl rfl rfl rfl rfl (by simp [Value.oneCell']) i32 ?_; intro wz HZ))
    have hz : Row wz w.heap.size ch0 32 := by rw [HZ.out]; exact (HX.out.kept HB1.out HX.out.lt).row _
    have hbz : Below w.heap.size w wz := by rw [HZ.out]; exact below_setRow (HB0.out.trans (HB1.out.mono HB0.out.size)) (Nat.le_refl _) _
    refine bodyPost_ret (hz.result2 Try.results14 _ rfl _ Try.underlying32 rfl i32) rfl ?_
    rw [hlow]
    exact ⟨hbz, rfl⟩
  | some c =>
    rw [hlow] at HL
    go_wp2_with (first | (go_at_call 39; refine HL.out.mono ?_; rintro e w1 ⟨hb1, sv, rfl, hO1⟩; have HB1 := hid hb1; have HO1 := hid hO1; clear hb1 hO1; obtain ⟨sa, sc, hsv⟩ := ownI_shape HO1.out; subst hsv; unfold ChV) | (show wpList _ _ _ (Oper.mk none (.store 32 (.tmp 2) (.tmp 6)) _ _ _ _ :: _) _ _; refine (HX.out.kept HB1.out HX.out.lt).wpStore' 32 (.tmp 2) (.tmp 6) [.int .u64 c.off, .int .i64 c.bs.length, .bool c.fin, .slice sa (onUp c.on 8).length sc, .bool c.held] rfl rfl rfl rfl rfl (by simp [Value.oneCell']) i32 ?_; intro wz HZ))
    have hz : Row wz w.heap.size [.int .u64 c.off, .int .i64 c.bs.length, .bool c.fin, .slice sa (onUp c.on 8).length sc, .bool c.held] 32 := by rw [HZ.out]; exact (HX.out.kept HB1.out HX.out.lt).row _
    have hbz : Below w.heap.size w wz := by rw [HZ.out]; exact below_setRow (HB0.out.trans (HB1.out.mono HB0.out.size)) (Nat.le_refl _) _
    refine bodyPost_ret (hz.result2 Try.results14 _ rfl _ Try.underlying32 rfl i32) rfl ?_
    rw [hlow]
    exact ⟨hbz, _, rfl, by rw [HZ.out]; exact ownI_less (ownI_set HO1.out HX.out.lt _) HB0.out.size⟩
/-- What Next tells. -/
def Sb.nxt (F : Sb) (x : Int) : Option Ck := if bit x = 0 then none else F.low (bit x)
set_option maxHeartbeats 1000000 in
theorem next_any {w : World} {p : Nat} {F : Sb} {a : Option Addr} {cap : Nat} (h : SbR w p F a cap) (x : Int) : Calls Try.prog 23 #[.pointer (some ⟨p, 0, none⟩), .int .i64 x] w fun e w' => LowAns w (F.nxt x) e w' := by
  have hb0 : Below w.heap.size w (w.alloc (.cells ch0.toArray 32)) := (Below.refl _ _).alloc (Nat.le_refl _) _
  have H := hid h
  have HO := fun w => hid (only_any w x)
  obtain ⟨bi, hbi⟩ : ∃ bi, bit x = bi := ⟨_, rfl⟩
  have HN0 : Hid (bi = 0 → F.nxt x = none) := fun e => by unfold Sb.nxt; rw [hbi, if_pos e]
  have HN1 : Hid (¬ bi = 0 → F.nxt x = F.low bi) := fun e => by unfold Sb.nxt; rw [hbi, if_neg e]
  rw [hbi] at HO
  clear hbi
  clear h
  go_enter Try.func23, Try.ntmps23
  go_upto_region 1 with fail
  refine wp_world fun W HW => ?_
  have HX : Hid (Row W w.heap.size ch0 32) := by show Row _ _ _ _; rw [HW.out]; exact Row.new' _ _ _ _ _ rfl rfl
  have HB0 : Hid (Below w.heap.size w W) := by show Below _ _ _; rw [HW.out]; exact hb0
  have HL := hid (lowest_any (H.out.kept HB0.out) bi)
  clear HW hb0
  by_cases hz : bi = 0
  · have HNN := hid (HN0.out hz)
    subst hz
    go_wp2_with (first | (go_at_call 41; refine (HO _).out.mono ?_; rintro e w1 ⟨rfl, rfl⟩) | (show wpList _ _ _ (Oper.mk none (.store 32 (.tmp 4) (.tmp 11)) _ _ _ _ :: _) _ _; refine HX.out.wpStore' 32 (.tmp 4) (.tmp 11) ch0 rfl rfl rfl rfl rfl (by simp [Value.oneCell']) i32 ?_; intro wz HZ))
    have hz : Row wz w.heap.size ch0 32 := by rw [HZ.out]; exact HX.out.row _
    have hbz : Below w.heap.size w wz := by rw [HZ.out]; exact below_setRow HB0.out (Nat.le_refl _) _
    refine bodyPost_ret (hz.result2 Try.results23 _ rfl _ Try.underlying32 rfl i32) rfl ?_
    rw [HNN.out]
    exact ⟨hbz, rfl⟩
  · have HNN := hid (HN1.out hz)
    cases hlow : F.low bi with
    | none =>
      rw [hlow] at HL
      go_wp2_with (first | (go_at_call 41; refine (HO _).out.mono ?_; rintro e w1 ⟨rfl, rfl⟩) | (go_at_call 39; refine HL.out.mono ?_; rintro e w1 ⟨hb1, rfl⟩; have HB1 := hid hb1; clear hb1) | (show wpList _ _ _ (Oper.mk none (.store 32 (.tmp 4) (.tmp 15)) _ _ _ _ :: _) _ _; refine (HX.out.kept HB1.out HX.out.lt).wpStore' 32 (.tmp 4) (.tmp 15) ch0 rfl rfl rfl rfl rfl (by simp [Value.oneCell']) i32 ?_; intro wz HZ))
      have hz : Row wz w.heap.size ch0 32 := by rw [HZ.out]; exact (HX.out.kept HB1.out HX.out.lt).row _
      have hbz : Below w.heap.size w wz := by rw [HZ.out]; exact below_setRow (HB0.out.trans (HB1.out.mono HB0.out.size)) (Nat.le_refl _) _
      refine bodyPost_ret (hz.result2 Try.results23 _ rfl _ Try.underlying32 rfl i32) rfl ?_
      rw [HNN.out, hlow]
      exact ⟨hbz, rfl⟩
    | some c =>
      rw [hlow] at HL
      go_wp2_with (first | (go_at_call 41; refine (HO _).out.mono ?_; rintro e w1 ⟨rfl, rfl⟩) | (go_at_call 39; refine HL.out.mono ?_; rintro e w1 ⟨hb1, sv, rfl, hO1⟩; have HB1 := hid hb1; have HO1 := hid hO1; clear hb1 hO1; obtain ⟨sa, sc, hsv⟩ := ownI_shape HO1.out; subst hsv; unfold ChV) | (show wpList _ _ _ (Oper.mk none (.store 32 (.tmp 4) (.tmp 15)) _ _ _ _ :: _) _ _; refine (HX.out.kept HB1.out HX.out.lt).wpStore' 32 (.tmp 4) (.tmp 15) [.int .u64 c.off, .int .i64 c.bs.length, .bool c.fin, .slice sa (onUp c.on 8).length sc, .bool c.held] rfl rfl rfl rfl rfl (by simp [Value.oneCell']) i32 ?_; intro wz HZ))
      have hz : Row wz w.heap.size [.int .u64 c.off, .int .i64 c.bs.length, .bool c.fin, .slice sa (onUp c.on 8).length sc, .bool c.held] 32 := by rw [HZ.out]; exact (HX.out.kept HB1.out HX.out.lt).row _
      have hbz : Below w.heap.size w wz := by rw [HZ.out]; exact below_setRow (HB0.out.trans (HB1.out.mono HB0.out.size)) (Nat.le_refl _) _
      refine bodyPost_ret (hz.result2 Try.results23 _ rfl _ Try.underlying32 rfl i32) rfl ?_
      rw [HNN.out, hlow]
      exact ⟨hbz, _, rfl, by rw [HZ.out]; exact ownI_less (ownI_set HO1.out HX.out.lt _) HB0.out.size⟩
end Go.Proofs.Ytnohammflhadpaa
