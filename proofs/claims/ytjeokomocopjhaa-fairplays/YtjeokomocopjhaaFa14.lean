import Derived.Test.YtjeokomocopjhaaFa13
namespace Go.Proofs.Ytjeokomocopjhaa
open Go.RowKit Go.Maps
set_option maxRecDepth 100000

theorem q10 : qN 10 = 10 := by decide
def aw1 (g : Nat) : Fs := ⟨10, [⟨5, g, ⟨1, 1, 0, 0⟩⟩], fun _ => []⟩
def aw2 (g h : Nat) : Fs := ⟨10, [⟨5, g, ⟨1, 1, 0, 0⟩⟩, ⟨6, h, ⟨1, 2, 0, 0⟩⟩], fun _ => []⟩
def aw3 (g h : Nat) : Fs := ⟨10, [⟨5, g, ⟨1, 1, 25, 0⟩⟩, ⟨6, h, ⟨1, 2, 0, 0⟩⟩], upR (fun _ => []) 1 [5]⟩
def aw4 (g h : Nat) : Fs := ⟨10, [⟨5, g, ⟨1, 1, 25, 0⟩⟩, ⟨6, h, ⟨1, 2, 25, 0⟩⟩], upR (fun _ => []) 1 [5, 6]⟩
def aw5 (g h : Nat) : Fs := ⟨10, [⟨5, g, ⟨1, 1, 15, 0⟩⟩, ⟨6, h, ⟨1, 2, 25, 0⟩⟩], upR (fun _ => []) 1 [6, 5]⟩
def aw6 (g h : Nat) : Fs := ⟨10, [⟨5, g, ⟨1, 1, 15, 0⟩⟩, ⟨6, h, ⟨1, 2, 5, 0⟩⟩], upR (fun _ => []) 1 [5, 6]⟩
theorem aw_a1 {s0 p : Nat} {w : World} (h : Fa s0 w p (Fs.zero (qN 10))) : Calls Try.prog 9 #[pt p 0, .int .u64 5, .int .i64 1, .int .i64 1] w fun e w' => e = .returned (.int .i64 0) ∧ ∃ g, Fa s0 w' p (aw1 g) ∧ Mo s0 w w' :=
  (fa_add (cls := 1) h (by decide) (by decide) (by rfl)).mono (fun _ _ ⟨h1, g, h2, h3⟩ => ⟨h1, g, h2, h3⟩)
theorem aw_a2 {s0 p g : Nat} {w : World} (h : Fa s0 w p (aw1 g)) : Calls Try.prog 9 #[pt p 0, .int .u64 6, .int .i64 1, .int .i64 2] w fun e w' => e = .returned (.int .i64 0) ∧ ∃ g', Fa s0 w' p (aw2 g g') ∧ Mo s0 w w' :=
  (fa_add (cls := 1) h (by decide) (by decide) (by rfl)).mono (fun _ _ ⟨h1, g', h2, h3⟩ => ⟨h1, g', h2, h3⟩)
theorem aw_m1 {s0 p g g' : Nat} {w : World} (h : Fa s0 w p (aw2 g g')) : Calls Try.prog 10 #[pt p 0, .int .u64 5, .int .i64 25] w fun e w' => e = .returned (.int .i64 0) ∧ Fa s0 w' p (aw3 g g') ∧ Mo s0 w w' :=
  (fa_more (x := ⟨5, g, ⟨1, 1, 0, 0⟩⟩) h (by rfl) (by rfl)).mono (fun _ _ ⟨h1, h2, h3⟩ => ⟨h1, h2, h3⟩)
theorem aw_m2 {s0 p g g' : Nat} {w : World} (h : Fa s0 w p (aw3 g g')) : Calls Try.prog 10 #[pt p 0, .int .u64 6, .int .i64 25] w fun e w' => e = .returned (.int .i64 0) ∧ Fa s0 w' p (aw4 g g') ∧ Mo s0 w w' :=
  (fa_more (x := ⟨6, g', ⟨1, 2, 0, 0⟩⟩) h (by rfl) (by rfl)).mono (fun _ _ ⟨h1, h2, h3⟩ => ⟨h1, by
    have e : (aw3 g g').more ⟨6, g', ⟨1, 2, 0, 0⟩⟩ 25 = aw4 g g' := by
      unfold aw3 aw4 Fs.more
      show Fs.mk _ _ (upR (upR _ 1 [5]) 1 [5, 6]) = _
      rw [upR_up]
      rfl
    rw [← e]; exact h2, h3⟩)
theorem aw_n1 {s0 p g g' : Nat} {w : World} (h : Fa s0 w p (aw4 g g')) : Calls Try.prog 11 #[pt p 0, .int .i64 100] w fun e w' => e = .returned (.tuple #[.agg #[.int .u64 5, .int .i64 10], .bool true]) ∧ Fa s0 w' p (aw5 g g') ∧ Mo s0 w w' :=
  (fa_next (x := ⟨5, g, ⟨1, 1, 25, 0⟩⟩) (B := [6]) h (by decide) ⟨by simp [aw4], fun k hk => by
    have hk' : k < 1 := hk
    have hk0 : k = 0 := by omega
    rw [hk0]
    rfl, rfl⟩).mono (fun _ _ ⟨h1, h2, h3⟩ => ⟨h1, by
    have e : (aw4 g g').next ⟨5, g, ⟨1, 1, 25, 0⟩⟩ 100 [6] = aw5 g g' := by
      show Fs.mk _ _ (upR (upR _ 1 [5, 6]) 1 [6, 5]) = _
      rw [upR_up]
      rfl
    rw [← e]; exact h2, h3⟩)
theorem aw_n2 {s0 p g g' : Nat} {w : World} (h : Fa s0 w p (aw5 g g')) : Calls Try.prog 11 #[pt p 0, .int .i64 100] w fun e w' => e = .returned (.tuple #[.agg #[.int .u64 6, .int .i64 20], .bool true]) ∧ Fa s0 w' p (aw6 g g') ∧ Mo s0 w w' :=
  (fa_next (x := ⟨6, g', ⟨1, 2, 25, 0⟩⟩) (B := [5]) h (by decide) ⟨by simp [aw5], fun k hk => by
    have hk' : k < 1 := hk
    have hk0 : k = 0 := by omega
    rw [hk0]
    rfl, rfl⟩).mono (fun _ _ ⟨h1, h2, h3⟩ => ⟨h1, by
    have e : (aw5 g g').next ⟨6, g', ⟨1, 2, 25, 0⟩⟩ 100 [5] = aw6 g g' := by
      show Fs.mk _ _ (upR (upR _ 1 [6, 5]) 1 [5, 6]) = _
      rw [upR_up]
      rfl
    rw [← e]; exact h2, h3⟩)
theorem eq23 (w : World) (g : Nat) : (binOp BinOp.eql 23 (pt g 0) (.pointer none)).run Try.prog w = .ok (.bool false) w := by kernel_rfl
theorem eq31a (w : World) : (Op.equalIn 10000 31 (.agg #[.int .u64 5, .int .i64 10]) (.agg #[.int .u64 5, .int .i64 10])).run Try.prog w = .ok true w := by kernel_rfl
theorem eq31b (w : World) : (Op.equalIn 10000 31 (.agg #[.int .u64 6, .int .i64 20]) (.agg #[.int .u64 6, .int .i64 20])).run Try.prog w = .ok true w := by kernel_rfl
theorem aw_w (g g' : Nat) : (aw6 g g').waits = 20 := by rfl
set_option maxHeartbeats 4000000 in
theorem awake_any (w : World) : Calls Try.prog 8 #[] w fun e w' => e = .returned (.bool true) ∧ Below w.heap.size w w' := by
  have HN := hid2 (fa_new w 10)
  have hn := eq23
  go_enter Try.func8, Try.ntmps8
  go_upto_region 4 with (first
    | (go_at_call 7; refine HN.out.mono ?_; rintro e w1 ⟨p, rfl, hF1, hb1⟩; have HB1 := hid2 hb1; have HA1 := hid2 (aw_a1 hF1); clear hF1 hb1 HN)
    | (go_at_call 9; refine HA1.out.mono ?_; rintro e w2 ⟨rfl, g, hF2, hm2⟩; have HB2 := hid2 (HB1.out.trans hm2.below); have HA2 := hid2 (aw_a2 hF2); clear hF2 hm2 HA1 HB1)
    | (go_at_call 9; refine HA2.out.mono ?_; rintro e w3 ⟨rfl, g', hF3, hm3⟩; have HB3 := hid2 (HB2.out.trans hm3.below); have HM1 := hid2 (aw_m1 hF3); clear hF3 hm3 HA2 HB2)
    | (go_at_call 10; refine HM1.out.mono ?_; rintro e w4 ⟨rfl, hF4, hm4⟩; have HB4 := hid2 (HB3.out.trans hm4.below); have HM2 := hid2 (aw_m2 hF4); clear hF4 hm4 HM1 HB3)
    | (go_at_call 10; refine HM2.out.mono ?_; rintro e w5 ⟨rfl, hF5, hm5⟩; have HB5 := hid2 (HB4.out.trans hm5.below); have HF5 := hid2 hF5; clear hF5 hm5 HM2 HB4))
  have HN1 := hid2 (aw_n1 HF5.out)
  go_upto_region 5 with (go_at_call 11; refine HN1.out.mono ?_; rintro e w6 ⟨rfl, hF6, hm6⟩; have HB6 := hid2 (HB5.out.trans hm6.below); have HF6 := hid2 hF6; clear hF6 hm6 HN1 HB5)
  refine wp_world ?_
  intro w7 hw7
  have h67 : Below w6.heap.size w6 w7 := by rw [hw7.out]; exact below_box w6 _
  have R7 : Row w7 w6.heap.size [.int .u64 5, .int .i64 10] 31 := by rw [hw7.out]; exact Row.new w6 _ 31
  have HN2 := hid2 (aw_n2 (HF6.out.below h67))
  have HB7 := hid2 (HB6.out.trans (h67.mono HB6.out.size))
  have HR7 := hid2 R7
  clear hw7 h67 R7 HF6 HB6
  go_upto_region 6 with (go_at_call 11; refine HN2.out.mono ?_; rintro e w8 ⟨rfl, hF8, hm8⟩; have HB8 := hid2 (HB7.out.trans hm8.below); have HF8 := hid2 hF8; have HR8 := hid2 (hm8.row _ _ _ HR7.out (by decide) (by decide) (by decide)); clear hF8 hm8 HN2 HB7 HR7)
  refine wp_world ?_
  intro w9 hw9
  have h89 : Below w8.heap.size w8 w9 := by rw [hw9.out]; exact below_box w8 _
  have R9 : Row w9 w8.heap.size [.int .u64 6, .int .i64 20] 31 := by rw [hw9.out]; exact Row.new w8 _ 31
  have S9 := HR8.out.kept h89 HR8.out.lt
  have HW := hid2 (fa_waiting (HF8.out.below h89))
  have HB9 := hid2 (HB8.out.trans (h89.mono HB8.out.size))
  have r0 := R9.cell 0 _ rfl
  have r1 := R9.cell 1 _ rfl
  have t0 := S9.cell 0 _ rfl
  have t1 := S9.cell 1 _ rfl
  have ha := eq31a
  have hb := eq31b
  clear hw9 h89 R9 S9 HF8 HB8 HR8
  go_wp2_with (go_at_call 13; refine HW.out.mono ?_; rintro e w10 ⟨rfl, hb10⟩; rw [aw_w]; have HB10 := hid2 (HB9.out.trans (hb10.mono HB9.out.size)); clear hb10 HW HB9)
  go_ret
  exact ⟨by first | rfl | simp, HB10.out⟩
end Go.Proofs.Ytjeokomocopjhaa
