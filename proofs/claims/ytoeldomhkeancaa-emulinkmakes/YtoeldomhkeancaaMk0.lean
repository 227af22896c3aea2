import Derived.Test.YtoeldomhkeancaaMd0
import Derived.Test.YtoeldomhkeancaaAl0
namespace Go.Proofs.Ytoeldomhkeancaa
open Go.RowKit Go.Maps
set_option maxRecDepth 100000

theorem eq30z (w : World) : (binOp .eql 30 (.agg stat0.toArray) (.agg stat0.toArray)).run Try.prog w = .ok (.bool true) w := by kernel_rfl
set_option maxHeartbeats 4000000 in
/-- NewLink of any configuration. -/
theorem makes_law {w : World} {r d q : Int} {la ja : Option Addr} {lc jc : Nat} {loss : List Bool} {jit : List Int} (hlo : ElAt w la (loss.map Value.bool)) (hj : ElAt w ja (jit.map (Value.int .i64))) (hzl : la = none → lc = 0) (hzj : ja = none → jc = 0) (hll : loss.length + 1 ≤ 140737488355328) (hjl : jit.length + 1 ≤ 17592186044416) :
    Calls Try.prog 8 #[.agg (confC r d q (.slice la loss.length lc) (.slice ja jit.length jc)).toArray] w fun e w' => e = .returned (.bool true) ∧ Below w.heap.size w w' := by
  have HA : Hid (∀ w, Calls Try.prog 13 #[] w fun e w' => e = .returned (.bool true) ∧ Below w.heap.size w w') := alive_any
  have hE := eq30z
  have hb1 := below_new w (.cells #[.int .i64 r, .int .i64 d, .int .i64 q, .slice la loss.length lc, .slice ja jit.length jc] 28)
  have R := Row.new w (confC r d q (.slice la loss.length lc) (.slice ja jit.length jc)) 28
  have HM := hid (made_any (r := r) (d := d) (q := q) (hlo.kept hb1) (hj.kept hb1) hzl hzj hll hjl)
  have x0 := R.cell 0 _ rfl
  have x1 := R.cell 1 _ rfl
  have x2 := R.cell 2 _ rfl
  have x3 := R.cell 3 _ rfl
  have x4 := R.cell 4 _ rfl
  have HB1 := hid hb1
  simp only [confC] at *
  clear hj hlo R hb1 hzl hzj hll hjl
  go_enter Try.func8, Try.ntmps8
  go_upto_region 1 with fail
  revert HM x0 x1 x2 x3 x4 HB1
  generalize w.alloc (.cells #[.int .i64 r, .int .i64 d, .int .i64 q, .slice la loss.length lc, .slice ja jit.length jc] 28) = w1
  intro HM x0 x1 x2 x3 x4 HB1
  obtain ⟨b, hb⟩ : ∃ b, w.heap.size = b := ⟨_, rfl⟩
  rw [hb] at x0 x1 x2 x3 x4 ⊢
  have HBB := hid hb
  clear hb
  go_upto_region 2 with (go_at_call 17; refine HM.out.mono ?_; rintro e w2 ⟨vl, rv, rfl, hV, hR, hB2⟩; have HV := hid hV; have HR := hid hR; have HB2 := hid hB2; clear hV hR hB2 HM)
  have HB := hid (below_two HB1.out HB2.out (Nat.le_refl _))
  clear x0 x1 x2 x3 x4 HB1 HB2
  rcases HV.out with ⟨h0, e⟩ | ⟨h0, p, lv, jv, e, hL, h1, h2, h3⟩
  · rcases HR.out with ⟨_, e2⟩ | ⟨h1, _⟩
    · subst e e2
      clear HV HR h0
      go_wp2_with (go_at_call 13; refine (HA.out _).mono ?_; rintro e w4 ⟨rfl, hB4⟩; have HB4 := hid hB4; clear hB4)
      go_ret
      have h := below_two HB.out HB4.out (Nat.le_refl _)
      exact ⟨rfl, h⟩
    · exact absurd h1 h0
  · rcases HR.out with ⟨h4, _⟩ | ⟨_, p2, lv2, jv2, e2, hR2⟩
    · exact absurd h0 h4
    · subst e e2
      have hq : 1 ≤ (Lk.fresh r d q loss jit lv jv).queue := (fresh_ok h0).q0
      have HS1 : Hid (∀ w', Below w2.heap.size w2 w' → Calls Try.prog 12 #[pt p 0] w' fun e w'' => e = .returned (.agg stat0.toArray) ∧ Below w'.heap.size w' w'') := fun w' hb => stat_any (hL.below hb) hq
      have HS2 : Hid (∀ w', Below w2.heap.size w2 w' → Calls Try.prog 18 #[pt p2 0] w' fun e w'' => e = .returned (.agg stat0.toArray) ∧ Below w'.heap.size w' w'') := fun w' hb => rstat_none (hR2.kept hb hR2.lt)
      clear HV HR h0 hL h1 h2 h3 hR2 hq
      go_wp2_with (first
        | (go_at_call 13; refine (HA.out _).mono ?_; rintro e w5 ⟨rfl, hB5⟩; have HB5 := hid hB5; clear hB5)
        | (go_at_call 12; refine (HS1.out _ (Below.refl _ _)).mono ?_; rintro e w3 ⟨rfl, hB3⟩; have HB3 := hid hB3; clear hB3)
        | (go_at_call 18; refine (HS2.out _ HB3.out).mono ?_; rintro e w4 ⟨rfl, hB4⟩; have HB4 := hid hB4; clear hB4))
      go_ret
      have h := below_two (below_two (below_two HB.out HB3.out (Nat.le_refl _)) HB4.out (Nat.le_refl _)) HB5.out (Nat.le_refl _)
      exact ⟨rfl, h⟩
end Go.Proofs.Ytoeldomhkeancaa
