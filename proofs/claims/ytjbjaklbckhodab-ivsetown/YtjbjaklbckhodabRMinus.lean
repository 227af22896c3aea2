import Derived.Test.YtjbjaklbckhodabPl0
import Derived.Deep.CutRange
namespace Go.Proofs.Ytjbjaklbckhodab
open Go.RowKit
set_option maxRecDepth 100000

/-- A stretch behind an own row, in a region's list. -/
theorem own_more {w : World} {B : Nat} {v : Value} {A : List Rg} {z : Rg} (h : w.ownsRow B 25 2 v (A.length + 1) (flat A ++ [.int .u64 z.1, .int .u64 z.2])) : w.ownsRow B 25 2 v (A ++ [z]).length (flat (A ++ [z])) := by
  rw [List.length_append, flat_append, flat_cons]
  exact h

/-- 'append' of one stretch to an own row. -/
theorem wpMore {W : World} {ops : Array Oper} {rest : List Oper} {o : Oper} {act : Act} {Q : Exit → Act → World → Prop} (hgd : o.guard = none) (s x : Operand) {t : TypeId} (ht : Try.prog.underlying t = some (.slice 25)) (ho : o.op = .call { callee := .builtin .append, args := #[s, x], argTypes := #[t, t] })
    {base : Nat} {v : Value} {A : List Rg} (z : Rg) (hs : act.eval s = v) (hown : W.ownsRow base 25 2 v A.length (flat A)) (hx : act.eval x = .slice (some ⟨W.heap.size, 0, none⟩) 1 1) (hl : (A.length + 1) * 16 ≤ 140737488355328) (hb : base ≤ W.heap.size)
    (h : ∀ v' w', w'.ownsRow base 25 2 v' (A ++ [z]).length (flat (A ++ [z])) → W.grownBy w' v.ownBlock → Below base W w' → wpList Try.prog ops Q rest (act.put o.dst v') w') :
    wpList Try.prog ops Q (o :: rest) act (W.alloc (.cells #[.int .u64 z.1, .int .u64 z.2] 25)) := by
  obtain ⟨i0, hi, hz0, hz1, hz2⟩ := info_parts info29'
  refine wpList_append_own_at _ hgd s x t ho base 25 i0 (.agg #[.int .u64 0, .int .u64 0]) 2 16 ht hi hz0 hz1 hz2 rfl (by decide) v A.length (flat A) hs (World.ownsRow.alloc hown _) ⟨W.heap.size, 0, none⟩ 1 1 [.int .u64 z.1, .int .u64 z.2] hx rfl (box_range W 25 _) (pair_one z.1 z.2) (by unfold maxLen; omega) hl (by simp; omega) ?_
  intro v' w' ho' hg' _ _
  have hg : W.grownBy w' v.ownBlock := (World.grownBy_alloc W _ _).trans hg'
  exact h v' w' (own_more ho') hg ((Below.refl base W).grown hg hb (fun y e => own_ge hown e))

set_option maxHeartbeats 4000000 in
/-- The reference's Minus. -/
theorem rminus_any {w : World} {a : Option Addr} {cap : Nat} {L : List Rg} (C : Cells w a L) (hf : L.length ≤ 8388608) (rl rh : Int) :
    Calls Try.prog 33 #[.slice a L.length cap, .agg #[.int .u64 rl, .int .u64 rh]] w fun e w' => ∃ v, e = .returned v ∧ w'.ownsRow w.heap.size 25 2 v (minusL L (rl, rh)).length (flat (minusL L (rl, rh))) ∧ Below w.heap.size w w' := by
  obtain ⟨i0, hi, hz0, hz1, hz2⟩ := info_parts info29'
  have hbx := below_box w (.cells #[.int .u64 rl, .int .u64 rh] 25)
  have b0 := (box_cells w (.int .u64 rl) (.int .u64 rh)).1
  have b1 := (box_cells w (.int .u64 rl) (.int .u64 rh)).2
  have HC := hid C
  have HBX := hid hbx
  have HB0 := hid b0
  have HB1 := hid b1
  clear C hbx b0 b1
  go_enter Try.func33, Try.ntmps33
  go_wp2_with fail
  have hsz : (w.alloc (.cells #[.int .u64 rl, .int .u64 rh] 25)).heap.size = w.heap.size + 1 := by simp
  obtain ⟨w0, hw0⟩ : ∃ w0, w.alloc (.cells #[.int .u64 rl, .int .u64 rh] 25) = w0 := ⟨_, rfl⟩
  rw [hw0] at HBX HB0 HB1 hsz ⊢
  clear hw0
  go_loopw [5, 10] (fun v i wr => ∃ k : Nat, k ≤ L.length ∧ i = .int .i64 k ∧ wr.ownsRow w0.heap.size 25 2 v (minusL (L.take k) (rl, rh)).length (flat (minusL (L.take k) (rl, rh))) ∧ Below w0.heap.size w0 wr) (fun _ i _ => L.length - (intOf i).toNat)
  case atStart => exact ⟨0, Nat.zero_le _, rfl, World.ownsRow_nil _ _ _ _, Below.refl _ _⟩
  case round =>
    obtain ⟨k, hk, rfl, hown, hb⟩ := hrel
    have HB := hid hb
    have HOWN := hid hown
    clear hb hown
    by_cases hlt : k < L.length
    · have hki : (k : Int) < (L.length : Int) := by omega
      obtain ⟨ad, rfl, p1, p2⟩ := rcells_pair HC.out k hlt
      have e1 := cell_kept HB.out (cell_kept HBX.out p1)
      have e2 := cell_kept HB.out (cell_kept HBX.out p2)
      have r0 := cell_kept HB.out HB0.out
      have r1 := cell_kept HB.out HB1.out
      have HSN := hid (minus_snoc L k hlt (rl, rh))
      have hml := minus_len (L.take k) (rl, rh)
      rw [List.length_take] at hml
      clear p1 p2
      generalize minusL (L.take k) (rl, rh) = A at *
      generalize L[k] = x at *
      obtain ⟨xl, xh⟩ := x
      simp only at e1 e2 HSN
      rw [add_next] at e2
      obtain ⟨v, hv⟩ : ∃ v, v = u5 := ⟨_, rfl⟩
      subst hv
      obtain ⟨av, cv, ev, _⟩ := owns_shape HOWN.out
      subst ev
      have hE := fun W => rempty_any rl rh W
      have HVB : Hid ((Value.slice av A.length cv).ownBlock ≠ some wr.heap.size) := fun e => by have := (HOWN.out.lt _ e).2; omega
      have hbr := below_box wr (.cells #[.int .u64 xl, .int .u64 xh] 25)
      have q0 := (box_cells wr (.int .u64 xl) (.int .u64 xh)).1
      have q1 := (box_cells wr (.int .u64 xl) (.int .u64 xh)).2
      have s0 := cell_kept hbr r0
      have s1 := cell_kept hbr r1
      have HO1 := hid (own_below HOWN.out hbr)
      have HB1' := hid (HB.out.trans (hbr.mono HB.out.size))
      have hsz1 : wr.heap.size < (wr.alloc (.cells #[.int .u64 xl, .int .u64 xh] 25)).heap.size := by simp
      clear hbr
      go_upto_region 5 with fail
      obtain ⟨wq, hwq⟩ : ∃ wq, wr.alloc (.cells #[.int .u64 xl, .int .u64 xh] 25) = wq := ⟨_, rfl⟩
      rw [hwq] at q0 q1 s0 s1 HO1 HB1' hsz1 ⊢
      clear hwq r0 r1 e1 e2
      go_cut [29] from 14 to 60 (fun t wx => t = .bool (decide (rh ≤ rl) || (decide (xh ≤ rl) || decide (rh ≤ xl))) ∧ Below wq.heap.size wq wx)
      case first =>
        go_wp2_with fail
        refine (hE _).mono ?_
        rintro e w1 ⟨rfl, hw1⟩
        have hb1 : Below wq.heap.size wq w1 := by rw [hw1]; exact below_box _ _
        have t0 := cell_kept hb1 q0
        have t1 := cell_kept hb1 q1
        have m0 := cell_kept hb1 s0
        have m1 := cell_kept hb1 s1
        have HBF := hid hb1
        clear hb1 hw1 q0 q1 s0 s1
        by_cases h1 : rh ≤ rl
        · have d1 : decide (rh ≤ rl) = true := decide_eq_true h1
          rw [d1]
          go_wp2_with fail
          go_meet
          exact ⟨by rw [d1, Bool.true_or], HBF.out⟩
        · have d1 : decide (rh ≤ rl) = false := decide_eq_false h1
          rw [d1]
          by_cases h2 : xh ≤ rl
          · have d2 : decide (xh ≤ rl) = true := decide_eq_true h2
            go_wp2_with fail
            go_meet
            exact ⟨by rw [d1, d2]; rfl, HBF.out⟩
          · have d2 : decide (xh ≤ rl) = false := decide_eq_false h2
            go_wp2_with fail
            go_meet
            exact ⟨by rw [d1, d2]; rfl, HBF.out⟩
      case rest =>
        obtain ⟨rfl, hbc⟩ := hcut
        have t0 := cell_kept hbc q0
        have t1 := cell_kept hbc q1
        have m0 := cell_kept hbc s0
        have m1 := cell_kept hbc s1
        have HO2 := hid (own_below HO1.out hbc)
        have HB2 := hid (HB1'.out.trans (hbc.mono HB1'.out.size))
        have hsz2 : wr.heap.size < wc.heap.size := Nat.lt_of_lt_of_le hsz1 hbc.size
        have hs2 := HB2.out.size
        clear hbc q0 q1 s0 s1 HO1 HB1' HB HOWN
        by_cases hD : rh ≤ rl ∨ xh ≤ rl ∨ rh ≤ xl
        · have hd : (decide (rh ≤ rl) || (decide (xh ≤ rl) || decide (rh ≤ xl))) = true := by simpa using hD
          have HCUT : Hid (minusL (L.take (k + 1)) (rl, rh) = A ++ [(xl, xh)]) := by show _ = _; rw [HSN.out]; unfold cutOf; rw [if_pos hD]
          rw [hd]
          go_wp2_with (at_builtin; refine wpMore rfl _ _ Try.underlying30 rfl (xl, xh) rfl HO2.out rfl (by omega) hs2 ?_; intro v3 w3 ho3 hg3 hb3; have HO3 := hid ho3; have HB3 := hid (HB2.out.trans hb3); clear ho3 hg3 hb3)
          go_roundw
          case rel => exact ⟨k + 1, hlt, by go_num, by rw [HCUT.out]; exact HO3.out, HB3.out⟩
          case measure => simp [intOf]; omega
        · have hd : (decide (rh ≤ rl) || (decide (xh ≤ rl) || decide (rh ≤ xl))) = false := by simpa using hD
          rw [hd]
          have HCUT : Hid (minusL (L.take (k + 1)) (rl, rh) = A ++ ((if xl < rl then [(xl, rl)] else []) ++ (if rh < xh then [(rh, xh)] else []))) := by show _ = _; rw [HSN.out]; unfold cutOf; rw [if_neg hD]
          clear HSN hE hd hD
          by_cases h1 : xl < rl
          · have g1 : decide (xl < rl) = true := decide_eq_true h1
            go_upto_region 9 with (at_builtin; refine wpMore rfl _ _ Try.underlying30 rfl (xl, rl) rfl HO2.out rfl (by omega) hs2 ?_; intro v3 w3 ho3 hg3 hb3; have HO3 := hid ho3; have HG3 := hid hg3; have HB3 := hid hb3; clear ho3 hg3 hb3)
            have y0 : w3.cell? ⟨wr.heap.size, 0, none⟩ = some (.int .u64 xl) := HG3.out.cell t0 (fun e => HVB.out e.symm)
            have y1 : w3.cell? ⟨wr.heap.size, 1, none⟩ = some (.int .u64 xh) := HG3.out.cell t1 (fun e => HVB.out e.symm)
            have z0 : w3.cell? ⟨w.heap.size, 0, none⟩ = some (.int .u64 rl) := (HB3.out.cell (p := ⟨w.heap.size, 0, none⟩) (by show w.heap.size < _; omega)).trans m0
            have z1 : w3.cell? ⟨w.heap.size, 1, none⟩ = some (.int .u64 rh) := (HB3.out.cell (p := ⟨w.heap.size, 1, none⟩) (by show w.heap.size < _; omega)).trans m1
            have HBW := hid (HB2.out.trans HB3.out)
            have hs3 := HBW.out.size
            obtain ⟨a3, c3, e3, _⟩ := owns_shape HO3.out
            subst e3
            have hl3 : (A ++ [(xl, rl)]).length = A.length + 1 := by simp
            clear t0 t1 m0 m1 HG3 HB3
            by_cases h2 : rh < xh
            · have g2 : decide (rh < xh) = true := decide_eq_true h2
              have HF : Hid (minusL (L.take (k + 1)) (rl, rh) = A ++ [(xl, rl)] ++ [(rh, xh)]) := by show _ = _; rw [HCUT.out, if_pos h1, if_pos h2, List.append_assoc]
              go_wp2_with (at_builtin; refine wpMore rfl _ _ Try.underlying30 rfl (rh, xh) rfl HO3.out rfl (by omega) hs3 ?_; intro v4 w4 ho4 hg4 hb4; have HO4 := hid ho4; have HB4 := hid (HBW.out.trans hb4); clear ho4 hg4 hb4)
              go_roundw
              case rel => exact ⟨k + 1, hlt, by go_num, by rw [HF.out]; exact HO4.out, HB4.out⟩
              case measure => simp [intOf]; omega
            · have g2 : decide (rh < xh) = false := decide_eq_false h2
              have HF : Hid (minusL (L.take (k + 1)) (rl, rh) = A ++ [(xl, rl)]) := by show _ = _; rw [HCUT.out, if_pos h1, if_neg h2, List.append_nil]
              go_wp2_with fail
              go_roundw
              case rel => exact ⟨k + 1, hlt, by go_num, by rw [HF.out]; exact HO3.out, HBW.out⟩
              case measure => simp [intOf]; omega
          · have g1 : decide (xl < rl) = false := decide_eq_false h1
            by_cases h2 : rh < xh
            · have g2 : decide (rh < xh) = true := decide_eq_true h2
              have HF : Hid (minusL (L.take (k + 1)) (rl, rh) = A ++ [(rh, xh)]) := by show _ = _; rw [HCUT.out, if_neg h1, if_pos h2, List.nil_append]
              go_wp2_with (at_builtin; refine wpMore rfl _ _ Try.underlying30 rfl (rh, xh) rfl HO2.out rfl (by omega) hs2 ?_; intro v4 w4 ho4 hg4 hb4; have HO4 := hid ho4; have HB4 := hid (HB2.out.trans hb4); clear ho4 hg4 hb4)
              go_roundw
              case rel => exact ⟨k + 1, hlt, by go_num, by rw [HF.out]; exact HO4.out, HB4.out⟩
              case measure => simp [intOf]; omega
            · have g2 : decide (rh < xh) = false := decide_eq_false h2
              have HF : Hid (minusL (L.take (k + 1)) (rl, rh) = A) := by show _ = _; rw [HCUT.out, if_neg h1, if_neg h2, List.nil_append, List.append_nil]
              go_wp2_with fail
              go_roundw
              case rel => exact ⟨k + 1, hlt, by go_num, by rw [HF.out]; exact HO2.out, HB2.out⟩
              case measure => simp [intOf]; omega
    · have e : k = L.length := by omega
      subst e
      have hki : ¬ (L.length : Int) < (L.length : Int) := by omega
      rw [List.take_length] at HOWN
      go_wp2_with fail
      go_ret
      exact ⟨_, rfl, owns_mono HOWN.out (by omega), HBX.out.trans (HB.out.mono HBX.out.size)⟩
end Go.Proofs.Ytjbjaklbckhodab
