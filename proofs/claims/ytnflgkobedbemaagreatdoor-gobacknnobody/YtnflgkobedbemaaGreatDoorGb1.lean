import Derived.Test.YtnflgkobedbemaaGreatDoorGb0
import Derived.Laws.CopyOwn
namespace Go.Proofs.YtnflgkobedbemaaGreatDoor
open Go.RowKit Go.Maps Go.Sort
set_option maxRecDepth 100000

/-- The numbers of a configuration that Fit looks at, each with its bounds. -/
def numL (pa ms sb rb ga re ba sc n : Int) : List Value := [.int .i64 pa, .int .i64 1, .int .i64 8, .int .i64 ms, .int .i64 1, .int .i64 1024, .int .i64 sb, .int .i64 1, .int .i64 65536, .int .i64 rb, .int .i64 ms, .int .i64 65536, .int .i64 ga, .int .i64 1, .int .i64 64, .int .i64 re, .int .i64 1, .int .i64 16, .int .i64 ba, .int .i64 1, .int .i64 1073741824, .int .i64 sc, .int .i64 0, .int .i64 5, .int .i64 n, .int .i64 0, .int .i64 pa]
theorem ix0 (pa ms sb rb ga re ba sc n : Int) (W : World) : (Instr.index 157 (.agg (numL pa ms sb rb ga re ba sc n).toArray) (.int .i64 0)).run Tryz.prog W = .ok (.agg #[.int .i64 pa, .int .i64 1, .int .i64 8]) W := by kernel_rfl
theorem ix1 (pa ms sb rb ga re ba sc n : Int) (W : World) : (Instr.index 157 (.agg (numL pa ms sb rb ga re ba sc n).toArray) (.int .i64 1)).run Tryz.prog W = .ok (.agg #[.int .i64 ms, .int .i64 1, .int .i64 1024]) W := by kernel_rfl
theorem ix2 (pa ms sb rb ga re ba sc n : Int) (W : World) : (Instr.index 157 (.agg (numL pa ms sb rb ga re ba sc n).toArray) (.int .i64 2)).run Tryz.prog W = .ok (.agg #[.int .i64 sb, .int .i64 1, .int .i64 65536]) W := by kernel_rfl
theorem ix3 (pa ms sb rb ga re ba sc n : Int) (W : World) : (Instr.index 157 (.agg (numL pa ms sb rb ga re ba sc n).toArray) (.int .i64 3)).run Tryz.prog W = .ok (.agg #[.int .i64 rb, .int .i64 ms, .int .i64 65536]) W := by kernel_rfl
theorem ix4 (pa ms sb rb ga re ba sc n : Int) (W : World) : (Instr.index 157 (.agg (numL pa ms sb rb ga re ba sc n).toArray) (.int .i64 4)).run Tryz.prog W = .ok (.agg #[.int .i64 ga, .int .i64 1, .int .i64 64]) W := by kernel_rfl
theorem ix5 (pa ms sb rb ga re ba sc n : Int) (W : World) : (Instr.index 157 (.agg (numL pa ms sb rb ga re ba sc n).toArray) (.int .i64 5)).run Tryz.prog W = .ok (.agg #[.int .i64 re, .int .i64 1, .int .i64 16]) W := by kernel_rfl
theorem ix6 (pa ms sb rb ga re ba sc n : Int) (W : World) : (Instr.index 157 (.agg (numL pa ms sb rb ga re ba sc n).toArray) (.int .i64 6)).run Tryz.prog W = .ok (.agg #[.int .i64 ba, .int .i64 1, .int .i64 1073741824]) W := by kernel_rfl
theorem ix7 (pa ms sb rb ga re ba sc n : Int) (W : World) : (Instr.index 157 (.agg (numL pa ms sb rb ga re ba sc n).toArray) (.int .i64 7)).run Tryz.prog W = .ok (.agg #[.int .i64 sc, .int .i64 0, .int .i64 5]) W := by kernel_rfl
theorem ix8 (pa ms sb rb ga re ba sc n : Int) (W : World) : (Instr.index 157 (.agg (numL pa ms sb rb ga re ba sc n).toArray) (.int .i64 8)).run Tryz.prog W = .ok (.agg #[.int .i64 n, .int .i64 0, .int .i64 pa]) W := by kernel_rfl
theorem numL_one (pa ms sb rb ga re ba sc n : Int) : ∀ v ∈ numL pa ms sb rb ga re ba sc n, v.oneCell' = true := by
  intro v hv; simp only [numL, List.mem_cons, List.not_mem_nil, or_false] at hv; rcases hv with h | h | h | h | h | h | h | h | h | h | h | h | h | h | h | h | h | h | h | h | h | h | h | h | h | h | h <;> (subst h; rfl)

theorem wsnext {ws : List Int} {i : Nat} {x : Int} (h : ∀ k (h : k < ws.length), k < i → 1 ≤ ws[k] ∧ ws[k] ≤ 255) (hil : i < ws.length) (hx : ws[i] = x) (a : 1 ≤ x) (b : x ≤ 255) : ∀ k (h : k < ws.length), k < i + 1 → 1 ≤ ws[k] ∧ ws[k] ≤ 255 := by
  intro k hk hlt
  by_cases e : k = i
  · subst e; rw [hx]; exact ⟨a, b⟩
  · exact h k hk (by omega)
theorem belA {w w' : World} {o : Obj} (h : Below w.heap.size w w') : Below w.heap.size w (w'.alloc o) := h.alloc h.size _
set_option maxHeartbeats 4000000 in
theorem fit_any {w : World} (c : Cf) {n : Nat} (hn : c.ws.length = n) (hI : IntsAt w c.wa c.ws) (hl : n ≤ 140737488355328) :
    Calls Tryz.prog 71 #[c.val n] w fun e w' => FitAns c e ∧ Below w.heap.size w w' := by
  have HI := hid hI
  have HN := hid hn
  have hli : (n : Int) ≤ 140737488355328 := by omega
  obtain ⟨HF, hHF⟩ : ∃ F : Ending → Prop, F = FitAns c := ⟨_, rfl⟩
  have HY : Hid (c.Fit → HF (.returned (.int .i64 0))) := fun h => by rw [hHF]; exact .inl ⟨rfl, h⟩
  have HO : Hid (¬ c.Fit → HF (.returned (.int .i64 130))) := fun h => by rw [hHF]; exact .inr ⟨rfl, h⟩
  rw [← hHF]
  clear hHF hI hn
  obtain ⟨pa, ms, sb, rb, ga, re, ba, sc, ws, wa, wc, k0, k1, b0, b1, pa0, pl0, pc0, pa1, pl1, pc1⟩ := c
  simp only [Cf.val] at *
  go_enter Tryz.func71, Tryz.ntmps71
  go_upto_region 1 with fail
  refine wp_world fun wb HW => ?_
  have HR : Hid (Row wb w.heap.size [.int .i64 pa, .int .i64 ms, .int .i64 sb, .int .i64 rb, .int .i64 ga, .int .i64 re, .int .i64 ba, .int .i64 sc, .slice wa n wc, .int .u64 k0, .int .u64 k1, .int .u64 b0, .int .u64 b1, .slice pa0 pl0 pc0, .slice pa1 pl1 pc1] 28) := by show Row _ _ _ _; rw [HW.out]; exact Row.new _ _ _
  have HB : Hid (Below w.heap.size w wb) := by show Below _ _ _; rw [HW.out]; exact (Below.refl _ _).alloc (Nat.le_refl _) _
  generalize hg : w.heap.size = g at *
  have HG := hid hg
  clear HW hg
  have c0 := HR.out.cell 0 _ rfl
  have c1 := HR.out.cell 1 _ rfl
  have c2 := HR.out.cell 2 _ rfl
  have c3 := HR.out.cell 3 _ rfl
  have c4 := HR.out.cell 4 _ rfl
  have c5 := HR.out.cell 5 _ rfl
  have c6 := HR.out.cell 6 _ rfl
  have c7 := HR.out.cell 7 _ rfl
  have c8 := HR.out.cell 8 _ rfl
  have HI157 : Hid ((Tryz.prog.info? 157).map (·.size) = some 27) := by show _ = _; kernel_rfl
  go_upto_region 2 with (show wpList _ _ _ (Oper.mk none (.store 157 (.tmp 3) (.tmp 40)) _ _ _ _ :: _) _ _; refine (Row.new' wb _ _ 157 _ rfl rfl).wpStore' 157 (.tmp 3) (.tmp 40) (numL pa ms sb rb ga re ba sc n) rfl rfl rfl rfl rfl (numL_one pa ms sb rb ga re ba sc n) HI157.out ?_; intro wd HWd)
  have HZ : Hid (Row wd wb.heap.size (numL pa ms sb rb ga re ba sc n) 157) := by show Row _ _ _ _; rw [HWd.out]; exact (Row.new' wb _ _ 157 _ rfl rfl).row _
  have HBd : Hid (Below g w wd) := by show Below _ _ _; rw [HWd.out]; exact Go.below_setRow (HB.out.alloc (by rw [← HG.out]; exact HB.out.size) _) (by rw [← HG.out]; exact HB.out.size) _
  have HRd : Hid (Row wd g [.int .i64 pa, .int .i64 ms, .int .i64 sb, .int .i64 rb, .int .i64 ga, .int .i64 re, .int .i64 ba, .int .i64 sc, .slice wa n wc, .int .u64 k0, .int .u64 k1, .int .u64 b0, .int .u64 b1, .slice pa0 pl0 pc0, .slice pa1 pl1 pc1] 28) := by
    have hb : Below wb.heap.size wb wd := by rw [HWd.out]; exact Go.below_setRow ((Below.refl _ _).alloc (Nat.le_refl _) _) (Nat.le_refl _) _
    exact HR.out.kept hb HR.out.lt
  clear HWd HR HB c0 c1 c2 c3 c4 c5 c6 c7 c8
  generalize wb.heap.size = z at *
  go_wp2_with (show wpList _ _ _ (Oper.mk (some 41) (.load 157 (.tmp 3)) _ _ _ _ :: _) _ _; refine HZ.out.wpLoad 157 (.tmp 3) rfl rfl rfl _ Tryz.underlying157 rfl HI157.out ?_)
  have ix0 := ix0 pa ms sb rb ga re ba sc n
  have ix1 := ix1 pa ms sb rb ga re ba sc n
  have ix2 := ix2 pa ms sb rb ga re ba sc n
  have ix3 := ix3 pa ms sb rb ga re ba sc n
  have ix4 := ix4 pa ms sb rb ga re ba sc n
  have ix5 := ix5 pa ms sb rb ga re ba sc n
  have ix6 := ix6 pa ms sb rb ga re ba sc n
  have ix7 := ix7 pa ms sb rb ga re ba sc n
  have ix8 := ix8 pa ms sb rb ga re ba sc n
  have HBw : Hid (Below w.heap.size w wd) := by show Below _ _ _; rw [HG.out]; exact HBd.out
  refine wp_loop_rounds 10 ?_
  rw [rounds_succ]
  by_cases h0a : pa < 1
  · go_wp2
    go_ret
    exact ⟨HO.out fun h => by unfold Cf.Fit at h; have h2 := h.1; have h3 := HN.out; simp only at h2; omega, by (repeat (refine belA ?_)); exact HBw.out⟩
  by_cases h0b : 8 < pa
  · go_wp2
    go_ret
    exact ⟨HO.out fun h => by unfold Cf.Fit at h; have h2 := h.1; have h3 := HN.out; simp only at h2; omega, by (repeat (refine belA ?_)); exact HBw.out⟩
  go_wp2
  rw [rounds_succ]
  by_cases h1a : ms < 1
  · go_wp2
    go_ret
    exact ⟨HO.out fun h => by unfold Cf.Fit at h; have h2 := h.1; have h3 := HN.out; simp only at h2; omega, by (repeat (refine belA ?_)); exact HBw.out⟩
  by_cases h1b : 1024 < ms
  · go_wp2
    go_ret
    exact ⟨HO.out fun h => by unfold Cf.Fit at h; have h2 := h.1; have h3 := HN.out; simp only at h2; omega, by (repeat (refine belA ?_)); exact HBw.out⟩
  go_wp2
  rw [rounds_succ]
  by_cases h2a : sb < 1
  · go_wp2
    go_ret
    exact ⟨HO.out fun h => by unfold Cf.Fit at h; have h2 := h.1; have h3 := HN.out; simp only at h2; omega, by (repeat (refine belA ?_)); exact HBw.out⟩
  by_cases h2b : 65536 < sb
  · go_wp2
    go_ret
    exact ⟨HO.out fun h => by unfold Cf.Fit at h; have h2 := h.1; have h3 := HN.out; simp only at h2; omega, by (repeat (refine belA ?_)); exact HBw.out⟩
  go_wp2
  rw [rounds_succ]
  by_cases h3a : rb < ms
  · go_wp2
    go_ret
    exact ⟨HO.out fun h => by unfold Cf.Fit at h; have h2 := h.1; have h3 := HN.out; simp only at h2; omega, by (repeat (refine belA ?_)); exact HBw.out⟩
  by_cases h3b : 65536 < rb
  · go_wp2
    go_ret
    exact ⟨HO.out fun h => by unfold Cf.Fit at h; have h2 := h.1; have h3 := HN.out; simp only at h2; omega, by (repeat (refine belA ?_)); exact HBw.out⟩
  go_wp2
  rw [rounds_succ]
  by_cases h4a : ga < 1
  · go_wp2
    go_ret
    exact ⟨HO.out fun h => by unfold Cf.Fit at h; have h2 := h.1; have h3 := HN.out; simp only at h2; omega, by (repeat (refine belA ?_)); exact HBw.out⟩
  by_cases h4b : 64 < ga
  · go_wp2
    go_ret
    exact ⟨HO.out fun h => by unfold Cf.Fit at h; have h2 := h.1; have h3 := HN.out; simp only at h2; omega, by (repeat (refine belA ?_)); exact HBw.out⟩
  go_wp2
  rw [rounds_succ]
  by_cases h5a : re < 1
  · go_wp2
    go_ret
    exact ⟨HO.out fun h => by unfold Cf.Fit at h; have h2 := h.1; have h3 := HN.out; simp only at h2; omega, by (repeat (refine belA ?_)); exact HBw.out⟩
  by_cases h5b : 16 < re
  · go_wp2
    go_ret
    exact ⟨HO.out fun h => by unfold Cf.Fit at h; have h2 := h.1; have h3 := HN.out; simp only at h2; omega, by (repeat (refine belA ?_)); exact HBw.out⟩
  go_wp2
  rw [rounds_succ]
  by_cases h6a : ba < 1
  · go_wp2
    go_ret
    exact ⟨HO.out fun h => by unfold Cf.Fit at h; have h2 := h.1; have h3 := HN.out; simp only at h2; omega, by (repeat (refine belA ?_)); exact HBw.out⟩
  by_cases h6b : 1073741824 < ba
  · go_wp2
    go_ret
    exact ⟨HO.out fun h => by unfold Cf.Fit at h; have h2 := h.1; have h3 := HN.out; simp only at h2; omega, by (repeat (refine belA ?_)); exact HBw.out⟩
  go_wp2
  rw [rounds_succ]
  by_cases h7a : sc < 0
  · go_wp2
    go_ret
    exact ⟨HO.out fun h => by unfold Cf.Fit at h; have h2 := h.1; have h3 := HN.out; simp only at h2; omega, by (repeat (refine belA ?_)); exact HBw.out⟩
  by_cases h7b : 5 < sc
  · go_wp2
    go_ret
    exact ⟨HO.out fun h => by unfold Cf.Fit at h; have h2 := h.1; have h3 := HN.out; simp only at h2; omega, by (repeat (refine belA ?_)); exact HBw.out⟩
  go_wp2
  rw [rounds_succ]
  have h8a : ¬ (n : Int) < 0 := by omega
  by_cases h8b : pa < (n : Int)
  · go_wp2
    go_ret
    exact ⟨HO.out fun h => by unfold Cf.Fit at h; have h2 := h.1; have h3 := HN.out; simp only at h2; omega, by (repeat (refine belA ?_)); exact HBw.out⟩
  go_wp2
  rw [rounds_succ]
  go_upto_region 8 with fail
  refine wp_world fun we HWe => ?_
  have HBe : Hid (Below w.heap.size w we) := by show Below _ _ _; rw [HWe.out]; (repeat (refine belA ?_)); exact HBw.out
  have HBde : Hid (Below wd.heap.size wd we) := by show Below _ _ _; rw [HWe.out]; (repeat (refine belA ?_)); exact Below.refl _ _
  have HRe := hid (HRd.out.kept HBde.out HRd.out.lt)
  have HIe := hid (HI.out.kept HBe.out)
  have HNUM : Hid (¬ pa < 1 ∧ ¬ 8 < pa ∧ ¬ ms < 1 ∧ ¬ 1024 < ms ∧ ¬ sb < 1 ∧ ¬ 65536 < sb ∧ ¬ rb < ms ∧ ¬ 65536 < rb ∧ ¬ ga < 1 ∧ ¬ 64 < ga ∧ ¬ re < 1 ∧ ¬ 16 < re ∧ ¬ ba < 1 ∧ ¬ 1073741824 < ba ∧ ¬ sc < 0 ∧ ¬ 5 < sc ∧ ¬ pa < (n : Int)) := by show _ ∧ _; refine ⟨?_, ?_, ?_, ?_, ?_, ?_, ?_, ?_, ?_, ?_, ?_, ?_, ?_, ?_, ?_, ?_, ?_⟩ <;> omega
  clear HWe HBde HBw HBd HRd HZ HI ix0 ix1 ix2 ix3 ix4 ix5 ix6 ix7 ix8 h0a h0b h1a h1b h2a h2b h3a h3b h4a h4b h5a h5b h6a h6b h7a h7b h8a h8b
  have e8 := HRe.out.cell 8 _ rfl
  have e11 := HRe.out.cell 11 _ rfl
  have e12 := HRe.out.cell 12 _ rfl
  go_wp2
  go_loopw [7, 61] (fun _ s61 wr => ∃ i : Nat, i ≤ n ∧ s61 = .int .i64 i ∧ Hid (∀ k (h : k < ws.length), k < i → 1 ≤ ws[k] ∧ ws[k] ≤ 255) ∧ wr = we) (fun _ s _ => n - (intOf s).toNat)
  case atStart => exact ⟨0, Nat.zero_le _, rfl, hid (fun k h hk => absurd hk (by omega)), rfl⟩
  case round =>
    obtain ⟨i, hi, rfl, HW8, rfl⟩ := hrel
    by_cases hlt : i < n
    · have hil : i < ws.length := by have := HN.out; omega
      obtain ⟨gg, oo, rfl, q0⟩ := HIe.out i hil
      have hii : (i : Int) < n := by omega
      have HIL := hid hil
      obtain ⟨x, hx, q⟩ : ∃ x, ws[i] = x ∧ World.cell? _ ⟨gg, oo + i, none⟩ = some (.int .i64 x) := ⟨_, rfl, q0⟩
      have HX := hid hx
      clear q0 hx hil
      by_cases hxa : x < 1
      · go_wp2
        go_ret
        exact ⟨HO.out fun h => by unfold Cf.Fit at h; have h2 := h.2 ws[i] (List.getElem_mem HIL.out); rw [HX.out] at h2; omega, HBe.out⟩
      by_cases hxb : 255 < x
      · go_wp2
        go_ret
        exact ⟨HO.out fun h => by unfold Cf.Fit at h; have h2 := h.2 ws[i] (List.getElem_mem HIL.out); rw [HX.out] at h2; omega, HBe.out⟩
      go_wp2
      exact ⟨⟨i + 1, by omega, by push_cast; rfl, hid (wsnext HW8.out HIL.out HX.out (by omega) (by omega)), trivial⟩, by simp [intOf]; omega⟩
    · have hin : i = n := by omega
      subst hin
      by_cases hm : 4611686018427387904 < max (b0 : Int) (b1 : Int)
      · go_wp2
        go_ret
        exact ⟨HO.out fun h => by unfold Cf.Fit at h; have h2 := h.1; simp only at h2; omega, HBe.out⟩
      · go_wp2
        go_ret
        refine ⟨HY.out ?_, HBe.out⟩
        have h1 := HNUM.out
        have h2 := HN.out
        refine ⟨?_, fun y hy => ?_⟩
        · simp only
          omega
        · obtain ⟨k, hk, rfl⟩ := List.getElem_of_mem hy
          exact HW8.out k hk (by have := HN.out; simp only at hk this ⊢; omega)
end Go.Proofs.YtnflgkobedbemaaGreatDoor
