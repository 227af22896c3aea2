import Derived.Test.YtjeokomocopjhaaFa2
namespace Go.Proofs.Ytjeokomocopjhaa
open Go.RowKit Go.Maps
set_option maxRecDepth 100000

/-- A number behind an own row. -/
theorem push_run {w : World} {v : Value} {l : List Int} {x : Int} {bx : Nat} (h : OwnN w v l) (hl : l.length ≤ 1125899906842) (hb : w.cell? ⟨bx, 0, none⟩ = some (.int .u64 x)) (ty : TypeId) :
    ∃ v' w', (Builtin.append_ #[54, 54] ty #[v, .slice (some ⟨bx, 0, none⟩) 1 1]).run Try.prog w = .ok v' w' ∧ OwnN w' v' (l ++ [x]) ∧ Fr (fun k => v.ownBlock = some k) w w' ∧ ∀ g, v'.ownBlock = some g → v.ownBlock = some g ∨ w.heap.size ≤ g := by
  obtain ⟨i, h1, h2, h3, h4⟩ := info26
  obtain ⟨v', w', hr, ho, hg, _, ha⟩ := run_append_own_at (P := Try.prog) w 0 54 ty 26 i (.int .u64 0) 1 8 Try.underlying54 h1 h2 h3 h4 rfl (by decide) v l.length (ucells l) h ⟨bx, 0, none⟩ 1 1 (ucells [x]) rfl (fun j u hu => by
    have hj : j < 1 := (List.getElem?_eq_some_iff.1 hu).1
    obtain rfl : j = 0 := by omega
    rw [Addr.add_mid, hb, ← hu]; rfl) (ucells_one _) (by unfold maxLen; omega) (by omega) (Nat.zero_le _)
  refine ⟨v', w', hr, ?_, Fr.of_grown hg (fun k e => .inl e), fun g e => ?_⟩
  · rw [← ucells_app] at ho
    show World.ownsRow _ _ _ _ _ _ _
    rw [show (l ++ [x]).length = l.length + 1 by simp]
    exact ho
  · rcases ha with e' | e'
    · exact .inl (e' ▸ e)
    · rw [e'] at e
      injection e with e
      exact .inr (Nat.le_of_eq e)
theorem bsl26 (w : World) (i : Int) : (Instr.buildSlice 54 1 #[(0, .int .u64 i)]).run Try.prog w = .ok (.slice (some ⟨w.heap.size, 0, none⟩) 1 1) (w.alloc (.cells #[.int .u64 i] 26)) := by kernel_rfl
set_option maxHeartbeats 2000000 in
/-- A stream joins its row. -/
theorem join_any {w : World} {p b : Nat} {V : Nat → Value} {F : Fs} (h : FaAt w p b V F) {x : Ln} (hx : x ∈ F.U) (hc : x.s.cls < 8) (hl : (F.R x.s.cls).length ≤ 1125899906842) :
    Calls Try.prog 20 #[pt p 0, pt x.g 0] w fun e w' => e = .returned (.tuple #[]) ∧ ∃ V', Mv p b V F w V' { F with R := upR F.R x.s.cls (F.R x.s.cls ++ [x.num]) } w' := by
  have hba : Below w.heap.size w (w.alloc (.cells #[.int .u64 x.num] 26)).drew := ((Below.refl _ _).alloc (Nat.le_refl _) _).drew
  have hcell : (w.alloc (.cells #[.int .u64 x.num] 26)).drew.cell? ⟨w.heap.size, 0, none⟩ = some (.int .u64 x.num) := (Row.new w [.int .u64 x.num] 26).cell 0 _ rfl
  have h1 := h.below hba
  obtain ⟨v', w1, hrun, hO, hF1, hn1⟩ := push_run (h1.own _ hc) hl hcell 54
  have hM := h1.put hc hF1 hO hn1
  have HM := hid2 (Mv.ahead hba hM)
  have h0 := h1
  have R0 := h.row
  have X0 := h.rows x hx
  have c0 := R0.cell _ _ (fcells_get F.q b V hc)
  have x0 := X0.cell 0 _ rfl
  have x1 := X0.cell 1 _ rfl
  have RA := h.row.alloc (.cells #[.int .u64 x.num] 26)
  have XA := (h.rows x hx).alloc (.cells #[.int .u64 x.num] 26)
  have ca := RA.cell _ _ (fcells_get F.q b V hc)
  have xa0 := XA.cell 0 _ rfl
  have xa1 := XA.cell 1 _ rfl
  have RB := hF1.row h1.row (h1.op hc)
  have XB := hF1.row (h1.rows x hx) (h1.og hc hx)
  have cb := RB.cell _ _ (fcells_get F.q b V hc)
  have fb := RB.frozen (2 + x.s.cls)
  have xb0 := XB.cell 0 _ rfl
  have xb1 := XB.cell 1 _ rfl
  have k1 : (0 : Int) ≤ (x.s.cls : Int) := by omega
  have k2 : (x.s.cls : Int) < 8 := by omega
  obtain ⟨a, cap, hv, -⟩ := own_slice (h.own _ hc)
  obtain ⟨a', cap', hv', -⟩ := own_slice hO
  have hbs := bsl26
  rw [hv] at c0 ca cb hrun
  subst hv'
  have HRUN := hid2 hrun
  clear h1 hba hcell hrun hO hF1 hn1 hM h0 R0 X0 RA XA RB XB hv h hx hl
  generalize (F.R x.s.cls ++ [x.num]).length = n' at *
  generalize (F.R x.s.cls).length = n at *
  generalize x.s.cls = c at *
  generalize x.num = y at *
  generalize x.g = g at *
  go_enter Try.func20, Try.ntmps20
  go_wp2_with fail
  go_region_law (refine step_append_by (by rfl) _ _ _ (by rfl) (by rfl) (by rfl) HRUN.out ?_)
  all_goals go_wp2_with fail
  all_goals refine bodyPost_end (results_none Try.results20 _ _ _) rfl ?_
  all_goals exact ⟨rfl, _, HM.out⟩
end Go.Proofs.Ytjeokomocopjhaa
