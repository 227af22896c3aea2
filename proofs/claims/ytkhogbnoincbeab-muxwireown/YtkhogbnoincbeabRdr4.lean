import Derived.Test.YtkhogbnoincbeabRdr3
namespace Go.Proofs.Ytkhogbnoincbeab
open Go.RowKit Go.Maps Go.Sort
set_option maxRecDepth 100000

theorem below_drew' {B : Nat} {w w' : World} (h : Below B w w') : Below B w w'.drew := ⟨h.os, h.tape, h.output, h.size, h.block⟩
/-- A Reader that met a fault: its bytes are gone, its numbers stand. -/
structure RdrF (B : Nat) (w : World) (q : Nat) (c0 : Value) (left : Nat) (at_ fault : Int) : Prop where
  row : Row w q [c0, .slice none 0 0, .int .i64 (left : Int), .int .u64 at_, .int .i64 fault] 63
  bq : B ≤ q
  bad : ¬ fault = 0
theorem RdrF.kept {B : Nat} {w w' : World} {q : Nat} {c0 : Value} {left : Nat} {at_ fault : Int} (H : RdrF B w q c0 left at_ fault) (hb : Below w.heap.size w w') : RdrF B w' q c0 left at_ fault :=
  ⟨H.row.kept hb H.row.lt, H.bq, H.bad⟩
theorem ratF_any {B : Nat} {w : World} {q : Nat} {c0 : Value} {left : Nat} {at_ fault : Int} (H : RdrF B w q c0 left at_ fault) : Calls Try.prog 13 #[.pointer (some ⟨q, 0, none⟩)] w fun e w' => e = .returned (.int .u64 at_) ∧ w' = w := by
  have c3 := H.row.cell 3 _ rfl
  clear H
  go_enter Try.func13, Try.ntmps13
  go_wp2
  go_ret
  exact ⟨rfl, rfl⟩
theorem rleftF_any {B : Nat} {w : World} {q : Nat} {c0 : Value} {left : Nat} {at_ fault : Int} (H : RdrF B w q c0 left at_ fault) : Calls Try.prog 14 #[.pointer (some ⟨q, 0, none⟩)] w fun e w' => e = .returned (.int .i64 (left : Int)) ∧ w' = w := by
  have c2 := H.row.cell 2 _ rfl
  clear H
  go_enter Try.func14, Try.ntmps14
  go_wp2
  go_ret
  exact ⟨rfl, rfl⟩
/-- What is written behind a fault is not kept. -/
theorem writeF_any {B : Nat} {w : World} {q : Nat} {c0 : Value} {left : Nat} {at_ fault : Int} (H : RdrF B w q c0 left at_ fault) (x : Value) : Calls Try.prog 7 #[.pointer (some ⟨q, 0, none⟩), x] w fun e w' => e = .returned (.tuple #[]) ∧ w' = w := by
  have c4 := H.row.cell 4 _ rfl
  have hb := H.bad
  clear H
  go_enter Try.func7, Try.ntmps7
  go_wp2
  refine bodyPost_end (results_none Try.results7 _ _ _) rfl ?_
  exact ⟨rfl, rfl⟩
theorem next_door {tmps : Array Value} {w4 : World} {b0 : Nat} {k s n c h : Int} {d x y : Value} {R : Ending → World → Prop} (h4 : tmps.getD 2 undef = .pointer (some ⟨b0, 0, none⟩)) (h5 : tmps.getD 3 undef = x) (h6 : tmps.getD 4 undef = y) (R4 : Row w4 b0 [.int .i64 k, .int .u64 s, .int .u64 n, .int .i64 c, .int .i64 h, d] 41)
    (hR : R (.returned (.tuple #[.agg #[.int .i64 k, .int .u64 s, .int .u64 n, .int .i64 c, .int .i64 h, d], x, y])) w4) :
    bodyPost Try.prog Try.f10 R Exit.ret { tmps := tmps, defers := [] } w4 := by
  have z0 := R4.cell 0 _ rfl
  have z1 := R4.cell 1 _ rfl
  have z2 := R4.cell 2 _ rfl
  have z3 := R4.cell 3 _ rfl
  have z4 := R4.cell 4 _ rfl
  have z5 := R4.cell 5 _ rfl
  rw [Array.getD_eq_getD_getElem?] at h4 h5 h6
  refine bodyPost_ret (v := .tuple #[.agg #[.int .i64 k, .int .u64 s, .int .u64 n, .int .i64 c, .int .i64 h, d], x, y]) ?_ rfl hR
  simp [results, Try.results10, go_sem, z0, z1, z2, z3, z4, z5, h4, h5, h6]
/-- Behind a fault the fault comes again. -/
theorem nextF_any {B : Nat} {w : World} {q : Nat} {c0 : Value} {left : Nat} {at_ fault : Int} (H : RdrF B w q c0 left at_ fault) : Calls Try.prog 10 #[.pointer (some ⟨q, 0, none⟩)] w fun e w' => e = .returned (.tuple #[zfr, .bool false, .int .i64 fault]) ∧ Below w.heap.size w w' := by
  have c4 := H.row.cell 4 _ rfl
  have hb := H.bad
  have hlt := H.row.lt
  have hne : ¬ q = w.heap.size := by omega
  clear H
  go_enter Try.func10, Try.ntmps10
  go_wp2
  go_region
  all_goals
    go_wp2
    exact next_door (b0 := w.heap.size) rfl rfl rfl (Row.new' _ _ _ _ _ rfl rfl).drew1 ⟨rfl, below_drew' (below_new _ _)⟩
end Go.Proofs.Ytkhogbnoincbeab
