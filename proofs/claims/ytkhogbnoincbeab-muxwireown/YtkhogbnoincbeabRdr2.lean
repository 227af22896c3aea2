import Derived.Test.YtkhogbnoincbeabRdr1
import Derived.BigQuiet
namespace Go.Proofs.Ytkhogbnoincbeab
open Go.RowKit Go.Maps Go.Sort
set_option maxRecDepth 100000

/-- A Reader after its own cells were set. -/
theorem Rdr.cells {B : Nat} {w w' : World} {q p : Nat} {v : Value} {all : List (BitVec 8)} {left : Nat} {at_ fault : Int} (H : Rdr B w q p v all left at_ fault) (F : Fr (fun x => x = q) w w') : Sc w' p (.slice none 0 0) 0 0 0 0 0 (.slice none 0 0) ∧ OwnBy w' B v all :=
  ⟨H.sc.fr F (fun j hj e => sc_type H.sc hj (by rw [e]; exact H.row) (by decide) (by decide)), F.own H.own (fun x hx e => by have := own_type H.own hx (by rw [e]; exact H.row); cases this)⟩
/-- A frame's bytes are given, and nothing is moved. -/
theorem give_no {B : Nat} {w : World} {q p : Nat} {v : Value} {all : List (BitVec 8)} {left : Nat} {at_ : Int} (H : Rdr B w q p v all left at_ 0) {n : Nat} (hn : n ≤ left) (hm : all.length - (left - n) < left - n) (ha : 0 ≤ at_ ∧ at_ + n < 18446744073709551616) (hl : all.length ≤ 140737488355328) :
    Calls Try.prog 26 #[.pointer (some ⟨q, 0, none⟩), .int .i64 (n : Int)] w fun e w' => e = .returned (.tuple #[]) ∧ Rdr B w' q p v all (left - n) (at_ + n) 0 ∧ Fr (fun x => x = q) w w' := by
  have HH := hid H
  have HM := hid hm
  have HNL := hid hn
  have HLF := hid H.le
  have HL := hid hl
  obtain ⟨a0, k0, rfl, -⟩ := ownBy_shape H.own
  have c1 := H.row.cell 1 _ rfl
  have c2 := H.row.cell 2 _ rfl
  have c3 := H.row.cell 3 _ rfl
  have f2 := H.row.frozen 2
  have f3 := H.row.frozen 3
  have r1 : IntKind.u64.wrap (n : Int) = n := by have := H.le; rw [IntKind.wrap_u64]; omega
  have r2 : IntKind.u64.wrap (at_ + (n : Int)) = at_ + n := by rw [IntKind.wrap_u64]; omega
  have r3 : wrap64 ((left : Int) - (n : Int)) = ((left - n : Nat) : Int) := by have := H.le; unfold wrap64; omega
  have r4 : wrap64 ((all.length : Int) - ((left - n : Nat) : Int)) = ((all.length - (left - n) : Nat) : Int) := by have := H.le; unfold wrap64; omega
  have r5 : ¬ ((all.length - (left - n) : Nat) : Int) ≥ ((left - n : Nat) : Int) := by omega
  have r6 : ¬ ((left - n : Nat) : Int) ≤ ((all.length - (left - n) : Nat) : Int) := by omega
  obtain ⟨m, hmm⟩ : ∃ m, m = left - n := ⟨_, rfl⟩
  obtain ⟨g, hgg⟩ : ∃ g, g = all.length - (left - n) := ⟨_, rfl⟩
  rw [← hgg, ← hmm] at r5 r6
  rw [← hgg, ← hmm] at r4
  rw [← hmm] at r3
  rw [← hmm]
  have HMM := hid hmm
  clear H hn hm ha hl hmm hgg
  go_enter Try.func26, Try.ntmps26
  go_wp2
  go_quiet (fail)
  go_wp2
  refine bodyPost_end (results_none Try.results26 _ _ _) rfl ?_
  have F1 : Fr (fun x => x = q) w (((w.setCell ⟨q, 3, none⟩ (.int .u64 (at_ + n))).setCell ⟨q, 2, none⟩ (.int .i64 (m : Int))).drewN nq) := ((fr_set w q 3 _).trans (fr_set _ q 2 _) (fun x e => .inl e)).drewN nq
  exact ⟨rfl, ⟨((HH.out.row.set 3 _).set 2 _).drew nq, (HH.out.cells F1).1, (HH.out.cells F1).2, by have := HMM.out; have := HLF.out; omega, HH.out.bq, HH.out.bp⟩, F1⟩
end Go.Proofs.Ytkhogbnoincbeab
