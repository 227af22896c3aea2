import Derived.Test.YtkhogbnoincbeabSc5
import Derived.Test.YtkhogbnoincbeabNewSc
namespace Go.Proofs.Ytkhogbnoincbeab
open Go.RowKit Go.Maps Go.Sort
set_option maxRecDepth 100000

/-- A Reader: its cells, its scan (p), the row of its bytes (v); B: from where on its memory lies. -/
structure Rdr (B : Nat) (w : World) (q p : Nat) (v : Value) (all : List (BitVec 8)) (left : Nat) (at_ fault : Int) : Prop where
  row : Row w q [.pointer (some ⟨p, 0, none⟩), v, .int .i64 (left : Int), .int .u64 at_, .int .i64 fault] 63
  sc : Sc w p (.slice none 0 0) 0 0 0 0 0 (.slice none 0 0)
  own : OwnBy w B v all
  le : left ≤ all.length
  bq : B ≤ q
  bp : B ≤ p
theorem Rdr.kept {B : Nat} {w w' : World} {q p : Nat} {v : Value} {all : List (BitVec 8)} {left : Nat} {at_ fault : Int} (H : Rdr B w q p v all left at_ fault) (hb : Below w.heap.size w w') : Rdr B w' q p v all left at_ fault :=
  ⟨H.row.kept hb H.row.lt, H.sc.kept hb, own_below H.own hb, H.le, H.bq, H.bp⟩
theorem newReader_any (w : World) : Calls Try.prog 5 #[] w fun e w' => ∃ q p, e = .returned (.pointer (some ⟨q, 0, none⟩)) ∧ Rdr w.heap.size w' q p (.slice none 0 0) [] 0 0 0 ∧ Below w.heap.size w w' := by
  have HN := hid (newScan_any w)
  go_enter Try.func5, Try.ntmps5
  go_wp2_with (go_at_call 24; refine HN.out.mono ?_; rintro e w1 ⟨rfl, hs1, hb1⟩; have HS1 := hid hs1; have HB1 := hid hb1; clear hs1 hb1)
  go_ret
  refine ⟨w1.heap.size, w.heap.size, rfl, ⟨Row.new' _ _ _ _ _ rfl rfl, HS1.out.kept (below_new _ _), ⟨rfl, .inl ⟨rfl, rfl⟩⟩, Nat.le_refl _, HB1.out.size, Nat.le_refl _⟩, below_grow HB1.out _⟩
theorem rat_any {B : Nat} {w : World} {q p : Nat} {v : Value} {all : List (BitVec 8)} {left : Nat} {at_ fault : Int} (H : Rdr B w q p v all left at_ fault) : Calls Try.prog 13 #[.pointer (some ⟨q, 0, none⟩)] w fun e w' => e = .returned (.int .u64 at_) ∧ w' = w := by
  have c3 := H.row.cell 3 _ rfl
  clear H
  go_enter Try.func13, Try.ntmps13
  go_wp2
  go_ret
  exact ⟨rfl, rfl⟩
theorem rleft_any {B : Nat} {w : World} {q p : Nat} {v : Value} {all : List (BitVec 8)} {left : Nat} {at_ fault : Int} (H : Rdr B w q p v all left at_ fault) : Calls Try.prog 14 #[.pointer (some ⟨q, 0, none⟩)] w fun e w' => e = .returned (.int .i64 (left : Int)) ∧ w' = w := by
  have c2 := H.row.cell 2 _ rfl
  clear H
  go_enter Try.func14, Try.ntmps14
  go_wp2
  go_ret
  exact ⟨rfl, rfl⟩
end Go.Proofs.Ytkhogbnoincbeab
