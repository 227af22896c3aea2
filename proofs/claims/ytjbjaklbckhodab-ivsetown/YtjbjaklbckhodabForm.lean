import Derived.Test.YtjbjaklbckhodabAwake
import Derived.Deep.CutRange
import Derived.Lib.QuietBelow
namespace Go.Proofs.Ytjbjaklbckhodab
open Go.RowKit Go.Sort
set_option maxRecDepth 100000

/-- An Op of the script: its kind, the set that it names, its range, its number. -/
structure OpV where
  kind : Int
  other : Bool
  r : Rg
  x : Int
def OpV.cells (o : OpV) : List Value := [.int .i64 o.kind, .bool o.other, .int .u64 o.r.1, .int .u64 o.r.2, .int .u64 o.x]
/-- The script's cells. -/
structure OpsAt (w : World) (a : Option Addr) (S : List OpV) : Prop where
  row : ∀ i (h : i < S.length), ∃ b off, a = some ⟨b, off, none⟩ ∧ w.cell? ⟨b, off + i * 5, none⟩ = some (.int .i64 S[i].kind) ∧ w.cell? ⟨b, off + i * 5 + 1, none⟩ = some (.bool S[i].other) ∧ w.cell? ⟨b, off + i * 5 + 2, none⟩ = some (.int .u64 S[i].r.1) ∧ w.cell? ⟨b, off + i * 5 + 3, none⟩ = some (.int .u64 S[i].r.2) ∧ w.cell? ⟨b, off + i * 5 + 4, none⟩ = some (.int .u64 S[i].x)
  fit : ∀ o ∈ S, 0 ≤ o.r.1 ∧ o.r.2 ≤ 18446744073709551615

theorem cell_kept_below {w w' : World} (hb : Below w.heap.size w w') {ad : Addr} {v : Value} (h : w.cell? ad = some v) : w'.cell? ad = some v := cell_kept hb h

theorem bne_true {a b : Int} (h : a ≠ b) : (a != b) = true := by simp [h]
theorem bne_self (a : Int) : (a != a) = false := by simp

/-- The end of the last stretch ahead of place j. -/
def lastOf (L : List Rg) (j : Nat) : Int := if j = 0 then 0 else (nth L (j - 1)).2

end Go.Proofs.Ytjbjaklbckhodab
