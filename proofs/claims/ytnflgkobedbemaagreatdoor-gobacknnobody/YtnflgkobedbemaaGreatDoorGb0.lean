import Derived.Test.YtnflgkobedbemaaGreatDoorRtBase
import Derived.Test.YtnflgkobedbemaaGreatDoorIvReplace
namespace Go.Proofs.YtnflgkobedbemaaGreatDoor
open Go.RowKit Go.Maps Go.Sort
set_option maxRecDepth 100000

/-- A configuration, as it is handed in. -/
structure Cf where
  pa : Int
  ms : Int
  sb : Int
  rb : Int
  ga : Int
  re : Int
  ba : Int
  sc : Int
  ws : List Int
  wa : Option Addr
  wc : Nat
  k0 : Nat
  k1 : Nat
  b0 : Nat
  b1 : Nat
  pa0 : Option Addr
  pl0 : Nat
  pc0 : Nat
  pa1 : Option Addr
  pl1 : Nat
  pc1 : Nat
def Cf.cells (c : Cf) (n : Nat) : List Value := [.int .i64 c.pa, .int .i64 c.ms, .int .i64 c.sb, .int .i64 c.rb, .int .i64 c.ga, .int .i64 c.re, .int .i64 c.ba, .int .i64 c.sc, .slice c.wa n c.wc, .int .u64 c.k0, .int .u64 c.k1, .int .u64 c.b0, .int .u64 c.b1, .slice c.pa0 c.pl0 c.pc0, .slice c.pa1 c.pl1 c.pc1]
def Cf.val (c : Cf) (n : Nat) : Value := .agg #[.int .i64 c.pa, .int .i64 c.ms, .int .i64 c.sb, .int .i64 c.rb, .int .i64 c.ga, .int .i64 c.re, .int .i64 c.ba, .int .i64 c.sc, .slice c.wa n c.wc, .int .u64 c.k0, .int .u64 c.k1, .int .u64 c.b0, .int .u64 c.b1, .slice c.pa0 c.pl0 c.pc0, .slice c.pa1 c.pl1 c.pc1]
/-- Ints that lie side by side. -/
def IntsAt (w : World) (a : Option Addr) (L : List Int) : Prop := ∀ i (h : i < L.length), ∃ g o, a = some ⟨g, o, none⟩ ∧ w.cell? ⟨g, o + i, none⟩ = some (.int .i64 L[i])
theorem IntsAt.kept {w w' : World} {a : Option Addr} {L : List Int} (h : IntsAt w a L) (hb : Below w.heap.size w w') : IntsAt w' a L := fun i hi => by
  obtain ⟨g, o, e, c⟩ := h i hi
  exact ⟨g, o, e, cell_kept hb c⟩
/-- What a configuration may be. -/
def Cf.Fit (c : Cf) : Prop := (1 ≤ c.pa ∧ c.pa ≤ 8 ∧ 1 ≤ c.ms ∧ c.ms ≤ 1024 ∧ 1 ≤ c.sb ∧ c.sb ≤ 65536 ∧ c.ms ≤ c.rb ∧ c.rb ≤ 65536 ∧ 1 ≤ c.ga ∧ c.ga ≤ 64 ∧ 1 ≤ c.re ∧ c.re ≤ 16 ∧ 1 ≤ c.ba ∧ c.ba ≤ 1073741824 ∧ 0 ≤ c.sc ∧ c.sc ≤ 5 ∧ (c.ws.length : Int) ≤ c.pa ∧ c.b0 ≤ 4611686018427387904 ∧ c.b1 ≤ 4611686018427387904) ∧ ∀ x ∈ c.ws, 1 ≤ x ∧ x ≤ 255
def FitAns (c : Cf) (e : Ending) : Prop := e = .returned (.int .i64 0) ∧ c.Fit ∨ e = .returned (.int .i64 130) ∧ ¬ c.Fit
end Go.Proofs.YtnflgkobedbemaaGreatDoor
