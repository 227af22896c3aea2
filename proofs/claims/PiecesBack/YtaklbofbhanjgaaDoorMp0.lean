import Derived.Test.YtaklbofbhanjgaaDoorRw1
import Derived.Maps.Own
import Derived.Maps.OwnOps
import Derived.DeepKeys4
namespace Go.Proofs.YtaklbofbhanjgaaDoor
open Go.RowKit Go.Maps
set_option maxRecDepth 100000
theorem law92 : Keyed Tryd.prog 92 := Keyed.of_law (deep_law_laid (by kernel_rfl) (m := 3) (by decide) (by decide +kernel) (by kernel_rfl) (by kernel_rfl))
theorem lits47 (d : Nat) {a : Int} (h0 : 0 ≤ a) (h1 : a ≤ 18446744073709551615) : Tryd.prog.keyLits (d + 1) 47 [.int .u64 a] = some [.int .u64 a] := by
  unfold Program.keyLits
  rw [Tryd.underlying47]
  have hw : (Lit.int .u64 a).wf = true := by simp [Lit.wf, IntKind.min, IntKind.max, IntKind.signed, IntKind.bits]; omega
  simp [hw]
theorem lits92 (d : Nat) {a b : Int} (h0 : 0 ≤ a) (h1 : a ≤ 18446744073709551615) (h2 : 0 ≤ b) (h3 : b ≤ 18446744073709551615) : Tryd.prog.keyLits (d + 2) 92 [.int .u64 a, .int .u64 b] = some [.int .u64 a, .int .u64 b] := by
  unfold Program.keyLits
  rw [Tryd.underlying92]
  have c1 : Tryd.prog.cellsOf 92 = 2 := by kernel_rfl
  have c2 : Tryd.prog.cellsOf 47 = 1 := by kernel_rfl
  simp [c1, c2, lits47 d h0 h1, lits47 d h2 h3]
theorem formed92 (a b : Int) : Value.formed Tryd.prog 92 (.agg #[.int .u64 a, .int .u64 b]) = true := by
  unfold Value.formed
  rw [Tryd.underlying92]
  have c1 : Tryd.prog.cellsOf 92 = 2 := by kernel_rfl
  simp [c1]
theorem key92 {a b : Int} (h0 : 0 ≤ a) (h1 : a ≤ 18446744073709551615) (h2 : 0 ≤ b) (h3 : b ≤ 18446744073709551615) : ∃ kl, keyOf Tryd.prog 92 (.agg #[.int .u64 a, .int .u64 b]) = some kl := by
  refine ⟨.string (keyBytes [.int .u64 a, .int .u64 b]), ?_⟩
  unfold keyOf
  rw [Tryd.underlying92]
  have hk : Tryd.prog.keyType 92 = true := by kernel_rfl
  obtain ⟨m, hm⟩ : ∃ m, Tryd.prog.types.size + 1 = m + 2 := ⟨Tryd.prog.types.size - 1, by have : 92 < Tryd.prog.types.size := by decide +kernel
                                                                                          omega⟩
  dsimp only
  rw [hm, formed92, hk]
  simp [Value.cells, lits92 m h0 h1 h2 h3]
end Go.Proofs.YtaklbofbhanjgaaDoor
