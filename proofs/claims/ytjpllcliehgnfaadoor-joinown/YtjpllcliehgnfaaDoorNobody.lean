import Derived.Test.YtjpllcliehgnfaaDoorNew
namespace Go.Proofs.YtjpllcliehgnfaaDoor
open Go.RowKit
set_option maxRecDepth 100000

theorem wp_world {code : Code} {Q : Exit → Act → World → Prop} {a : Act} {w : World} (h : ∀ w0, Hid (w0 = w) → code.wp Tryd.prog Q a w0) : code.wp Tryd.prog Q a w := h w rfl
/-- A Hash that neither New nor Fork gave. -/
def NoHash (w : World) (v : Value) : Prop := v = .pointer none ∨ ∃ p, v = .pointer (some ⟨p, 0, none⟩) ∧ Row w p hz 94

theorem hash_made {w : World} {p : Nat} {c : List (BitVec 8)} (h : HashAt w p c) : w.cell? ⟨p, 0, none⟩ = some (.bool true) := by
  obtain ⟨s, l, _, R⟩ := h
  exact R.cell 0 _ rfl
def z32 : List (BitVec 8) := List.replicate 32 0#8
theorem zero44 : (Tryd.prog.info? 73).map (fun i => (i.zero, i.size)) = some (some (.agg (bcells z32).toArray), 32) := by kernel_rfl
theorem z44 (w : World) : (zeroValue 73).run Tryd.prog w = .ok (.agg (bcells z32).toArray) w := (zero_of_info zero44).1 w
theorem i44 : (Tryd.prog.info? 73).map (·.size) = some 32 := (zero_of_info zero44).2
theorem NoHash.kept {w w' : World} {v : Value} (h : NoHash w v) (hb : Below w.heap.size w w') : NoHash w' v := by
  rcases h with h | ⟨p, h, R⟩
  · exact .inl h
  · exact .inr ⟨p, h, R.kept hb R.lt⟩
end Go.Proofs.YtjpllcliehgnfaaDoor
