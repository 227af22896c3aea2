import Derived.Test.YtdbdiebgjnofgabOpen
namespace Go.Proofs.Ytdbdiebgjnofgab
open Go.ChangeShapes Go.WideShapes Go.ChangeAt Go.RowKit Go.Deep
set_option maxRecDepth 100000
instance : Inhabited Pk := ⟨⟨0, 0, 0⟩⟩
section
variable {H : Type} {enc : TypeId × Value → H} {W : World}
theorem open_picks {held : Bool} {fuel : Nat} {v : Value} {x : DataW H × List MemPlace} (h : DataW.trod enc Try.prog W 0 (fun _ => true) held fuel 42 [v] = some x) (hw : ∀ k ∈ x.1.weights Try.prog 42, k ≤ reachBytes) :
    ∃ (L : List Pk) (a : Option Addr) (cap : Nat), v = .slice a L.length cap ∧ L.length ≤ cap ∧ RowsAt Pk.cells 3 W a L ∧ (∀ x ∈ L, 0 ≤ x.off ∧ x.off ≤ 18446744073709551615) ∧ L.length * 24 ≤ reachBytes ∧ ((a = none ∧ L.length = 0 ∧ cap = 0) ∨ ∃ ad, a = some ad) :=
  open_rows Pk.cells _ Try.underlying42 cells36 (by kernel_rfl) (fun _ => rfl) (by decide) (fun h _ => open_pick h) h hw
theorem open_views {held : Bool} {fuel : Nat} {v : Value} {x : DataW H × List MemPlace} (h : DataW.trod enc Try.prog W 0 (fun _ => true) held fuel 45 [v] = some x) (hw : ∀ k ∈ x.1.weights Try.prog 45, k ≤ reachBytes) :
    ∃ (L : List Vw) (a : Option Addr) (cap : Nat), v = .slice a L.length cap ∧ L.length ≤ cap ∧ RowsAt Vw.cells 9 W a L ∧ (∀ V ∈ L, VwIn W V) ∧ L.length * 104 ≤ reachBytes ∧ ((a = none ∧ L.length = 0 ∧ cap = 0) ∨ ∃ ad, a = some ad) :=
  open_rows Vw.cells _ Try.underlying45 cells28 (by kernel_rfl) (fun _ => rfl) (by decide) (fun h hw => open_view h hw) h hw
theorem pick_one (p : Pk) : ∀ u ∈ p.cells, u.oneCell' = true := by
  intro u hu
  simp only [Pk.cells, List.mem_cons, List.not_mem_nil, or_false] at hu
  rcases hu with rfl | rfl | rfl <;> rfl
end
end Go.Proofs.Ytdbdiebgjnofgab
