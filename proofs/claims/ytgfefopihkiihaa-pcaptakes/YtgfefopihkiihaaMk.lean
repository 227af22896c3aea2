import Derived.Test.YtgfefopihkiihaaCa1
namespace Go.Proofs.Ytgfefopihkiihaa
open Go.RowKit Go.Maps
set_option maxRecDepth 100000

theorem mk0_cells (n : Nat) : madeCells #[.int .u8 0] n = (bcells (List.replicate n 0#8)).toArray := by
  apply Array.ext_getElem?
  intro j
  by_cases h : j < n
  · simp [madeCells, bcells, h, Nat.mod_one, bv]; rfl
  · simp [madeCells, bcells, h]
theorem make0_run (w : World) (c : Nat) (hc : c ≤ 140737488355328) : (Instr.makeSlice 31 (.int .i64 0) (.int .i64 (c : Int))).run Try.prog w = .ok (.slice (some ⟨w.heap.size, 0, none⟩) 0 c) (w.alloc (.cells (bcells (List.replicate c 0#8)).toArray 5)) := by
  obtain ⟨i, h1, h2, h3, h4⟩ := info5
  have hr := run_make (P := Try.prog) w 31 5 i (.int .u8 0) Try.underlying31 h1 h2 .i64 .i64 0 (c : Int) (by omega) (by omega) (by rw [h4]; omega) (by omega)
  simp only [Int.toNat_natCast, h3, Nat.mul_one, Value.cells, mk0_cells] at hr
  exact hr
theorem make0_own (w : World) (c : Nat) (hc : c ≤ 140737488355328) : OwnBy (w.alloc (.cells (bcells (List.replicate c 0#8)).toArray 5)) w.heap.size (.slice (some ⟨w.heap.size, 0, none⟩) 0 c) [] :=
  ⟨rfl, .inr ⟨w.heap.size, c, _, rfl, Nat.le_refl _, heap_alloc_last w _, Nat.zero_le _, by unfold maxLen; omega, by simp [bcells_len], by simp [bcells]⟩⟩
theorem bsl4 (w : World) (a b c d : Int) : (Instr.buildSlice 31 4 #[(0, .int .u8 a), (1, .int .u8 b), (2, .int .u8 c), (3, .int .u8 d)]).run Try.prog w = .ok (.slice (some ⟨w.heap.size, 0, none⟩) 4 4) (w.alloc (.cells #[.int .u8 a, .int .u8 b, .int .u8 c, .int .u8 d] 5)) := by kernel_rfl
theorem bytes_four {w : World} {a b c d : Int} {x y z u : BitVec 8} (h1 : a = ub x) (h2 : b = ub y) (h3 : c = ub z) (h4 : d = ub u) : BytesAt (w.alloc (.cells #[.int .u8 a, .int .u8 b, .int .u8 c, .int .u8 d] 5)) (some ⟨w.heap.size, 0, none⟩) [x, y, z, u] := by
  have R := Row.new w (bcells [x, y, z, u]) 5
  have := R.bytes
  rw [show (bcells [x, y, z, u]).toArray = #[.int .u8 a, .int .u8 b, .int .u8 c, .int .u8 d] by rw [h1, h2, h3, h4]; rfl] at this
  exact this
theorem grown_below {base : Nat} {w w' : World} {v : Value} (hg : w.grownBy w' v.ownBlock) (hb : ∀ g, v.ownBlock = some g → base ≤ g) (hs : base ≤ w.heap.size) : Below base w w' := (Below.refl _ _).grown hg hs hb
theorem own_new (w : World) (l : List (BitVec 8)) (hl : l.length ≤ 1000000) : OwnBy (w.alloc (.cells (bcells l).toArray 5)) w.heap.size (.slice (some ⟨w.heap.size, 0, none⟩) l.length l.length) l :=
  ⟨by rw [bcells_len, Nat.mul_one], .inr ⟨w.heap.size, l.length, _, rfl, Nat.le_refl _, heap_alloc_last w _, Nat.le_refl _, by unfold maxLen; omega, by simp [bcells_len], by rw [List.take_of_length_le (by simp [bcells_len])]⟩⟩
theorem u8_of (x : Int) : x % 256 = ub (BitVec.ofInt 8 x) := by rw [← IntKind.wrap_u8', ub_wrap]
abbrev pz : List Value := [.int .u32 0, .int .u32 0, .int .u32 0, .slice none 0 0]
/-- A packet of an event, made anew. -/
def PkNew (w w' : World) (e : Evt) (m : Int) (en : Ending) : Prop := ∃ p : Pkt, en = .returned (.agg (pcells p).toArray) ∧ p.view = e.pk m ∧ OwnBy w' w.heap.size p.val p.bs ∧ Below w.heap.size w w'
end Go.Proofs.Ytgfefopihkiihaa
