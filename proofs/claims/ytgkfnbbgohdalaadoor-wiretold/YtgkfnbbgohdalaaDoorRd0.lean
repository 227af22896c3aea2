import Derived.Test.YtgkfnbbgohdalaaDoorDec1
import Derived.Test.YtgkfnbbgohdalaaDoorDec3
import Derived.Test.YtgkfnbbgohdalaaDoorFr4
import Derived.Laws.CopyOwn
namespace Go.Proofs.YtgkfnbbgohdalaaDoor
open Go.RowKit
theorem BytesAt_nil (w : World) (a : Option Addr) : BytesAt w a [] := fun k hk => by simp at hk
theorem RangesAt_nil (w : World) (a : Option Addr) : RangesAt w a [] := fun k hk => by simp at hk
theorem fcells_one (f : Fr) (a1 : Option Addr) (l1 c1 : Nat) (a2 : Option Addr) (l2 c2 : Nat) (a3 : Option Addr) (l3 c3 : Nat) : ∀ v ∈ fcells f (.slice a1 l1 c1) (.slice a2 l2 c2) (.slice a3 l3 c3), v.oneCell' = true := by
  intro v hv
  simp only [fcells, List.mem_cons, List.not_mem_nil, or_false] at hv
  rcases hv with rfl | rfl | rfl | rfl | rfl | rfl | rfl | rfl | rfl | rfl | rfl | rfl <;> rfl
theorem val_lt8 (b : List (BitVec 8)) (h : b.length ≤ 8) : val b < 18446744073709551616 := by
  have h1 := val_lt b
  have h2 : 256 ^ b.length ≤ 256 ^ 8 := Nat.pow_le_pow_right (by decide) h
  have h3 : (256 : Nat) ^ 8 = 18446744073709551616 := by decide
  omega
theorem rangesN_lt (n : Nat) (b : List (BitVec 8)) : ∀ r ∈ rangesN n b, r.1 < 18446744073709551616 ∧ r.2 < 18446744073709551616 := by
  induction n generalizing b with
  | zero => intro r h; cases h
  | succ n ih =>
    intro r h
    rw [rangesN, List.mem_cons] at h
    rcases h with rfl | h
    · exact ⟨val_lt8 _ (by rw [List.length_take]; omega), val_lt8 _ (by rw [List.length_take]; omega)⟩
    · exact ih _ r h
end Go.Proofs.YtgkfnbbgohdalaaDoor
