import Derived.Test.YtgkfnbbgohdalaaDoorRd0
namespace Go.Proofs.YtgkfnbbgohdalaaDoor
open Go.RowKit
set_option maxRecDepth 100000

def z (n : Nat) : List (BitVec 8) := List.replicate n 0#8
theorem z_len (n : Nat) : (z n).length = n := List.length_replicate
theorem z_add (n m : Nat) : z (n + m) = z n ++ z m := List.replicate_append_replicate.symm
theorem BytesAt.only {w w' : World} {a : Option Addr} {bs : List (BitVec 8)} {q : Nat} (h : BytesAt w a bs) (hne : ∀ ad, a = some ad → ad.block ≠ q) (ho : Only q w w') : BytesAt w' a bs := fun k hk => by
  obtain ⟨g, o, e, c⟩ := h k hk
  exact ⟨g, o, e, ho.cell c (show g ≠ q from hne ⟨g, o, none⟩ e)⟩
theorem RangesAt.only {w w' : World} {a : Option Addr} {l : List (Nat × Nat)} {q : Nat} (h : RangesAt w a l) (hne : ∀ ad, a = some ad → ad.block ≠ q) (ho : Only q w w') : RangesAt w' a l := fun k hk => by
  obtain ⟨g, o, e, c, d⟩ := h k hk
  exact ⟨g, o, e, ho.cell c (show g ≠ q from hne ⟨g, o, none⟩ e), ho.cell d (show g ≠ q from hne ⟨g, o, none⟩ e)⟩
/-- The row of a step of lay, seen as a front, what is laid, and a back. -/
theorem put_in {w : World} {g o n cap : Nat} {L L' A X B : List (BitVec 8)} (hR : Row w g (bcells L) 5) (e1 : L = A ++ (X ++ B)) (ho : A.length = o) (hn : X.length = n) (h8 : n ≤ 8) (N : Nat) (hN : N < 18446744073709551616) (e2 : A ++ (be n N ++ B) = L') :
    Calls Tryd.prog 20 #[.slice (some ⟨g, o, none⟩) n cap, .int .u64 (N : Int)] w fun e w' => e = .returned (.tuple #[]) ∧ Row w' g (bcells L') 5 ∧ Only g w w' := by
  subst e1 e2; exact put_any hR ho hn h8 N hN

theorem bcells_over {A X B Y : List (BitVec 8)} {o : Nat} (ho : A.length = o) (hx : X.length = Y.length) : (bcells (A ++ (X ++ B))).take o ++ bcells Y ++ (bcells (A ++ (X ++ B))).drop (o + Y.length) = bcells (A ++ (Y ++ B)) := by
  subst ho
  have h1 : (bcells (A ++ (X ++ B))).take A.length = bcells A := by
    unfold bcells; rw [← List.map_take, List.take_left]
  have h2 : (bcells (A ++ (X ++ B))).drop (A.length + Y.length) = bcells B := by
    unfold bcells
    rw [← List.map_drop, ← List.append_assoc, ← hx, ← List.length_append, List.drop_left]
  rw [h1, h2]
  simp [bcells]
theorem set_in {A B : List (BitVec 8)} {o : Nat} {y : BitVec 8} (ho : A.length = o) : (A ++ (z 1 ++ B)).set o y = A ++ ([y] ++ B) := by
  subst ho
  rw [List.set_append_right _ _ (Nat.le_refl _), Nat.sub_self]
  rfl
end Go.Proofs.YtgkfnbbgohdalaaDoor
