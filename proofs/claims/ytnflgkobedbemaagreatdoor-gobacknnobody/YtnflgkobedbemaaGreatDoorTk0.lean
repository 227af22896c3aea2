import Derived.Test.YtnflgkobedbemaaGreatDoorBf3
import Derived.Test.YtnflgkobedbemaaGreatDoorIvSets
namespace Go.Proofs.YtnflgkobedbemaaGreatDoor
open Go.RowKit Go.Maps
set_option maxRecDepth 100000

/-- The buffer at p: what it says, and the bytes of what has come. -/
structure BufAt (w : World) (p : Nat) (v : Value) (b n : Nat) (D : DM) (F : Bf) (f : Int → BitVec 8) : Prop where
  r : BufR w p v b F
  sto : Sto w b n D
  byt : ∀ x, mem F.L x → At w D x (f x)
  few : (n : Int) ≤ F.read - F.base + total F.L
/-- What a buffer has of the memory. -/
def Foot (p : Nat) (v : Value) (b : Nat) (D : DM) (k : Nat) : Prop := k = p ∨ v.ownBlock = some k ∨ SB b D k
def Bf.new (F : Bf) (f : Int → BitVec 8) (off : Int) (d : List (BitVec 8)) (x : Int) : BitVec 8 := if gapOf F.L x ≠ x then f x else (d[(x - off).toNat]?).getD 0#8
/-- The buffer's own blocks stay, whatever is laid into its store. -/
theorem BufR.fr {w w' : World} {p b n : Nat} {v : Value} {D : DM} {F : Bf} (h : BufR w p v b F) (hs : Sto w b n D) (hf : Fr (SB b D) w w') : BufR w' p v b F := by
  refine ⟨⟨(hf.block p h.row.lt (hs.not_of_cells h.set.hp (by decide))).trans h.set.hp, h.set.own.1, ?_⟩, h.ok⟩
  rcases h.set.own.2 with e | ⟨g, cap, cur, hv, h1, hg, h2⟩
  · exact .inl e
  · exact .inr ⟨g, cap, cur, hv, h1, (hf.block g (Array.getElem?_eq_some_iff.1 hg).1 (hs.not_of_cells hg (by decide))).trans hg, h2⟩
/-- What stands when k of the missing stretches are laid down. -/
structure LayAt (w wr : World) (b n : Nat) (D D' : DM) (M : List Rg) (off : Int) (d : List (BitVec 8)) (k n' : Nat) : Prop where
  sto : Sto wr b n' D'
  few : (n' : Int) ≤ n + total (M.take k)
  fr : Fr (SB b D) w wr
  sub : ∀ j, SB b D' j → SB b D j ∨ w.heap.size ≤ j
  old : ∀ y c, At w D y c → ¬ mem M y → At wr D' y c
  new : ∀ y, mem (M.take k) y → ∀ c, d[(y - off).toNat]? = some c → At wr D' y c
theorem LayAt.start {w : World} {b n : Nat} {D : DM} (h : Sto w b n D) (M : List Rg) (off : Int) (d : List (BitVec 8)) : LayAt w w b n D D M off d 0 n :=
  ⟨h, by simp [total], Fr.refl _ _, fun _ h => .inl h, fun _ _ h _ => h, fun y hy => by obtain ⟨r, hr, _⟩ := hy; simp at hr⟩
end Go.Proofs.YtnflgkobedbemaaGreatDoor
