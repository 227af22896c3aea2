import Derived.Test.YtjpllcliehgnfaaDoorOf
import Derived.Lib.SlBytesConst
namespace Go.Proofs.YtjpllcliehgnfaaDoor
open Go.RowKit
set_option maxRecDepth 100000

def abc : List (BitVec 8) := [97#8, 98#8, 99#8]
def nine : List (BitVec 8) := [49#8, 50#8, 51#8, 52#8, 53#8, 54#8, 55#8, 56#8, 57#8]
theorem shaAbc : (sha abc).getD 0 0 = 186#8 ∧ (sha abc).getD 1 0 = 120#8 ∧ (sha abc).getD 31 0 = 173#8 := by decide +kernel
theorem crcNine : crc nine = 3421780262#32 := by decide +kernel
theorem crcNone : crc [] = 0#32 := by decide +kernel

theorem Row.bytesAt {w : World} {g t : Nat} {bs : List (BitVec 8)} (R : Row w g (bcells bs) t) : BytesAt w (some ⟨g, 0, none⟩) bs := fun k hk => ⟨g, 0, rfl, by rw [Nat.zero_add]; exact R.cell k _ (bcells_get hk)⟩
theorem parts_one {w : World} {g cap : Nat} {ad : Option Addr} {bs : List (BitVec 8)} (c : w.cell? ⟨g, 0, none⟩ = some (.slice ad bs.length cap)) (B : BytesAt w ad bs) (h1 : bs.length ≤ cap) (h2 : cap ≤ 9223372036854775807) : PartsC w (some ⟨g, 0, none⟩) [bs] := by
  intro k hk
  have : k = 0 := by simpa using hk
  subst this
  exact ⟨g, 0, ad, cap, rfl, c, B, h1, h2⟩
theorem parts_none (w : World) (a : Option Addr) : PartsC w a [] := fun k hk => by simp at hk
theorem bytes_marked (w : World) (arr : Array Value) (bs : List (BitVec 8)) (fr : Nat × Nat) (h : (bcells bs).toArray = arr) : BytesAt (w.alloc (.cells arr 5 fr)) (some ⟨w.heap.size, 0, none⟩) bs := by
  subst h
  intro k hk
  refine ⟨_, 0, rfl, ?_⟩
  rw [Nat.zero_add, cell_of_row _ _ k (bcells bs).toArray 5 fr (heap_alloc_last w _)]
  simpa using bcells_get hk
theorem sha_len (c : List (BitVec 8)) : (sha c).length = 32 := by unfold sha; rw [wordsFlat_len]; rfl
theorem sget {w : World} {g : Nat} {E : List (BitVec 8)} (hE : E.length = 32) (R : Row w g (bcells E) 73) (j : Nat) (hj : j < 32) : w.cell? ⟨g, j, none⟩ = some (.int .u8 (ub (E.getD j 0))) := by
  rw [R.cell j _ (bcells_get (by omega))]
  simp [List.getElem?_eq_getElem (show j < E.length by omega)]

end Go.Proofs.YtjpllcliehgnfaaDoor
