import Derived.Test.YtnflgkobedbemaaGreatDoorHOf
import Derived.Lib.SlBytesConst
namespace Go.Proofs.YtnflgkobedbemaaGreatDoor.Sh
open Go.RowKit
set_option maxRecDepth 100000

theorem Row.bytesAt {w : World} {g t : Nat} {bs : List (BitVec 8)} (R : Row w g (bcells bs) t) : BytesAt w (some ⟨g, 0, none⟩) bs := fun k hk => ⟨g, 0, rfl, by rw [Nat.zero_add]; exact R.cell k _ (bcells_get hk)⟩
theorem parts_one {w : World} {g cap : Nat} {ad : Option Addr} {bs : List (BitVec 8)} (c : w.cell? ⟨g, 0, none⟩ = some (.slice ad bs.length cap)) (B : BytesAt w ad bs) (h1 : bs.length ≤ cap) (h2 : cap ≤ 9223372036854775807) : PartsC w (some ⟨g, 0, none⟩) [bs] := by
  intro k hk
  have : k = 0 := by simpa using hk
  subst this
  exact ⟨g, 0, ad, cap, rfl, c, B, h1, h2⟩
theorem sha_len (c : List (BitVec 8)) : (sha c).length = 32 := by unfold sha; rw [wordsFlat_len]; rfl
theorem sget {w : World} {g : Nat} {E : List (BitVec 8)} (hE : E.length = 32) (R : Row w g (bcells E) 171) (j : Nat) (hj : j < 32) : w.cell? ⟨g, j, none⟩ = some (.int .u8 (ub (E.getD j 0))) := by
  rw [R.cell j _ (bcells_get (by omega))]
  simp [List.getElem?_eq_getElem (show j < E.length by omega)]

end Go.Proofs.YtnflgkobedbemaaGreatDoor.Sh
