import Derived.Test.YtgkfnbbgohdalaaDoorRd1
import Derived.Test.YtgkfnbbgohdalaaDoorRd2
import Derived.Test.YtgkfnbbgohdalaaDoorRd3
import Derived.Test.YtgkfnbbgohdalaaDoorRd4
import Derived.Test.YtgkfnbbgohdalaaDoorRd5
import Derived.Test.YtgkfnbbgohdalaaDoorRd6
namespace Go.Proofs.YtgkfnbbgohdalaaDoor
open Go.RowKit
set_option maxRecDepth 100000

/-- What read gives: the frame of the bytes, in cells of its own. -/
def ReadGives (w : World) (bs : List (BitVec 8)) (e : Ending) (w' : World) : Prop :=
  ∃ da dc ra rc ma mc c, e = .returned (.agg c.toArray) ∧ FrAt w' c (rdf bs) da dc ra rc ma mc ∧ Below w.heap.size w w' ∧ (∀ ad, da = some ad → w.heap.size ≤ ad.block) ∧ (∀ ad, ra = some ad → w.heap.size ≤ ad.block) ∧ (∀ ad, ma = some ad → w.heap.size ≤ ad.block)
theorem read_any {w : World} {g o n cap : Nat} {bs : List (BitVec 8)} (hB : BytesAt w (some ⟨g, o, none⟩) bs) (hn : bs.length = n) (h5 : n ≤ 1048) (hcap : n ≤ cap) (hk : knownB bs) (hs : n = sizeB bs) (h7 : 7 ≤ n) :
    Calls Tryd.prog 32 #[.slice (some ⟨g, o, none⟩) n cap] w (ReadGives w bs) := by
  have hcase := byte_kinds hk
  generalize hx : byte bs 0 = x at hcase
  rcases hcase with rfl | rfl | rfl | rfl | rfl | rfl | rfl | rfl | rfl | rfl | rfl
  · refine read_1 hB hn h5 hcap hx ?_
    simp only [sizeB, hx, if_true, hn] at hs
    split at hs <;> omega
  · exact read_2 hB hn hcap hx (by rw [hs]; simp [sizeB, hx])
  · exact read_3 hB hn hcap hx (by rw [hs]; simp [sizeB, hx])
  · exact read_4 (m := (byte bs 2).toNat) hB hn h5 hcap hx (by rw [hs]; simp [sizeB, hx])
  · exact read_5 hB hn hcap hx (by rw [hs]; simp [sizeB, hx])
  · exact read_6 hB hn hcap hx (by rw [hs]; simp [sizeB, hx])
  · exact read_7 hB hn hcap hx (by rw [hs]; simp [sizeB, hx])
  · exact read_8 hB hn hcap hx (by rw [hs]; simp [sizeB, hx])
  · exact read_9 hB hn hcap hx (by rw [hs]; simp [sizeB, hx])
  · exact read_10 hB hn hcap hx (by rw [hs]; simp [sizeB, hx])
  · exact read_11 hB hn hcap hx (by rw [hs]; simp [sizeB, hx])
end Go.Proofs.YtgkfnbbgohdalaaDoor
