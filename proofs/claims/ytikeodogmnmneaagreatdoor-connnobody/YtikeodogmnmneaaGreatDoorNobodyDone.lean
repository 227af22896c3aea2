import Derived.Test.YtikeodogmnmneaaGreatDoorNd3
import Derived.Test.YtikeodogmnmneaaGreatDoorNoD0
import Derived.Test.YtikeodogmnmneaaGreatDoorNoD1
namespace Go.Proofs.YtikeodogmnmneaaGreatDoor
open Go.ChangeShapes Go.WideShapes Go.ChangeAt Go.RowKit Go.Deep
set_option maxRecDepth 100000

/-- Of a side that New did not give every call answers so. -/
theorem nobody_holds : Rows.ConnNobodyCardSaid :=
  Claim7.holds_tied_plain_at .later [] [.data, .data, .data] true (true, "a09fbcad5c3ec4b62c3f1facf3e31bbeb5e2d48b321efc04baabd1147da6ab8c") false
    nobody_row (fun _ h => by cases h) connNobody_wt (fun _ h => by cases h) connNobody_row_tie rfl ⟨rfl, rfl⟩ connNobody_main rfl
    (fun f fn hf hfn => by
      obtain rfl : f = 4 := Option.some.inj (connNobody_named.symm.trans hf) |>.symm
      obtain rfl : fn = Tryz.f4 := (Option.some.inj (Tryz.func4.symm.trans hfn)).symm
      exact ⟨connNobody_looks, fun j t ht => by
        rw [Tryz.params4] at ht
        have hm : t ∈ [4, 55] := by simpa using Array.mem_of_getElem? ht
        exact (show Tryz.prog.wantsStandIn t = false by simpa using List.all_eq_true.1 connNobody_stand t hm)⟩)
    connNobody_goes
#print axioms nobody_holds
end Go.Proofs.YtikeodogmnmneaaGreatDoor
