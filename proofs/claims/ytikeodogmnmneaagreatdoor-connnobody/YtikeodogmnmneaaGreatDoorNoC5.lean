import Derived.Test.YtikeodogmnmneaaGreatDoorNoC0
import Derived.Test.YtikeodogmnmneaaGreatDoorNoC1
import Derived.Test.YtikeodogmnmneaaGreatDoorNoC2
import Derived.Test.YtikeodogmnmneaaGreatDoorNoC3
import Derived.Test.YtikeodogmnmneaaGreatDoorNoC4
namespace Go.Proofs.YtikeodogmnmneaaGreatDoor
open Go.ChangeShapes Go.WideShapes Go.ChangeAt Go.RowKit Go.Deep
set_option maxRecDepth 100000

theorem and2 {a b : Bool} (ha : a = true) (hb : b = true) : (a && b) = true := by rw [ha, hb]; rfl
theorem connNobody_closed : joinedFacts Tryz.prog 4 Tryz.f4 Rows.connNobodySpec Rows.connNobodyRow = true := by
  unfold joinedFacts
  exact and2 (and2 (and2 (and2 (and2 (and2 (and2 (and2 (and2 (and2 (and2 (and2 (and2 (and2 (and2 (and2 (and2 (and2 (and2 (and2 (and2 (and2 (and2 (and2 (and2 (and2 (and2 (and2 (and2 (and2 (and2 connNobody_c0 connNobody_c1) connNobody_c2) connNobody_c3) connNobody_c4) connNobody_c5) connNobody_c6) connNobody_c7) connNobody_c8) connNobody_c9) connNobody_c10) connNobody_c11) connNobody_c12) connNobody_c13) connNobody_c14) connNobody_c15) connNobody_c16) connNobody_c17) connNobody_c18) connNobody_c19) connNobody_c20) connNobody_c21) connNobody_c22) connNobody_c23) connNobody_c24) connNobody_c25) connNobody_c26) connNobody_c27) connNobody_c28) connNobody_c29) connNobody_c30) connNobody_c31
theorem connNobody_named : Tryz.prog.funcNamed Rows.connNobodyRow.func = some 4 := by kernel_rfl
theorem connNobody_inst : Tryz.f4.isInstance Tryz.prog Rows.connNobodyRow.origin Rows.connNobodyRow.targs := of_decide_eq_true (by kernel_rfl)
theorem connNobody_wrap : Tryz.f4.isWrapper Tryz.prog Rows.connNobodyRow.wrapper Rows.connNobodyRow.mainSum := by unfold Func.isWrapper; first | (rw [if_pos (by decide +kernel)]; kernel_rfl) | (rw [if_neg (by decide +kernel)]; exact ⟨rfl, rfl⟩)
end Go.Proofs.YtikeodogmnmneaaGreatDoor
