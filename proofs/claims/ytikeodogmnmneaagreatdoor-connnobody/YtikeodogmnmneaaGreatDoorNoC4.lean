import Derived.Test.YtikeodogmnmneaaGreatDoorNd0
namespace Go.Proofs.YtikeodogmnmneaaGreatDoor
open Go.ChangeShapes Go.WideShapes Go.ChangeAt Go.RowKit Go.Deep
set_option maxRecDepth 100000

theorem connNobody_c0 : (Rows.connNobodyRow.wf (OpenSpec.ofChange Rows.connNobodySpec)) = true := by kernel_rfl
theorem connNobody_c1 : (laidOutB Tryz.prog) = true := by kernel_rfl
theorem connNobody_c2 : (mapsRowed Tryz.prog) = true := by kernel_rfl
theorem connNobody_c3 : (Tryz.f4.params.all (Tryz.prog.readableRec ·)) = true := by kernel_rfl
theorem connNobody_c4 : (namedTie Tryz.prog Rows.connNobodyRow.named Rows.connNobodySpec.vars) = true := by kernel_rfl
theorem connNobody_c5 : ((Rows.connNobodyRow.stops == [])) = true := by kernel_rfl
theorem connNobody_c6 : ((Tryz.prog.stops == [])) = true := by kernel_rfl
theorem connNobody_c7 : ((Rows.connNobodyRow.knobs == [])) = true := by kernel_rfl
theorem connNobody_c8 : ((Tryz.prog.stopKnobs == [])) = true := by kernel_rfl
theorem connNobody_c13 : ((Rows.connNobodyRow.maps == (Tryz.f4.params.toList ++ Rows.connNobodySpec.plain.varTypes Tryz.prog).any (Tryz.prog.mapsRec ·))) = true := by kernel_rfl
theorem connNobody_c14 : ((Rows.connNobodyRow.ifaces == (Tryz.f4.params.toList ++ Rows.connNobodySpec.plain.varTypes Tryz.prog).any (Tryz.prog.ifacesRec ·))) = true := by kernel_rfl
theorem connNobody_c15 : ((Rows.connNobodyRow.mapsOut == Tryz.prog.mapsAmong Tryz.f4.resultTypes.toList)) = true := by kernel_rfl
theorem connNobody_c16 : ((Rows.connNobodyRow.loops == (Tryz.f4.params.toList ++ Rows.connNobodySpec.plain.varTypes Tryz.prog).any (Tryz.prog.loopsFrom ·))) = true := by kernel_rfl
theorem connNobody_c17 : ((Rows.connNobodyRow.wideKeys == (Tryz.f4.params.toList ++ Rows.connNobodySpec.plain.varTypes Tryz.prog ++ Tryz.f4.resultTypes.toList).any (Tryz.prog.wideKeysFrom ·))) = true := by kernel_rfl
theorem connNobody_c18 : (Rows.connNobodySpec.vars.all (Tryz.prog.varReadable ·)) = true := by kernel_rfl
theorem connNobody_c19 : (Tryz.f4.resultTypes.all (fun t => Tryz.prog.readableRec t && decide (t < Tryz.prog.types.size))) = true := by kernel_rfl
theorem connNobody_c20 : ((Rows.connNobodyRow.ifacesOut == Tryz.f4.resultTypes.toList.any (Tryz.prog.ifacesRec ·))) = true := by kernel_rfl
theorem connNobody_c21 : ((Rows.connNobodyRow.loopsOut == Tryz.f4.resultTypes.toList.any (Tryz.prog.loopsFrom ·))) = true := by kernel_rfl
theorem connNobody_c22 : ((Rows.connNobodyRow.plainKeys == Tryz.prog.plainKeys)) = true := by kernel_rfl
theorem connNobody_c23 : (Rows.connNobodyRow.shortTexts.isNone) = true := by kernel_rfl
theorem connNobody_c24 : (Tryz.prog.stopsHeard) = true := by kernel_rfl
theorem connNobody_c25 : (Tryz.prog.mayEnter) = true := by kernel_rfl
theorem connNobody_c26 : ((Rows.connNobodyRow.lifted == Tryz.prog.liftsFinal)) = true := by kernel_rfl
theorem connNobody_c27 : ((Tryz.prog.make == some Rows.connNobodyRow.make)) = true := by kernel_rfl
theorem connNobody_c28 : ((Rows.connNobodyRow.kinds == (if Rows.connNobodyRow.domain.isEmpty then [] else Tryz.f4.params.toList.map fun t => match Tryz.prog.underlying t with | some (.int k) => some k | _ => none))) = true := by kernel_rfl
theorem connNobody_c29 : ((Rows.connNobodyRow.pinned == Rows.connNobodyRow.pinnedBy)) = true := by kernel_rfl
theorem connNobody_c30 : ((Rows.connNobodyRow.veiled == (Tryz.f4.params.toList ++ Rows.connNobodySpec.plain.varTypes Tryz.prog ++ Tryz.f4.resultTypes.toList).any (Tryz.prog.veiledRec ·))) = true := by kernel_rfl
theorem connNobody_c31 : (Rows.connNobodyRow.veiledFits Tryz.prog Tryz.f4.params.toList (Tryz.f4.params.toList ++ Rows.connNobodySpec.plain.varTypes Tryz.prog ++ Tryz.f4.resultTypes.toList)) = true := by kernel_rfl
end Go.Proofs.YtikeodogmnmneaaGreatDoor
