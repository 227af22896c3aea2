/-
  DERIVED. GIVEN WITH THE SEED: THE PROGRAM's TIES (one call each: nine closed facts by the kernel) AND EACH ROW's TIE, after the 31st guide's Derived/Test/Toyas{Tie, Card}.lean. No idea stands in it: it is a product of the set-up. Laid BY PROGRAM, IN A SANDBOX (cutbox-door.mjs). By AI agents, Wed Nov 11 2026. No macro, syntax, notation, axiom, sorry.
-/
import Derived.Test.YtnflgkobedbemaaGreatDoorRows
import Derived.LaidByTextLater
import Derived.SevenTiedAt
import Derived.LaidSub
import Derived.LaidOnce
namespace Go.Proofs.YtnflgkobedbemaaGreatDoor
open Go
set_option maxRecDepth 100000
theorem seatTie1 : Tryz.prog.laidByTextLater [("braid/sums.crcSteps", Rows.laid_braid_sums_crcSteps), ("braid/sums.rounds", Rows.laid_braid_sums_rounds), ("braid/wire.sizes", Rows.laid_braid_wire_sizes)] [.data, .data, .data] true :=
  Program.laidByTextLater_by_one 24 8 65 (by kernel_rfl) (by kernel_rfl) (by kernel_rfl) (by kernel_rfl) (by kernel_rfl) (by kernel_rfl) (fun _ _ => by kernel_rfl)
theorem noOwnUnsafe : Tryz.pinned.checked.prog.headLifts.contains "ownunsafe" = false := by kernel_rfl
theorem tie : Tryz.prog.laidByTextLater [("braid/sums.rounds", Rows.laid_braid_sums_rounds)] [.data] true :=
  Program.laidByTextLater.sub seatTie1 ["braid/sums.rounds"] (by kernel_rfl) (by kernel_rfl)
theorem gobacknMakes_row_tie : Rows.gobacknMakesRow.laidByTextAt .later Tryz.pinned [.data] true :=
  OpenClaim.laidByTextAt_later rfl rfl tie noOwnUnsafe
theorem tie2 : Tryz.prog.laidByTextLater [("braid/sums.crcSteps", Rows.laid_braid_sums_crcSteps), ("braid/sums.rounds", Rows.laid_braid_sums_rounds), ("braid/wire.sizes", Rows.laid_braid_wire_sizes)] [.data, .data, .data] true :=
  Program.laidByTextLater.sub seatTie1 ["braid/sums.crcSteps", "braid/sums.rounds", "braid/wire.sizes"] (by kernel_rfl) (by kernel_rfl)
theorem gobacknNobody_row_tie : Rows.gobacknNobodyRow.laidByTextAt .later Tryz.pinned [.data, .data, .data] true :=
  OpenClaim.laidByTextAt_later rfl rfl tie2 noOwnUnsafe
theorem gobacknStream_row_tie : Rows.gobacknStreamRow.laidByTextAt .later Tryz.pinned [.data, .data, .data] true :=
  OpenClaim.laidByTextAt_later rfl rfl tie2 noOwnUnsafe
theorem gobacknArrives_row_tie : Rows.gobacknArrivesRow.laidByTextAt .later Tryz.pinned [.data, .data, .data] true :=
  OpenClaim.laidByTextAt_later rfl rfl tie2 noOwnUnsafe
theorem gobacknDies_row_tie : Rows.gobacknDiesRow.laidByTextAt .later Tryz.pinned [.data, .data, .data] true :=
  OpenClaim.laidByTextAt_later rfl rfl tie2 noOwnUnsafe
theorem gobacknDeaf_row_tie : Rows.gobacknDeafRow.laidByTextAt .later Tryz.pinned [.data, .data, .data] true :=
  OpenClaim.laidByTextAt_later rfl rfl tie2 noOwnUnsafe
theorem gobacknMakesUpto_row_tie : Rows.gobacknMakesUptoRow.laidByTextAt .later Tryz.pinned [.data] true :=
  OpenClaim.laidByTextAt_later rfl rfl tie noOwnUnsafe
theorem gobacknNobodyUpto_row_tie : Rows.gobacknNobodyUptoRow.laidByTextAt .later Tryz.pinned [.data, .data, .data] true :=
  OpenClaim.laidByTextAt_later rfl rfl tie2 noOwnUnsafe
theorem gobacknStreamUpto_row_tie : Rows.gobacknStreamUptoRow.laidByTextAt .later Tryz.pinned [.data, .data, .data] true :=
  OpenClaim.laidByTextAt_later rfl rfl tie2 noOwnUnsafe
theorem gobacknArrivesUpto_row_tie : Rows.gobacknArrivesUptoRow.laidByTextAt .later Tryz.pinned [.data, .data, .data] true :=
  OpenClaim.laidByTextAt_later rfl rfl tie2 noOwnUnsafe
theorem gobacknDiesUpto_row_tie : Rows.gobacknDiesUptoRow.laidByTextAt .later Tryz.pinned [.data, .data, .data] true :=
  OpenClaim.laidByTextAt_later rfl rfl tie2 noOwnUnsafe
theorem gobacknDeafUpto_row_tie : Rows.gobacknDeafUptoRow.laidByTextAt .later Tryz.pinned [.data, .data, .data] true :=
  OpenClaim.laidByTextAt_later rfl rfl tie2 noOwnUnsafe
end Go.Proofs.YtnflgkobedbemaaGreatDoor
