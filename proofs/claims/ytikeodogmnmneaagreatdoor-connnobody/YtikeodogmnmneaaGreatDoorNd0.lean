import Derived.Test.YtikeodogmnmneaaGreatDoorCn1
import Derived.Test.YtikeodogmnmneaaGreatDoorTie
import Derived.Test.YtikeodogmnmneaaGreatDoorCards
import Derived.ProofKit
import Derived.OpenShut
import Derived.SizedLaws
import Derived.Deep.Slices
import Derived.Lib.LaidTab
import Derived.LaidMore
import Derived.Stop.Joined
import Derived.Stop.LaidErr
import Derived.SevenTiedAt
namespace Go.Proofs.YtikeodogmnmneaaGreatDoor
open Go.ChangeShapes Go.WideShapes Go.ChangeAt Go.RowKit Go.Deep
set_option maxRecDepth 100000

theorem own : ownKnob Tryz.prog.godebug = none := by kernel_rfl
theorem laidOut : laidOutB Tryz.prog = true := by kernel_rfl
theorem cells3 : Tryz.prog.cellsOf 3 = 1 := by kernel_rfl
theorem cells4 : Tryz.prog.cellsOf 4 = 1 := by kernel_rfl
theorem cells55 : Tryz.prog.cellsOf 55 = 20 := by kernel_rfl
theorem open_act {H : Type} {enc : TypeId × Value → H} {W : World} {sp : Nat → Bool} {held : Bool} {fuel : Nat} {c : List Value} {x : DataW H × List MemPlace} (h : DataW.trod enc Tryz.prog W 0 sp held fuel 55 c = some x) :
    ∃ (pa n : Int) (on : Bool) (v0 v1 b f0 f1 f2 f3 f4 f5 f6 f7 f8 f9 f10 f11 v18 v19 : Value), c = [v0, v1, .int .i64 pa, .int .i64 n, .bool on, b, f0, f1, f2, f3, f4, f5, f6, f7, f8, f9, f10, f11, v18, v19] := by
  obtain ⟨xs, k, _, hx, hl, hxl, hf⟩ := DataW.trod_struct Tryz.underlying55 h
  rw [cells55] at hl
  have hxl2 : xs.length = 9 := hxl
  match c, hl with
  | [v0, v1, v2, v3, v4, v5, v6, v7, v8, v9, v10, v11, v12, v13, v14, v15, v16, v17, v18, v19], _ =>
    match xs, hxl2 with
    | [y0, y1, y2, y3, y4, y5, y6, y7, y8], _ =>
      have g2 := hf 2 _ rfl
      have g3 := hf 3 _ rfl
      have g4 := hf 4 _ rfl
      simp [cells3, cells4] at g2 g3 g4
      obtain ⟨pa, e2, _, _⟩ := DataW.trod_int Tryz.underlying3 g2
      obtain ⟨n, e3, _, _⟩ := DataW.trod_int Tryz.underlying3 g3
      obtain ⟨on, e4, _⟩ := DataW.trod_bool Tryz.underlying4 g4
      simp at e2 e3 e4
      subst e2 e3 e4
      exact ⟨pa, n, on, _, _, _, _, _, _, _, _, _, _, _, _, _, _, _, _, _, rfl⟩

end Go.Proofs.YtikeodogmnmneaaGreatDoor
