import Derived.Test.YtdbdiebgjnofgabBSb4
import Derived.WalkMore
namespace Go.Proofs.Ytdbdiebgjnofgab.Snd
open Go.RowKit Go.Maps Go.Sort
set_option maxRecDepth 100000

theorem CksAt.ckc {w : World} {a : Option Addr} {L : List Ck} (h : CksAt w a L) {m : Nat} (hm : m < L.length) : ∃ g o, a = some ⟨g, o, none⟩ ∧ CkC w g (o + m * 6) L[m] := by
  obtain ⟨g, o, e, q0, q1, q2, q3, q4, q5⟩ := h.cell hm
  exact ⟨g, o, e, q0, q1, q2, q3, q4, q5⟩
/-- A chunk that lowest looks for: not held, under way on none of these. -/
def Ck.free (c : Ck) (fr : Int) : Bool := !c.held && (bits BinOp.and IntKind.u8 c.on fr == 0)
/-- What lowest finds among the chunks from i on. -/
def Sb.lowFrom (F : Sb) (fr : Int) : List Ck → Option Ck
  | [] => none
  | c :: r => if F.mayGo c = true then (if c.free fr = true then some c else F.lowFrom fr r) else none
def Sb.low (F : Sb) (fr : Int) : Option Ck := F.lowFrom fr F.L
/-- What Want and Next tell. -/
def LowAns (w : World) (x : Option Ck) (e : Ending) (w' : World) : Prop :=
  Below w.heap.size w w' ∧ match x with
    | none => e = .returned (.tuple #[.agg #[.int .u64 0, .int .i64 0, .bool false, .slice none 0 0, .bool false], .bool false])
    | some c => ∃ s, e = .returned (.tuple #[ChV c s, .bool true]) ∧ OwnI w' w.heap.size s (onUp c.on 8)
theorem Row.result2 {P : Program} {w : World} {g : Nat} {c : List Value} {t : TypeId} {fn : Func} {p u : Tmp} {ty : TypeId} (h : Row w g c t) (hr : fn.results = #[.cell p ty, .tmp u]) (tmps : Array Value) (hp : tmps.getD p undef = .pointer (some ⟨g, 0, none⟩)) (d : TypeDesc)
    (hu : P.underlying ty = some d) (hd : (match d with | .struct _ | .array _ _ => true | _ => false) = true) (hi : (P.info? ty).map (·.size) = some c.length) : (results fn tmps).run P w = .ok (.tuple #[.agg c.toArray, tmps.getD u undef]) w := by
  have hp' : tmps[p]?.getD undef = .pointer (some ⟨g, 0, none⟩) := by simpa using hp
  simp [results, hr, hp', asAddr, run_loadVar_row w g t ty c.toArray (0, 0) d h.at_ hu hd (by simpa using hi)]
abbrev ch0 : List Value := [.int .u64 0, .int .i64 0, .bool false, .slice none 0 0, .bool false]
end Go.Proofs.Ytdbdiebgjnofgab.Snd
namespace Go.Proofs.Ytdbdiebgjnofgab.Snd
open Go.RowKit Go.Maps Go.Sort
set_option maxRecDepth 100000

/-- What Next tells. -/
def Sb.nxt (F : Sb) (x : Int) : Option Ck := if bit x = 0 then none else F.low (bit x)
end Go.Proofs.Ytdbdiebgjnofgab.Snd
