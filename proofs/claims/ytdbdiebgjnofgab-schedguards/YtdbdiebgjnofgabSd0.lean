import Derived.Test.YtdbdiebgjnofgabRtBase
import Derived.Test.YtdbdiebgjnofgabIvSpec
import Derived.Maps.AppendAt
import Derived.Shelf.Abstract
namespace Go.Proofs.Ytdbdiebgjnofgab
open Go.RowKit Go.Maps Go.Sort
set_option maxRecDepth 100000

/-- Nothing but what S says is another one. -/
structure Fr (S : Nat → Prop) (w w' : World) : Prop where
  os : w'.os = w.os
  tape : w'.tape = w.tape
  output : w'.output = w.output
  size : w.heap.size ≤ w'.heap.size
  block : ∀ k, k < w.heap.size → ¬ S k → w'.heap[k]? = w.heap[k]?
section
variable {S T : Nat → Prop} {w w' w'' : World}
theorem Fr.refl (S : Nat → Prop) (w : World) : Fr S w w := ⟨rfl, rfl, rfl, Nat.le_refl _, fun _ _ _ => rfl⟩
theorem Fr.of_below {B : Nat} (h : Below B w w') (hB : w.heap.size ≤ B) : Fr S w w' := ⟨h.os, h.tape, h.output, h.size, fun k hk _ => h.block k (by omega)⟩
theorem Fr.trans (h : Fr S w w') (k : Fr T w' w'') (hT : ∀ x, T x → S x ∨ w.heap.size ≤ x) : Fr S w w'' :=
  ⟨k.os.trans h.os, k.tape.trans h.tape, k.output.trans h.output, Nat.le_trans h.size k.size, fun x hx hS => (k.block x (Nat.lt_of_lt_of_le hx h.size) (fun ht => by rcases hT x ht with e | e; exact hS e; omega)).trans (h.block x hx hS)⟩
theorem Fr.wider (h : Fr S w w') (hT : ∀ x, S x → T x) : Fr T w w' := ⟨h.os, h.tape, h.output, h.size, fun k hk hp => h.block k hk (fun hm => hp (hT k hm))⟩
theorem Fr.of_grown {r : Option Nat} (h : w.grownBy w' r) (hr : ∀ k, r = some k → S k ∨ w.heap.size ≤ k) : Fr S w w' :=
  ⟨h.os, h.tape, h.output, h.size, fun k hk hS => h.block k hk (fun e => by rcases hr k e.symm with e | e; exact hS e; omega)⟩
theorem Fr.cell (h : Fr S w w') {a : Addr} {v : Value} (hc : w.cell? a = some v) (hS : ¬ S a.block) : w'.cell? a = some v := by
  have hl := World.block_lt_of_cell? w a hc
  rw [← hc]
  unfold World.cell?
  rw [h.block a.block hl hS]
theorem Fr.row (h : Fr S w w') {g : Nat} {c : List Value} {t : TypeId} (hr : Row w g c t) (hS : ¬ S g) : Row w' g c t := ⟨(h.block g hr.lt hS).trans hr.at_⟩
theorem Fr.below {B : Nat} (h : Fr S w w') (hS : ∀ x, S x → B ≤ x) (hB : B ≤ w.heap.size) : Below B w w' :=
  ⟨h.os, h.tape, h.output, h.size, fun k hk => h.block k (by omega) (fun e => by have := hS k e; omega)⟩
theorem Fr.grown (h : Fr S w w') {g : Nat} (hS : ∀ x, S x → x = g ∨ w.heap.size ≤ x) : w.grownBy w' (some g) :=
  ⟨h.os, h.tape, h.output, h.size, fun k hk e => h.block k hk (fun hs => by rcases hS k hs with e' | e'; exact e (by rw [e']); omega)⟩
theorem Fr.drewN (h : Fr S w w') (q : Nat) : Fr S w (w'.drewN q) := ⟨h.os, h.tape, h.output, h.size, h.block⟩
end
theorem cell_drewN {w : World} {m : Nat} {ad : Addr} {v : Value} (h : w.cell? ad = some v) : (w.drewN m).cell? ad = some v := h


/-- A call that makes new memory at most, wherever it stands in a drawn region. -/
theorem toK {n : Nat} {args : Array Value} {v : Value} {w : World} (h : ∀ w', Below w.heap.size w w' → Calls Try.prog n args w' fun e w'' => e = .returned v ∧ Below w'.heap.size w' w'') (d : Nat) (os : Array Obj) : Calls Try.prog n args (grow (redrawn w d) os) fun e w'' => e = .returned v ∧ ∃ q : Regrown, w'' = grow (redrawn w q.d) q.os := by
  have hb := below_regrown w d os
  refine (h _ hb).mono ?_
  rintro e w' ⟨rfl, hb'⟩
  exact ⟨rfl, regrown_of_below (hb.trans (hb'.mono hb.size))⟩
theorem Row.result2 {P : Program} {w : World} {g : Nat} {c : List Value} {t : TypeId} {fn : Func} {p u : Tmp} {ty : TypeId} (h : Row w g c t) (hr : fn.results = #[.cell p ty, .tmp u]) (tmps : Array Value) (hp : tmps.getD p undef = .pointer (some ⟨g, 0, none⟩)) (d : TypeDesc)
    (hu : P.underlying ty = some d) (hd : (match d with | .struct _ | .array _ _ => true | _ => false) = true) (hi : (P.info? ty).map (·.size) = some c.length) : (results fn tmps).run P w = .ok (.tuple #[.agg c.toArray, tmps.getD u undef]) w := by
  have hp' : tmps[p]?.getD undef = .pointer (some ⟨g, 0, none⟩) := by simpa using hp
  simp [results, hr, hp', asAddr, run_loadVar_row w g t ty c.toArray (0, 0) d h.at_ hu hd (by simpa using hi)]
/-- A list's own value. -/
structure Sl where
  a : Option Addr
  n : Nat
  c : Nat
/-- A chunk as it is told. -/
structure Cu where
  off : Int
  len : Int
  fin : Bool
  on : Sl
  held : Bool
abbrev Cu.cells (c : Cu) : List Value := [.int .u64 c.off, .int .i64 c.len, .bool c.fin, .slice c.on.a c.on.n c.on.c, .bool c.held]
/-- A path's view. -/
structure Pv where
  u : Bool
  b : Bool
  k : Bool
  s : Int
  w : Int
  i : Int
  h : Bool
  c : Cu
abbrev Pv.cells (p : Pv) : List Value := [.bool p.u, .bool p.b, .bool p.k, .int .u64 p.s, .int .i64 p.w, .int .i64 p.i, .bool p.h, .int .u64 p.c.off, .int .i64 p.c.len, .bool p.c.fin, .slice p.c.on.a p.c.on.n p.c.on.c, .bool p.c.held]
abbrev Pv.val (p : Pv) : Value := .agg p.cells.toArray
def Pv.room (p : Pv) : Bool := p.u && decide (1 ≤ p.w) && decide (p.i < p.w)
set_option maxHeartbeats 1000000 in
theorem room_any (w : World) (p : Pv) : Calls Try.prog 56 #[p.val] w fun e w' => e = .returned (.bool p.room) ∧ Below w.heap.size w w' := by
  obtain ⟨u, b, k, s, wi, i, h, off, len, fin, on, held⟩ := p
  simp only [Pv.val, Pv.cells, Pv.room]
  generalize Value.slice on.a on.n on.c = on
  have HB := hid (below_grow (Below.refl w.heap.size w) (.cells #[.bool u, .bool b, .bool k, .int .u64 s, .int .i64 wi, .int .i64 i, .bool h, .int .u64 off, .int .i64 len, .bool fin, on, .bool held] 39))
  cases u with
  | false =>
    go_enter Try.func56, Try.ntmps56
    go_wp2
    go_ret
    exact ⟨rfl, HB.out⟩
  | true =>
    by_cases h1 : 1 ≤ wi
    · by_cases h2 : i < wi
      all_goals
        go_enter Try.func56, Try.ntmps56
        go_wp2
        go_ret
        exact ⟨by simp [h1, h2], HB.out⟩
    · go_enter Try.func56, Try.ntmps56
      go_wp2
      go_ret
      exact ⟨by have h2 : decide (1 ≤ wi) = false := by simpa using h1
                rw [h2]; rfl, HB.out⟩
end Go.Proofs.Ytdbdiebgjnofgab
