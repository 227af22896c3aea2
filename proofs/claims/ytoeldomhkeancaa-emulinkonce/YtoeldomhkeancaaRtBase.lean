import Derived.Test.YtoeldomhkeancaaProg
import Derived.Handy
import Derived.WalkKit
import Derived.WalkSpells
import Derived.WalkLawsBesides
import Derived.BigQuiet
import Derived.Deep.QuietTactic
import Derived.Deep.LoopGhost
import Derived.Deep.Draws
import Derived.RegionTactic
import Derived.Deep.Cut
import Derived.LoopN
import Derived.Laws.ResultCell
import Derived.Laws.BitsAllLaws
import Derived.Deep.MidRow
import Derived.Deep.WholeRow
import Derived.Deep.RegionWith
import Derived.BigRegion
import Derived.Laws.CopyRow
import Derived.Lib.MinMax
import Derived.StillTailTactics
import Derived.Deep.RegionHeld3
import Derived.Lib.QuietBelow
namespace Go.Proofs.Ytoeldomhkeancaa
open Go.RowKit
set_option maxRecDepth 100000

theorem rcell_kept {w w' : World} (hb : Below w.heap.size w w') {ad : Addr} {v : Value} (h : w.cell? ad = some v) : w'.cell? ad = some v :=
  (hb.cell (World.block_lt_of_cell? w ad h)).trans h
/-- Block g holds the cells c. -/
structure Row (w : World) (g : Nat) (c : List Value) (t : TypeId) : Prop where
  at_ : w.heap[g]? = some (.cells c.toArray t (0, 0))
section
variable {w w' : World} {g : Nat} {c : List Value} {t : TypeId}
theorem Row.cell (h : Row w g c t) (j : Nat) (v : Value) (hv : c[j]? = some v) : w.cell? ⟨g, j, none⟩ = some v := by
  rw [cell_of_row w g j _ t (0, 0) h.at_]; simpa using hv
theorem Row.frozen (h : Row w g c t) (j : Nat) : w.frozen? ⟨g, j, none⟩ = false := by
  simp [World.frozen?, h.at_]
theorem Row.lt (h : Row w g c t) : g < w.heap.size := (Array.getElem?_eq_some_iff.1 h.at_).1
theorem Row.of_block (h : Row w g c t) (e : w'.heap[g]? = w.heap[g]?) : Row w' g c t := ⟨e.trans h.at_⟩
theorem Row.kept {B : Nat} (h : Row w g c t) (hb : Below B w w') (hg : g < B) : Row w' g c t := ⟨(hb.block g hg).trans h.at_⟩
theorem Row.drew (h : Row w g c t) (n : Nat) : Row (w.drewN n) g c t := ⟨h.at_⟩
theorem Row.new (w : World) (c : List Value) (t : TypeId) : Row (w.alloc (.cells c.toArray t)) w.heap.size c t := ⟨heap_alloc_last w _⟩
theorem Row.new' (w : World) (arr : Array Value) (c : List Value) (t : TypeId) (g : Nat) (hg : g = w.heap.size) (h : c.toArray = arr) : Row (w.alloc (.cells arr t)) g c t := by
  subst hg; subst h; exact Row.new w c t
theorem Row.alloc (h : Row w g c t) (o : Obj) : Row (w.alloc o) g c t := ⟨(Below.heap_alloc w o g h.lt).trans h.at_⟩
theorem Row.set (h : Row w g c t) (j : Nat) (v : Value) : Row (w.setCell ⟨g, j, none⟩ v) g (c.set j v) t := by
  refine ⟨?_⟩
  rw [setCell_eq_setRow w g j c.toArray t (0, 0) v h.at_, setRow_heap w g _ _ t (0, 0) h.at_]
  simp
theorem Row.setOther (h : Row w g c t) (a : Addr) (hne : g ≠ a.block) (v : Value) : Row (w.setCell a v) g c t := ⟨(Below.heap_setCell w a v g hne).trans h.at_⟩
theorem Row.row (h : Row w g c t) (c' : List Value) : Row (w.setRow g c'.toArray) g c' t := ⟨setRow_heap w g _ _ t (0, 0) h.at_⟩
theorem Row.rowOther {g' : Nat} (h : Row w g c t) (hne : g ≠ g') (c' : Array Value) : Row (w.setRow g' c') g c t := ⟨(setRow_other w g' g c' hne).trans h.at_⟩
theorem Row.range (h : Row w g c t) (o : Nat) (l : List Value) (hl : ∀ j v, l[j]? = some v → c[o + j]? = some v) : w.rangeAt g o l :=
  fun j v hv => h.cell (o + j) v (hl j v hv)
theorem Row.there (h : Row w g c t) (o n : Nat) (hn : o + n ≤ c.length) : w.there g o n :=
  fun j hj => ⟨by rw [h.cell (o + j) (c[o + j]'(by omega)) (by simp)]; rfl, h.frozen _⟩
theorem Row.load {P : Program} (h : Row w g c t) (ty : TypeId) (d : TypeDesc) (hu : P.underlying ty = some d) (hd : (match d with | .struct _ | .array _ _ => true | _ => false) = true) (hi : (P.info? ty).map (·.size) = some c.length) :
    (Instr.loadAt ty (.pointer (some ⟨g, 0, none⟩))).run P w = .ok (.agg c.toArray) w := by
  simp only [Instr.loadAt, Instr.sureAddr, Sem.run_bind, Sem.run_pure, Result.andThen_ok, run_loadVar_row w g t ty c.toArray (0, 0) d h.at_ hu hd (by simpa using hi)]
theorem Row.store {P : Program} (h : Row w g c t) (ty : TypeId) (c' : List Value) (hl : c.length = c'.length) (h1 : ∀ v ∈ c', v.oneCell' = true) (hi : (P.info? ty).map (·.size) = some c'.length) :
    (Instr.storeAt ty (.pointer (some ⟨g, 0, none⟩)) (.agg c'.toArray)).run P w = .ok () (w.setRow g c'.toArray) := by
  simp only [Instr.storeAt, Instr.sureAddr, Sem.run_bind, Sem.run_pure, Result.andThen_ok, run_storeVar_row w g t ty c.toArray c'.toArray h.at_ (by simpa using hi) (by simpa using hl) (all_oneCell_toArray h1)]
theorem Row.result {P : Program} {fn : Func} {p : Tmp} {ty : TypeId} (h : Row w g c t) (hr : fn.results = #[.cell p ty]) (tmps : Array Value) (hp : tmps.getD p undef = .pointer (some ⟨g, 0, none⟩)) (d : TypeDesc)
    (hu : P.underlying ty = some d) (hd : (match d with | .struct _ | .array _ _ => true | _ => false) = true) (hi : (P.info? ty).map (·.size) = some c.length) : (results fn tmps).run P w = .ok (.agg c.toArray) w :=
  results_cell_row hr tmps w g t c.toArray (0, 0) d hp h.at_ hu hd (by simpa using hi)
theorem Row.wpLoad {P : Program} {ops : Array Oper} {rest : List Oper} {o : Oper} {a : Act} {Q : Exit → Act → World → Prop} (h : Row w g c t) (ty : TypeId) (x : Operand) (hgd : o.guard = none) (ho : o.op = .load ty x)
    (hx : a.eval x = .pointer (some ⟨g, 0, none⟩)) (d : TypeDesc) (hu : P.underlying ty = some d) (hd : (match d with | .struct _ | .array _ _ => true | _ => false) = true) (hi : (P.info? ty).map (·.size) = some c.length)
    (k : wpList P ops Q rest (a.put o.dst (.agg c.toArray)) w) : wpList P ops Q (o :: rest) a w :=
  wpList_load_row hgd ty x ho g hx t c.toArray (0, 0) d h.at_ hu hd (by simpa using hi) k
theorem Row.wpStore {P : Program} {ops : Array Oper} {rest : List Oper} {o : Oper} {a : Act} {Q : Exit → Act → World → Prop} (h : Row w g c t) (ty : TypeId) (x y : Operand) (c' : List Value) (hgd : o.guard = none) (ho : o.op = .store ty x y)
    (hx : a.eval x = .pointer (some ⟨g, 0, none⟩)) (hy : a.eval y = .agg c'.toArray) (hl : c.length = c'.length) (h1 : ∀ v ∈ c', v.oneCell' = true) (hi : (P.info? ty).map (·.size) = some c'.length)
    (k : wpList P ops Q rest (a.put o.dst undef) (w.setRow g c'.toArray)) : wpList P ops Q (o :: rest) a w :=
  wpList_store_row hgd ty x y ho g c'.toArray hx hy t c.toArray h.at_ (by simpa using hi) (by simpa using hl) (all_oneCell_toArray h1) k
theorem Row.wpStore' {P : Program} {ops : Array Oper} {rest : List Oper} {o : Oper} {a : Act} {Q : Exit → Act → World → Prop} (h : Row w g c t) (ty : TypeId) (x y : Operand) (c' : List Value) (hgd : o.guard = none) (ho : o.op = .store ty x y)
    (hx : a.eval x = .pointer (some ⟨g, 0, none⟩)) (hy : a.eval y = .agg c'.toArray) (hl : c.length = c'.length) (h1 : ∀ v ∈ c', v.oneCell' = true) (hi : (P.info? ty).map (·.size) = some c'.length)
    (k : ∀ w', Hid (w' = w.setRow g c'.toArray) → wpList P ops Q rest (a.put o.dst undef) w') : wpList P ops Q (o :: rest) a w :=
  h.wpStore ty x y c' hgd ho hx hy hl h1 hi (k _ rfl)
theorem Row.drawn (h : Row w g c t) (n : Nat) : Row { w with drawn := n } g c t := ⟨h.at_⟩
end

theorem cell_drawn {w : World} {a : Addr} {v : Value} (n : Nat) (h : w.cell? a = some v) : ({ w with drawn := n } : World).cell? a = some v := h
theorem frozen_drawn {w : World} {a : Addr} {v : Bool} (n : Nat) (h : w.frozen? a = v) : ({ w with drawn := n } : World).frozen? a = v := h
theorem below_drawn {B : Nat} {a w : World} (h : Below B a w) (n : Nat) : Below B a { w with drawn := n } := ⟨h.os, h.tape, h.output, h.size, h.block⟩
/-- Of the blocks that were there, those in S alone may have turned. -/
structure Only (S : List Nat) (w w' : World) : Prop where
  os : w'.os = w.os
  tape : w'.tape = w.tape
  output : w'.output = w.output
  size : w.heap.size ≤ w'.heap.size
  block : ∀ k, k < w.heap.size → k ∉ S → w'.heap[k]? = w.heap[k]?
section
variable {S T : List Nat} {w w' w'' : World}
theorem Only.refl (S : List Nat) (w : World) : Only S w w := ⟨rfl, rfl, rfl, Nat.le_refl _, fun _ _ _ => rfl⟩
/-- A second turn may touch what is new, too. -/
theorem Only.trans (h : Only S w w') (k : Only T w' w'') (hT : ∀ x ∈ T, x ∈ S ∨ w.heap.size ≤ x) : Only S w w'' :=
  ⟨k.os.trans h.os, k.tape.trans h.tape, k.output.trans h.output, Nat.le_trans h.size k.size, fun i hi hp => (k.block i (Nat.lt_of_lt_of_le hi h.size) (fun hm => by rcases hT i hm with h1 | h1; exact hp h1; omega)).trans (h.block i hi hp)⟩
theorem Only.wider (h : Only S w w') (hT : ∀ x ∈ S, x ∈ T) : Only T w w' := ⟨h.os, h.tape, h.output, h.size, fun k hk hp => h.block k hk (fun hm => hp (hT k hm))⟩
theorem Only.of_below {B : Nat} (h : Below B w w') (hB : w.heap.size ≤ B) : Only S w w' := ⟨h.os, h.tape, h.output, h.size, fun k hk _ => h.block k (by omega)⟩
theorem Only.setCell (h : Only S w w') (p o : Nat) (v : Value) (hp : p ∈ S ∨ w.heap.size ≤ p) : Only S w (w'.setCell ⟨p, o, none⟩ v) :=
  ⟨h.os, h.tape, h.output, by simp [World.setCell]; exact h.size, fun k hk hs => (Below.heap_setCell w' ⟨p, o, none⟩ v k (fun e => by subst e; rcases hp with h1 | h1; exact hs h1; omega)).trans (h.block k hk hs)⟩
theorem Only.setRow (h : Only S w w') (p : Nat) (cs : Array Value) (hp : p ∈ S ∨ w.heap.size ≤ p) : Only S w (w'.setRow p cs) :=
  ⟨h.os, h.tape, h.output, by rw [setRow_size]; exact h.size, fun k hk hs => (setRow_other w' p k cs (fun e => by subst e; rcases hp with h1 | h1; exact hs h1; omega)).trans (h.block k hk hs)⟩
theorem Only.drawn (h : Only S w w') (n : Nat) : Only S w { w' with drawn := n } := ⟨h.os, h.tape, h.output, h.size, h.block⟩
theorem Only.drew (h : Only S w w') (n : Nat) : Only S w (w'.drewN n) := ⟨h.os, h.tape, h.output, h.size, h.block⟩
theorem Only.alloc (h : Only S w w') (o : Obj) : Only S w (w'.alloc o) :=
  ⟨h.os, h.tape, h.output, Nat.le_trans h.size ((Below.refl w'.heap.size w').alloc (Nat.le_refl _) o).size, fun k hk hs => (Below.heap_alloc w' o k (Nat.lt_of_lt_of_le hk h.size)).trans (h.block k hk hs)⟩
theorem Only.below {B : Nat} (h : Only S w w') (hB : B ≤ w.heap.size) (hp : ∀ x ∈ S, B ≤ x) : Below B w w' := ⟨h.os, h.tape, h.output, h.size, fun k hk => h.block k (by omega) (fun hm => by have := hp k hm; omega)⟩
theorem Only.cell (h : Only S w w') {a : Addr} {v : Value} (hc : w.cell? a = some v) (hp : a.block ∉ S) : w'.cell? a = some v :=
  (World.cell?_of_block (w := w) (h.block a.block (World.block_lt_of_cell? w a hc) hp)).trans hc
theorem Only.row {g : Nat} {c : List Value} {t : TypeId} (h : Only S w w') (R : Row w g c t) (hg : g ∉ S) : Row w' g c t := R.of_block (h.block g R.lt hg)
end
theorem below_setRow {B g : Nat} {w w' : World} (h : Below B w w') (hg : B ≤ g) (cs : Array Value) : Below B w (w'.setRow g cs) :=
  ⟨h.os, h.tape, h.output, by rw [setRow_size]; exact h.size, fun k hk => (setRow_other w' g k cs (by omega)).trans (h.block k hk)⟩
theorem Row.setCells {g : Nat} {t : TypeId} : ∀ (vs : List Value) (o : Nat) {w : World} {c : List Value}, Row w g c t → o + vs.length ≤ c.length → Row (w.setCells g o vs) g (c.take o ++ vs ++ c.drop (o + vs.length)) t
  | [], o, w, c, h, _ => by simpa [World.setCells] using h
  | v :: r, o, w, c, h, hl => by
    have hl' : o + (r.length + 1) ≤ c.length := by simpa using hl
    have := Row.setCells r (o + 1) (h.set o v) (by simp; omega)
    rw [list_seg_step c o v r hl'] at this
    exact this
theorem Below.setCells {B g : Nat} (hg : B ≤ g) : ∀ (vs : List Value) (o : Nat) {w w' : World}, Below B w w' → Below B w (w'.setCells g o vs)
  | [], _, _, _, h => h
  | v :: r, o, _, _, h => Below.setCells hg r (o + 1) (h.setCell hg v)
theorem Only.setCells {S : List Nat} {g : Nat} : ∀ (vs : List Value) (o : Nat) {w w' : World}, Only S w w' → (g ∈ S ∨ w.heap.size ≤ g) → Only S w (w'.setCells g o vs)
  | [], _, _, _, h, _ => h
  | v :: r, o, _, _, h, hg => Only.setCells r (o + 1) (h.setCell g o v hg) hg
theorem Row.cellsOther {g : Nat} {c : List Value} {t : TypeId} {g' : Nat} (hne : g ≠ g') : ∀ (vs : List Value) (o : Nat) {w : World}, Row w g c t → Row (w.setCells g' o vs) g c t
  | [], _, _, h => h
  | v :: r, o, _, h => Row.cellsOther hne r (o + 1) (h.setOther ⟨g', o, none⟩ hne v)
theorem below_grow {w w' : World} (h : Below w.heap.size w w') (o : Obj) : Below w.heap.size w (w'.alloc o) := h.alloc h.size o
theorem hid {p : Prop} (h : p) : Hid p := h
theorem wp_world {code : Code} {Q : Exit → Act → World → Prop} {a : Act} {w : World} (h : ∀ w0, Hid (w0 = w) → code.wp Try.prog Q a w0) : code.wp Try.prog Q a w := h w rfl
end Go.Proofs.Ytoeldomhkeancaa
