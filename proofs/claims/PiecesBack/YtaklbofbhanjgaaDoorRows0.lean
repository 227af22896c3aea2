import Derived.Test.YtaklbofbhanjgaaDoorCrc
import Derived.Deep.MidRow
import Derived.Deep.WholeRow
import Derived.Deep.RegionWith
import Derived.BigRegion
import Derived.Great.Ranges
import Derived.Laws.CopyRow
namespace Go.Proofs.YtaklbofbhanjgaaDoor
open Go.RowKit

/-- Block g holds the cells c. -/
structure Row (w : World) (g : Nat) (c : List Value) (t : TypeId) : Prop where
  at_ : w.heap[g]? = some (.cells c.toArray t (0, 0))
section
variable {w w' : World} {g : Nat} {c : List Value} {t : TypeId}
theorem Row.cell (h : Row w g c t) (j : Nat) (v : Value) (hv : c[j]? = some v) : w.cell? ⟨g, j, none⟩ = some v := by
  rw [cell_of_row w g j _ t (0, 0) h.at_]; simpa using hv
theorem Row.frozen (h : Row w g c t) (j : Nat) : w.frozen? ⟨g, j, none⟩ = false := by
  simp [World.frozen?, h.at_]
theorem Row.lt (h : Row w g c t) : g < w.heap.size := (Array.getElem?_eq_some_iff.1 h.at_).1
theorem Row.of_block (h : Row w g c t) (e : w'.heap[g]? = w.heap[g]?) : Row w' g c t := ⟨e.trans h.at_⟩
theorem Row.kept {B : Nat} (h : Row w g c t) (hb : Below B w w') (hg : g < B) : Row w' g c t := ⟨(hb.block g hg).trans h.at_⟩
theorem Row.drew (h : Row w g c t) (n : Nat) : Row (w.drewN n) g c t := ⟨h.at_⟩
theorem Row.new (w : World) (c : List Value) (t : TypeId) : Row (w.alloc (.cells c.toArray t)) w.heap.size c t := ⟨heap_alloc_last w _⟩
theorem Row.new' (w : World) (arr : Array Value) (c : List Value) (t : TypeId) (g : Nat) (hg : g = w.heap.size) (h : c.toArray = arr) : Row (w.alloc (.cells arr t)) g c t := by
  subst hg; subst h; exact Row.new w c t
theorem Row.alloc (h : Row w g c t) (o : Obj) : Row (w.alloc o) g c t := ⟨(Below.heap_alloc w o g h.lt).trans h.at_⟩
theorem Row.set (h : Row w g c t) (j : Nat) (v : Value) : Row (w.setCell ⟨g, j, none⟩ v) g (c.set j v) t := by
  refine ⟨?_⟩
  rw [setCell_eq_setRow w g j c.toArray t (0, 0) v h.at_, setRow_heap w g _ _ t (0, 0) h.at_]
  simp
theorem Row.setOther (h : Row w g c t) (a : Addr) (hne : g ≠ a.block) (v : Value) : Row (w.setCell a v) g c t := ⟨(Below.heap_setCell w a v g hne).trans h.at_⟩
theorem Row.row (h : Row w g c t) (c' : List Value) : Row (w.setRow g c'.toArray) g c' t := ⟨setRow_heap w g _ _ t (0, 0) h.at_⟩
theorem Row.rowOther {g' : Nat} (h : Row w g c t) (hne : g ≠ g') (c' : Array Value) : Row (w.setRow g' c') g c t := ⟨(setRow_other w g' g c' hne).trans h.at_⟩
theorem Row.range (h : Row w g c t) (o : Nat) (l : List Value) (hl : ∀ j v, l[j]? = some v → c[o + j]? = some v) : w.rangeAt g o l :=
  fun j v hv => h.cell (o + j) v (hl j v hv)
theorem Row.there (h : Row w g c t) (o n : Nat) (hn : o + n ≤ c.length) : w.there g o n :=
  fun j hj => ⟨by rw [h.cell (o + j) (c[o + j]'(by omega)) (by simp)]; rfl, h.frozen _⟩
theorem Row.load {P : Program} (h : Row w g c t) (ty : TypeId) (d : TypeDesc) (hu : P.underlying ty = some d) (hd : (match d with | .struct _ | .array _ _ => true | _ => false) = true) (hi : (P.info? ty).map (·.size) = some c.length) :
    (Instr.loadAt ty (.pointer (some ⟨g, 0, none⟩))).run P w = .ok (.agg c.toArray) w := by
  simp only [Instr.loadAt, Instr.sureAddr, Sem.run_bind, Sem.run_pure, Result.andThen_ok, run_loadVar_row w g t ty c.toArray (0, 0) d h.at_ hu hd (by simpa using hi)]
theorem Row.store {P : Program} (h : Row w g c t) (ty : TypeId) (c' : List Value) (hl : c.length = c'.length) (h1 : ∀ v ∈ c', v.oneCell' = true) (hi : (P.info? ty).map (·.size) = some c'.length) :
    (Instr.storeAt ty (.pointer (some ⟨g, 0, none⟩)) (.agg c'.toArray)).run P w = .ok () (w.setRow g c'.toArray) := by
  simp only [Instr.storeAt, Instr.sureAddr, Sem.run_bind, Sem.run_pure, Result.andThen_ok, run_storeVar_row w g t ty c.toArray c'.toArray h.at_ (by simpa using hi) (by simpa using hl) (all_oneCell_toArray h1)]
theorem Row.result {P : Program} {fn : Func} {p : Tmp} {ty : TypeId} (h : Row w g c t) (hr : fn.results = #[.cell p ty]) (tmps : Array Value) (hp : tmps.getD p undef = .pointer (some ⟨g, 0, none⟩)) (d : TypeDesc)
    (hu : P.underlying ty = some d) (hd : (match d with | .struct _ | .array _ _ => true | _ => false) = true) (hi : (P.info? ty).map (·.size) = some c.length) : (results fn tmps).run P w = .ok (.agg c.toArray) w :=
  results_cell_row hr tmps w g t c.toArray (0, 0) d hp h.at_ hu hd (by simpa using hi)
theorem Row.wpLoad {P : Program} {ops : Array Oper} {rest : List Oper} {o : Oper} {a : Act} {Q : Exit → Act → World → Prop} (h : Row w g c t) (ty : TypeId) (x : Operand) (hgd : o.guard = none) (ho : o.op = .load ty x)
    (hx : a.eval x = .pointer (some ⟨g, 0, none⟩)) (d : TypeDesc) (hu : P.underlying ty = some d) (hd : (match d with | .struct _ | .array _ _ => true | _ => false) = true) (hi : (P.info? ty).map (·.size) = some c.length)
    (k : wpList P ops Q rest (a.put o.dst (.agg c.toArray)) w) : wpList P ops Q (o :: rest) a w :=
  wpList_load_row hgd ty x ho g hx t c.toArray (0, 0) d h.at_ hu hd (by simpa using hi) k
theorem Row.wpStore {P : Program} {ops : Array Oper} {rest : List Oper} {o : Oper} {a : Act} {Q : Exit → Act → World → Prop} (h : Row w g c t) (ty : TypeId) (x y : Operand) (c' : List Value) (hgd : o.guard = none) (ho : o.op = .store ty x y)
    (hx : a.eval x = .pointer (some ⟨g, 0, none⟩)) (hy : a.eval y = .agg c'.toArray) (hl : c.length = c'.length) (h1 : ∀ v ∈ c', v.oneCell' = true) (hi : (P.info? ty).map (·.size) = some c'.length)
    (k : wpList P ops Q rest (a.put o.dst undef) (w.setRow g c'.toArray)) : wpList P ops Q (o :: rest) a w :=
  wpList_store_row hgd ty x y ho g c'.toArray hx hy t c.toArray h.at_ (by simpa using hi) (by simpa using hl) (all_oneCell_toArray h1) k
theorem Row.wpStore' {P : Program} {ops : Array Oper} {rest : List Oper} {o : Oper} {a : Act} {Q : Exit → Act → World → Prop} (h : Row w g c t) (ty : TypeId) (x y : Operand) (c' : List Value) (hgd : o.guard = none) (ho : o.op = .store ty x y)
    (hx : a.eval x = .pointer (some ⟨g, 0, none⟩)) (hy : a.eval y = .agg c'.toArray) (hl : c.length = c'.length) (h1 : ∀ v ∈ c', v.oneCell' = true) (hi : (P.info? ty).map (·.size) = some c'.length)
    (k : ∀ w', Hid (w' = w.setRow g c'.toArray) → wpList P ops Q rest (a.put o.dst undef) w') : wpList P ops Q (o :: rest) a w :=
  h.wpStore ty x y c' hgd ho hx hy hl h1 hi (k _ rfl)
theorem Row.drawn (h : Row w g c t) (n : Nat) : Row { w with drawn := n } g c t := ⟨h.at_⟩
end

theorem cell_drawn {w : World} {a : Addr} {v : Value} (n : Nat) (h : w.cell? a = some v) : ({ w with drawn := n } : World).cell? a = some v := h
theorem frozen_drawn {w : World} {a : Addr} {v : Bool} (n : Nat) (h : w.frozen? a = v) : ({ w with drawn := n } : World).frozen? a = v := h
theorem below_drawn {B : Nat} {a w : World} (h : Below B a w) (n : Nat) : Below B a { w with drawn := n } := ⟨h.os, h.tape, h.output, h.size, h.block⟩
def wv (x : BitVec 32) : Value := .int .u32 (u x)
def bv (x : BitVec 8) : Value := .int .u8 (ub x)
/-- The cells of words, of bytes. -/
def wcells (l : List (BitVec 32)) : List Value := l.map wv
def bcells (l : List (BitVec 8)) : List Value := l.map bv
theorem wcells_get {l : List (BitVec 32)} {j : Nat} (h : j < l.length) : (wcells l)[j]? = some (.int .u32 (u l[j])) := by simp [wcells, wv, h]
theorem bcells_get {l : List (BitVec 8)} {j : Nat} (h : j < l.length) : (bcells l)[j]? = some (.int .u8 (ub l[j])) := by simp [bcells, bv, h]
theorem wcells_set (l : List (BitVec 32)) (j : Nat) (x : BitVec 32) : (wcells l).set j (.int .u32 (u x)) = wcells (l.set j x) := by simp [wcells, wv, List.map_set]
theorem bcells_set (l : List (BitVec 8)) (j : Nat) (x : BitVec 8) : (bcells l).set j (.int .u8 (ub x)) = bcells (l.set j x) := by simp [bcells, bv, List.map_set]
theorem wcells_one (l : List (BitVec 32)) : ∀ v ∈ wcells l, v.oneCell' = true := by
  intro v hv; obtain ⟨x, _, rfl⟩ := List.mem_map.1 hv; rfl
theorem bcells_one (l : List (BitVec 8)) : ∀ v ∈ bcells l, v.oneCell' = true := by
  intro v hv; obtain ⟨x, _, rfl⟩ := List.mem_map.1 hv; rfl
theorem wcells_len (l : List (BitVec 32)) : (wcells l).length = l.length := by simp [wcells]
theorem bcells_len (l : List (BitVec 8)) : (bcells l).length = l.length := by simp [bcells]
end Go.Proofs.YtaklbofbhanjgaaDoor
