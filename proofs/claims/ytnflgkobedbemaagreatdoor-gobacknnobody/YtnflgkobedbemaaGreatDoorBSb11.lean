import Derived.Test.YtnflgkobedbemaaGreatDoorProg
import Derived.WalkKit
import Derived.WalkSpells
import Derived.WalkLawsBesides
import Derived.BigQuiet
import Derived.Deep.QuietTactic
import Derived.Deep.LoopGhost
import Derived.Deep.Draws
import Derived.RegionTactic
import Derived.Deep.Cut
import Derived.LoopN
import Derived.Laws.ResultCell
import Derived.Laws.BitsAllLaws
import Derived.Deep.MidRow
import Derived.Deep.WholeRow
import Derived.Deep.RegionWith
import Derived.BigRegion
import Derived.Laws.CopyRow
import Derived.Lib.MinMax
import Derived.StillTailTactics
import Derived.Deep.RegionHeld3
import Derived.Lib.QuietBelow
import Derived.Laws.IdiomStrings
import Derived.Laws.Strings
import Derived.Shelf.Abstract
import Derived.Maps.AppendAt
import Derived.WalkMore
import Derived.Laws.Closers25b
namespace Go.Proofs.YtnflgkobedbemaaGreatDoor.Snd
open Go.RowKit
set_option maxRecDepth 100000

/-- Block g holds the cells c. -/
structure Row (w : World) (g : Nat) (c : List Value) (t : TypeId) : Prop where
  at_ : w.heap[g]? = some (.cells c.toArray t (0, 0))
section
variable {w w' : World} {g : Nat} {c : List Value} {t : TypeId}
theorem Row.cell (h : Row w g c t) (j : Nat) (v : Value) (hv : c[j]? = some v) : w.cell? ⟨g, j, none⟩ = some v := by
  rw [cell_of_row w g j _ t (0, 0) h.at_]; simpa using hv
theorem Row.frozen (h : Row w g c t) (j : Nat) : w.frozen? ⟨g, j, none⟩ = false := by
  simp [World.frozen?, h.at_]
theorem Row.lt (h : Row w g c t) : g < w.heap.size := (Array.getElem?_eq_some_iff.1 h.at_).1
theorem Row.of_block (h : Row w g c t) (e : w'.heap[g]? = w.heap[g]?) : Row w' g c t := ⟨e.trans h.at_⟩
theorem Row.kept {B : Nat} (h : Row w g c t) (hb : Below B w w') (hg : g < B) : Row w' g c t := ⟨(hb.block g hg).trans h.at_⟩
theorem Row.new (w : World) (c : List Value) (t : TypeId) : Row (w.alloc (.cells c.toArray t)) w.heap.size c t := ⟨heap_alloc_last w _⟩
theorem Row.new' (w : World) (arr : Array Value) (c : List Value) (t : TypeId) (g : Nat) (hg : g = w.heap.size) (h : c.toArray = arr) : Row (w.alloc (.cells arr t)) g c t := by
  subst hg; subst h; exact Row.new w c t
theorem Row.alloc (h : Row w g c t) (o : Obj) : Row (w.alloc o) g c t := ⟨(Below.heap_alloc w o g h.lt).trans h.at_⟩
theorem Row.set (h : Row w g c t) (j : Nat) (v : Value) : Row (w.setCell ⟨g, j, none⟩ v) g (c.set j v) t := by
  refine ⟨?_⟩
  rw [setCell_eq_setRow w g j c.toArray t (0, 0) v h.at_, setRow_heap w g _ _ t (0, 0) h.at_]
  simp
theorem Row.setOther (h : Row w g c t) (a : Addr) (hne : g ≠ a.block) (v : Value) : Row (w.setCell a v) g c t := ⟨(Below.heap_setCell w a v g hne).trans h.at_⟩
theorem Row.row (h : Row w g c t) (c' : List Value) : Row (w.setRow g c'.toArray) g c' t := ⟨setRow_heap w g _ _ t (0, 0) h.at_⟩
theorem Row.rowOther {g' : Nat} (h : Row w g c t) (hne : g ≠ g') (c' : Array Value) : Row (w.setRow g' c') g c t := ⟨(setRow_other w g' g c' hne).trans h.at_⟩
theorem Row.range (h : Row w g c t) (o : Nat) (l : List Value) (hl : ∀ j v, l[j]? = some v → c[o + j]? = some v) : w.rangeAt g o l :=
  fun j v hv => h.cell (o + j) v (hl j v hv)
theorem Row.load {P : Program} (h : Row w g c t) (ty : TypeId) (d : TypeDesc) (hu : P.underlying ty = some d) (hd : (match d with | .struct _ | .array _ _ => true | _ => false) = true) (hi : (P.info? ty).map (·.size) = some c.length) :
    (Instr.loadAt ty (.pointer (some ⟨g, 0, none⟩))).run P w = .ok (.agg c.toArray) w := by
  simp only [Instr.loadAt, Instr.sureAddr, Sem.run_bind, Sem.run_pure, Result.andThen_ok, run_loadVar_row w g t ty c.toArray (0, 0) d h.at_ hu hd (by simpa using hi)]
theorem Row.store {P : Program} (h : Row w g c t) (ty : TypeId) (c' : List Value) (hl : c.length = c'.length) (h1 : ∀ v ∈ c', v.oneCell' = true) (hi : (P.info? ty).map (·.size) = some c'.length) :
    (Instr.storeAt ty (.pointer (some ⟨g, 0, none⟩)) (.agg c'.toArray)).run P w = .ok () (w.setRow g c'.toArray) := by
  simp only [Instr.storeAt, Instr.sureAddr, Sem.run_bind, Sem.run_pure, Result.andThen_ok, run_storeVar_row w g t ty c.toArray c'.toArray h.at_ (by simpa using hi) (by simpa using hl) (all_oneCell_toArray h1)]
theorem Row.result {P : Program} {fn : Func} {p : Tmp} {ty : TypeId} (h : Row w g c t) (hr : fn.results = #[.cell p ty]) (tmps : Array Value) (hp : tmps.getD p undef = .pointer (some ⟨g, 0, none⟩)) (d : TypeDesc)
    (hu : P.underlying ty = some d) (hd : (match d with | .struct _ | .array _ _ => true | _ => false) = true) (hi : (P.info? ty).map (·.size) = some c.length) : (results fn tmps).run P w = .ok (.agg c.toArray) w :=
  results_cell_row hr tmps w g t c.toArray (0, 0) d hp h.at_ hu hd (by simpa using hi)
theorem Row.wpLoad {P : Program} {ops : Array Oper} {rest : List Oper} {o : Oper} {a : Act} {Q : Exit → Act → World → Prop} (h : Row w g c t) (ty : TypeId) (x : Operand) (hgd : o.guard = none) (ho : o.op = .load ty x)
    (hx : a.eval x = .pointer (some ⟨g, 0, none⟩)) (d : TypeDesc) (hu : P.underlying ty = some d) (hd : (match d with | .struct _ | .array _ _ => true | _ => false) = true) (hi : (P.info? ty).map (·.size) = some c.length)
    (k : wpList P ops Q rest (a.put o.dst (.agg c.toArray)) w) : wpList P ops Q (o :: rest) a w :=
  wpList_load_row hgd ty x ho g hx t c.toArray (0, 0) d h.at_ hu hd (by simpa using hi) k
theorem Row.wpStore {P : Program} {ops : Array Oper} {rest : List Oper} {o : Oper} {a : Act} {Q : Exit → Act → World → Prop} (h : Row w g c t) (ty : TypeId) (x y : Operand) (c' : List Value) (hgd : o.guard = none) (ho : o.op = .store ty x y)
    (hx : a.eval x = .pointer (some ⟨g, 0, none⟩)) (hy : a.eval y = .agg c'.toArray) (hl : c.length = c'.length) (h1 : ∀ v ∈ c', v.oneCell' = true) (hi : (P.info? ty).map (·.size) = some c'.length)
    (k : wpList P ops Q rest (a.put o.dst undef) (w.setRow g c'.toArray)) : wpList P ops Q (o :: rest) a w :=
  wpList_store_row hgd ty x y ho g c'.toArray hx hy t c.toArray h.at_ (by simpa using hi) (by simpa using hl) (all_oneCell_toArray h1) k
theorem Row.wpStore' {P : Program} {ops : Array Oper} {rest : List Oper} {o : Oper} {a : Act} {Q : Exit → Act → World → Prop} (h : Row w g c t) (ty : TypeId) (x y : Operand) (c' : List Value) (hgd : o.guard = none) (ho : o.op = .store ty x y)
    (hx : a.eval x = .pointer (some ⟨g, 0, none⟩)) (hy : a.eval y = .agg c'.toArray) (hl : c.length = c'.length) (h1 : ∀ v ∈ c', v.oneCell' = true) (hi : (P.info? ty).map (·.size) = some c'.length)
    (k : ∀ w', Hid (w' = w.setRow g c'.toArray) → wpList P ops Q rest (a.put o.dst undef) w') : wpList P ops Q (o :: rest) a w :=
  h.wpStore ty x y c' hgd ho hx hy hl h1 hi (k _ rfl)
theorem Row.drawn (h : Row w g c t) (n : Nat) : Row { w with drawn := n } g c t := ⟨h.at_⟩
end

theorem cell_drawn {w : World} {a : Addr} {v : Value} (n : Nat) (h : w.cell? a = some v) : ({ w with drawn := n } : World).cell? a = some v := h
theorem frozen_drawn {w : World} {a : Addr} {v : Bool} (n : Nat) (h : w.frozen? a = v) : ({ w with drawn := n } : World).frozen? a = v := h
theorem below_drawn {B : Nat} {a w : World} (h : Below B a w) (n : Nat) : Below B a { w with drawn := n } := ⟨h.os, h.tape, h.output, h.size, h.block⟩
/-- Of the blocks that were there, those in S alone may have turned. -/
structure Only (S : List Nat) (w w' : World) : Prop where
  os : w'.os = w.os
  tape : w'.tape = w.tape
  output : w'.output = w.output
  size : w.heap.size ≤ w'.heap.size
  block : ∀ k, k < w.heap.size → k ∉ S → w'.heap[k]? = w.heap[k]?
section
variable {S T : List Nat} {w w' w'' : World}
theorem Only.refl (S : List Nat) (w : World) : Only S w w := ⟨rfl, rfl, rfl, Nat.le_refl _, fun _ _ _ => rfl⟩
/-- A second turn may touch what is new, too. -/
theorem Only.trans (h : Only S w w') (k : Only T w' w'') (hT : ∀ x ∈ T, x ∈ S ∨ w.heap.size ≤ x) : Only S w w'' :=
  ⟨k.os.trans h.os, k.tape.trans h.tape, k.output.trans h.output, Nat.le_trans h.size k.size, fun i hi hp => (k.block i (Nat.lt_of_lt_of_le hi h.size) (fun hm => by rcases hT i hm with h1 | h1; exact hp h1; omega)).trans (h.block i hi hp)⟩
theorem Only.of_below {B : Nat} (h : Below B w w') (hB : w.heap.size ≤ B) : Only S w w' := ⟨h.os, h.tape, h.output, h.size, fun k hk _ => h.block k (by omega)⟩
theorem Only.setCell (h : Only S w w') (p o : Nat) (v : Value) (hp : p ∈ S ∨ w.heap.size ≤ p) : Only S w (w'.setCell ⟨p, o, none⟩ v) :=
  ⟨h.os, h.tape, h.output, by simp [World.setCell]; exact h.size, fun k hk hs => (Below.heap_setCell w' ⟨p, o, none⟩ v k (fun e => by subst e; rcases hp with h1 | h1; exact hs h1; omega)).trans (h.block k hk hs)⟩
theorem Only.setRow (h : Only S w w') (p : Nat) (cs : Array Value) (hp : p ∈ S ∨ w.heap.size ≤ p) : Only S w (w'.setRow p cs) :=
  ⟨h.os, h.tape, h.output, by rw [setRow_size]; exact h.size, fun k hk hs => (setRow_other w' p k cs (fun e => by subst e; rcases hp with h1 | h1; exact hs h1; omega)).trans (h.block k hk hs)⟩
theorem Only.drawn (h : Only S w w') (n : Nat) : Only S w { w' with drawn := n } := ⟨h.os, h.tape, h.output, h.size, h.block⟩
theorem Only.alloc (h : Only S w w') (o : Obj) : Only S w (w'.alloc o) :=
  ⟨h.os, h.tape, h.output, Nat.le_trans h.size ((Below.refl w'.heap.size w').alloc (Nat.le_refl _) o).size, fun k hk hs => (Below.heap_alloc w' o k (Nat.lt_of_lt_of_le hk h.size)).trans (h.block k hk hs)⟩
theorem Only.below {B : Nat} (h : Only S w w') (hB : B ≤ w.heap.size) (hp : ∀ x ∈ S, B ≤ x) : Below B w w' := ⟨h.os, h.tape, h.output, h.size, fun k hk => h.block k (by omega) (fun hm => by have := hp k hm; omega)⟩
theorem Only.cell (h : Only S w w') {a : Addr} {v : Value} (hc : w.cell? a = some v) (hp : a.block ∉ S) : w'.cell? a = some v :=
  (World.cell?_of_block (w := w) (h.block a.block (World.block_lt_of_cell? w a hc) hp)).trans hc
theorem Only.row {g : Nat} {c : List Value} {t : TypeId} (h : Only S w w') (R : Row w g c t) (hg : g ∉ S) : Row w' g c t := R.of_block (h.block g R.lt hg)
end
theorem hid {p : Prop} (h : p) : Hid p := h
theorem wp_world {code : Code} {Q : Exit → Act → World → Prop} {a : Act} {w : World} (h : ∀ w0, Hid (w0 = w) → code.wp Tryz.prog Q a w0) : code.wp Tryz.prog Q a w := h w rfl
end Go.Proofs.YtnflgkobedbemaaGreatDoor.Snd

namespace Go.Proofs.YtnflgkobedbemaaGreatDoor.Snd
open Go.RowKit
set_option maxRecDepth 100000

/-- A stretch: from its first number on, ahead of its second. -/
abbrev Rg := Int × Int
/-- A set's stretches, as they must be: none empty, rising, apart. -/
def Fit (L : List Rg) : Prop := (∀ r ∈ L, 0 ≤ r.1 ∧ r.1 < r.2 ∧ r.2 ≤ 18446744073709551615) ∧ L.Pairwise (fun a b => a.2 < b.1)
theorem Fit.lt {L : List Rg} (h : Fit L) (i j : Nat) (hij : i < j) (hj : j < L.length) : (L[i]).2 < (L[j]).1 := (List.pairwise_iff_getElem.1 h.2) i j (by omega) hj hij
/-- What reading functions take: where the list's head lies, and its cells. -/
structure View (w : World) (p : Nat) (a : Option Addr) (cap : Nat) (L : List Rg) : Prop where
  head : w.cell? ⟨p, 0, none⟩ = some (.slice a L.length cap)
  row : ∀ i (h : i < L.length), ∃ g, a = some ⟨g, 0, none⟩ ∧ w.cell? ⟨g, i * 2, none⟩ = some (.int .u64 (L[i]).1) ∧ w.cell? ⟨g, i * 2 + 1, none⟩ = some (.int .u64 (L[i]).2)
  le : L.length ≤ cap
  cp : cap ≤ maxLen
  few : L.length < 1152921504606846976
  shape : (a = none ∧ cap = 0) ∨ ∃ g, a = some ⟨g, 0, none⟩

theorem cell_kept {w w' : World} (hb : Below w.heap.size w w') {ad : Addr} {v : Value} (h : w.cell? ad = some v) : w'.cell? ad = some v :=
  (hb.cell (World.block_lt_of_cell? w ad h)).trans h

theorem View.kept {w w' : World} {p : Nat} {a : Option Addr} {cap : Nat} {L : List Rg} (V : View w p a cap L) (hb : Below w.heap.size w w') : View w' p a cap L :=
  ⟨cell_kept hb V.head, fun i h => by obtain ⟨g, h1, h2, h3⟩ := V.row i h; exact ⟨g, h1, cell_kept hb h2, cell_kept hb h3⟩, V.le, V.cp, V.few, V.shape⟩
theorem below_drewN {B : Nat} {a w : World} (h : Below B a w) (q : Nat) : Below B a (w.drewN q) := ⟨h.os, h.tape, h.output, h.size, h.block⟩

end Go.Proofs.YtnflgkobedbemaaGreatDoor.Snd

namespace Go.Proofs.YtnflgkobedbemaaGreatDoor.Snd
open Go.RowKit
set_option maxRecDepth 100000

/-- A byte as the number that a cell holds. -/
def ub (x : BitVec 8) : Int := (x.toNat : Int)
theorem ub_ofInt (x : BitVec 8) : BitVec.ofInt 8 (ub x) = x := by
  unfold ub
  rw [BitVec.ofInt_natCast, BitVec.ofNat_toNat, BitVec.setWidth_eq]
theorem ub_wrap (n : Int) : IntKind.u8.wrap n = ub (BitVec.ofInt 8 n) := by
  rw [IntKind.wrap_u8', ub, BitVec.toNat_ofInt]
  omega
@[go_sem] theorem ub_wrap_ub (x : BitVec 8) : IntKind.u8.wrap (ub x) = ub x := by rw [ub_wrap, ub_ofInt]
@[go_sem] theorem ub_xor (x y : BitVec 8) : bits .xor .u8 (ub x) (ub y) = ub (x ^^^ y) := by
  show IntKind.u8.wrap ((BitVec.ofInt 8 (ub x) ^^^ BitVec.ofInt 8 (ub y)).toNat : Int) = _
  rw [ub_ofInt, ub_ofInt]; exact ub_wrap_ub _

/-- The bytes lie from address a on. -/
def BytesAt (w : World) (a : Option Addr) (bs : List (BitVec 8)) : Prop :=
  ∀ k (h : k < bs.length), ∃ g o, a = some ⟨g, o, none⟩ ∧ w.cell? ⟨g, o + k, none⟩ = some (.int .u8 (ub bs[k]))
theorem BytesAt.kept {w w' : World} {a : Option Addr} {bs : List (BitVec 8)} (h : BytesAt w a bs) (hb : Below w.heap.size w w') : BytesAt w' a bs :=
  fun k hk => by obtain ⟨g, o, e, c⟩ := h k hk; exact ⟨g, o, e, cell_kept hb c⟩
def bv (x : BitVec 8) : Value := .int .u8 (ub x)
def bcells (l : List (BitVec 8)) : List Value := l.map bv
theorem bcells_get {l : List (BitVec 8)} {j : Nat} (h : j < l.length) : (bcells l)[j]? = some (.int .u8 (ub l[j])) := by simp [bcells, bv, h]
theorem bcells_set (l : List (BitVec 8)) (j : Nat) (x : BitVec 8) : (bcells l).set j (.int .u8 (ub x)) = bcells (l.set j x) := by simp [bcells, bv, List.map_set]
theorem bcells_one (l : List (BitVec 8)) : ∀ v ∈ bcells l, v.oneCell' = true := by
  intro v hv; obtain ⟨x, _, rfl⟩ := List.mem_map.1 hv; rfl
theorem bcells_len (l : List (BitVec 8)) : (bcells l).length = l.length := by simp [bcells]
def z (n : Nat) : List (BitVec 8) := List.replicate n 0#8
theorem made0 (n : Nat) : madeCells #[.int .u8 0] n = (bcells (z n)).toArray := by
  apply Array.ext_getElem?
  intro j
  by_cases h : j < n
  · simp [madeCells, bcells, h, Nat.mod_one, bv, z]; rfl
  · simp [madeCells, bcells, h, z]
theorem info5 : ∃ i : TypeInfo, Tryz.prog.info? 5 = some i ∧ i.zero = some (.int .u8 0) ∧ i.size = 1 ∧ i.bytes = 1 := by
  have h : (Tryz.prog.info? 5).map (fun i => (i.zero, i.size, i.bytes)) = some (some (.int .u8 0), 1, 1) := by kernel_rfl
  cases hq : Tryz.prog.info? 5 with
  | none => rw [hq] at h; cases h
  | some i => rw [hq] at h; simp at h; exact ⟨i, rfl, h.1, h.2.1, h.2.2⟩
theorem Row.bytes {w : World} {g : Nat} {bs : List (BitVec 8)} {t : TypeId} (h : Row w g (bcells bs) t) : BytesAt w (some ⟨g, 0, none⟩) bs := fun k hk => ⟨g, 0, rfl, by rw [Nat.zero_add]; exact h.cell k _ (bcells_get hk)⟩
end Go.Proofs.YtnflgkobedbemaaGreatDoor.Snd

namespace Go.Proofs.YtnflgkobedbemaaGreatDoor.Snd
open Go.RowKit
set_option maxRecDepth 100000

/-- Nothing but what S says is another one. -/
structure Fr (S : Nat → Prop) (w w' : World) : Prop where
  os : w'.os = w.os
  tape : w'.tape = w.tape
  output : w'.output = w.output
  size : w.heap.size ≤ w'.heap.size
  block : ∀ k, k < w.heap.size → ¬ S k → w'.heap[k]? = w.heap[k]?
section
variable {S T : Nat → Prop} {w w' w'' : World}
theorem Fr.refl (S : Nat → Prop) (w : World) : Fr S w w := ⟨rfl, rfl, rfl, Nat.le_refl _, fun _ _ _ => rfl⟩
theorem Fr.of_below {B : Nat} (h : Below B w w') (hB : w.heap.size ≤ B) : Fr S w w' := ⟨h.os, h.tape, h.output, h.size, fun k hk _ => h.block k (by omega)⟩
theorem Fr.trans (h : Fr S w w') (k : Fr T w' w'') (hT : ∀ x, T x → S x ∨ w.heap.size ≤ x) : Fr S w w'' :=
  ⟨k.os.trans h.os, k.tape.trans h.tape, k.output.trans h.output, Nat.le_trans h.size k.size, fun x hx hS => (k.block x (Nat.lt_of_lt_of_le hx h.size) (fun ht => by rcases hT x ht with e | e; exact hS e; omega)).trans (h.block x hx hS)⟩
theorem Fr.cell (h : Fr S w w') {a : Addr} {v : Value} (hc : w.cell? a = some v) (hS : ¬ S a.block) : w'.cell? a = some v := by
  have hl := World.block_lt_of_cell? w a hc
  rw [← hc]
  unfold World.cell?
  rw [h.block a.block hl hS]
theorem Fr.row (h : Fr S w w') {g : Nat} {c : List Value} {t : TypeId} (hr : Row w g c t) (hS : ¬ S g) : Row w' g c t := ⟨(h.block g hr.lt hS).trans hr.at_⟩
theorem Fr.below {B : Nat} (h : Fr S w w') (hS : ∀ x, S x → B ≤ x) (hB : B ≤ w.heap.size) : Below B w w' :=
  ⟨h.os, h.tape, h.output, h.size, fun k hk => h.block k (by omega) (fun e => by have := hS k e; omega)⟩
theorem Fr.drewN (h : Fr S w w') (q : Nat) : Fr S w (w'.drewN q) := ⟨h.os, h.tape, h.output, h.size, h.block⟩
end
theorem cell_drewN {w : World} {m : Nat} {ad : Addr} {v : Value} (h : w.cell? ad = some v) : (w.drewN m).cell? ad = some v := h

/-- A chunk: its place, its bytes and where they lie. -/
structure Ck where
  off : Int
  bs : List (BitVec 8)
  a : Option Addr
  cap : Nat
  fin : Bool
  on : Int
  out : Bool
  held : Bool
instance : Inhabited Ck := ⟨⟨0, [], none, 0, false, 0, false, false⟩⟩
def Ck.cells (c : Ck) : List Value := [.int .u64 c.off, .slice c.a c.bs.length c.cap, .bool c.fin, .int .u8 c.on, .bool c.out, .bool c.held]
def Ck.behind (c : Ck) : Int := if c.fin = true then c.off + 1 else c.off + c.bs.length
/-- The chunks of a list. -/
def CksAt (w : World) (a : Option Addr) (L : List Ck) : Prop := ∀ k (h : k < L.length), ∃ g o, a = some ⟨g, o, none⟩ ∧ ∀ j v, L[k].cells[j]? = some v → w.cell? ⟨g, o + k * 6 + j, none⟩ = some v
theorem CksAt.kept {w w' : World} {a : Option Addr} {L : List Ck} (h : CksAt w a L) (hb : Below w.heap.size w w') : CksAt w' a L := fun i hi => by
  obtain ⟨g, o, e, h1⟩ := h i hi
  exact ⟨g, o, e, fun j v hv => cell_kept hb (h1 j v hv)⟩
structure Sb where
  room : Int
  mss : Int
  acked : Int
  high : Int
  end_ : Int
  edge : Int
  closed : Bool
  L : List Ck
def Sb.cells (F : Sb) (v : Value) : List Value := [.int .i64 F.room, .int .i64 F.mss, .int .u64 F.acked, .int .u64 F.high, .int .u64 F.end_, .int .u64 F.edge, .bool F.closed, v]
/-- What holds of a chunk. -/
structure CkOk (F : Sb) (c : Ck) : Prop where
  o0 : 0 ≤ c.off
  ol : c.off + c.bs.length ≤ F.end_
  on0 : 0 ≤ c.on
  on1 : c.on ≤ 255
  cap : c.bs.length ≤ c.cap
  capm : c.cap ≤ 65536
  fin : c.fin = true → c.bs = [] ∧ c.off = F.end_
  few : c.fin = false → c.bs ≠ []
/-- The chunks lie side by side. -/
structure Sb.Ok (F : Sb) : Prop where
  r0 : 1 ≤ F.room
  r1 : F.room ≤ 65536
  m0 : 1 ≤ F.mss
  m1 : F.mss ≤ 1024
  a0 : 0 ≤ F.acked
  a1 : F.acked ≤ F.end_ + 1
  h0 : 0 ≤ F.high
  h1 : F.high ≤ F.end_
  e1 : F.end_ ≤ 4611686018427387904
  fr : F.end_ - F.room ≤ F.acked
  g0 : 0 ≤ F.edge
  g1 : F.edge ≤ 18446744073709551615
  ck : ∀ c ∈ F.L, CkOk F c
  so : F.L.Pairwise (fun c d => c.off < d.off)
  nl : F.L.length ≤ 65537
  cl : F.closed = false → ∀ c ∈ F.L, c.fin = false
  ak : ∀ c ∈ F.L, F.acked < c.behind
  ch : ∀ i (h : i + 1 < F.L.length), (F.L[i]'(by omega)).off + (F.L[i]'(by omega)).bs.length = F.L[i + 1].off
  la : ∀ c, F.L.getLast? = some c → c.off + c.bs.length = F.end_
def Sb.free (F : Sb) : Int := F.room - (F.end_ - min F.acked F.end_)
def Sb.done (F : Sb) : Bool := F.closed && decide (F.end_ < F.acked)
/-- A buffer, for reading. -/
structure SbR (w : World) (p : Nat) (F : Sb) (a : Option Addr) (cap : Nat) : Prop where
  row : Row w p (F.cells (.slice a F.L.length cap)) 169
  ck : CksAt w a F.L
  by_ : ∀ c ∈ F.L, BytesAt w c.a c.bs
  ok : F.Ok
  lc : F.L.length ≤ cap
  cm : cap ≤ maxLen
theorem SbR.kept {w w' : World} {p : Nat} {F : Sb} {a : Option Addr} {cap : Nat} (h : SbR w p F a cap) (hb : Below w.heap.size w w') : SbR w' p F a cap :=
  ⟨h.row.kept hb h.row.lt, h.ck.kept hb, fun c hc => (h.by_ c hc).kept hb, h.ok, h.lc, h.cm⟩
section
variable {w : World} {p : Nat} {F : Sb} {a : Option Addr} {cap : Nat}
set_option maxHeartbeats 400000 in
theorem end_any (h : SbR w p F a cap) : Calls Tryz.prog 81 #[.pointer (some ⟨p, 0, none⟩)] w fun e w' => e = .returned (.int .u64 F.end_) ∧ w' = w := by
  have c := h.row.cell 4 _ rfl
  clear h
  go_enter Tryz.func81, Tryz.ntmps81
  go_wp2
  go_ret
  exact ⟨rfl, rfl⟩
set_option maxHeartbeats 400000 in
theorem high_any (h : SbR w p F a cap) : Calls Tryz.prog 80 #[.pointer (some ⟨p, 0, none⟩)] w fun e w' => e = .returned (.int .u64 F.high) ∧ w' = w := by
  have c := h.row.cell 3 _ rfl
  clear h
  go_enter Tryz.func80, Tryz.ntmps80
  go_wp2
  go_ret
  exact ⟨rfl, rfl⟩
set_option maxHeartbeats 400000 in
theorem acked_any (h : SbR w p F a cap) : Calls Tryz.prog 79 #[.pointer (some ⟨p, 0, none⟩)] w fun e w' => e = .returned (.int .u64 F.acked) ∧ w' = w := by
  have c := h.row.cell 2 _ rfl
  clear h
  go_enter Tryz.func79, Tryz.ntmps79
  go_wp2
  go_ret
  exact ⟨rfl, rfl⟩
set_option maxHeartbeats 400000 in
theorem edge_any (h : SbR w p F a cap) : Calls Tryz.prog 82 #[.pointer (some ⟨p, 0, none⟩)] w fun e w' => e = .returned (.int .u64 F.edge) ∧ w' = w := by
  have c := h.row.cell 5 _ rfl
  clear h
  go_enter Tryz.func82, Tryz.ntmps82
  go_wp2
  go_ret
  exact ⟨rfl, rfl⟩
set_option maxHeartbeats 400000 in
theorem closed_any (h : SbR w p F a cap) : Calls Tryz.prog 78 #[.pointer (some ⟨p, 0, none⟩)] w fun e w' => e = .returned (.bool F.closed) ∧ w' = w := by
  have c := h.row.cell 6 _ rfl
  clear h
  go_enter Tryz.func78, Tryz.ntmps78
  go_wp2
  go_ret
  exact ⟨rfl, rfl⟩
set_option maxHeartbeats 1000000 in
theorem done_t (h : SbR w p F a cap) (hc : F.closed = true) : Calls Tryz.prog 98 #[.pointer (some ⟨p, 0, none⟩)] w fun e w' => e = .returned (.bool (decide (F.end_ < F.acked))) ∧ ∃ q, w' = w.drewN q := by
  have c6 : ∀ q, (w.drewN q).cell? ⟨p, 6, none⟩ = some (.bool true) := fun q => by rw [← hc]; exact cell_drewN (h.row.cell 6 _ rfl)
  have c2 : ∀ q, (w.drewN q).cell? ⟨p, 2, none⟩ = some (.int .u64 F.acked) := fun q => cell_drewN (h.row.cell 2 _ rfl)
  have c4 : ∀ q, (w.drewN q).cell? ⟨p, 4, none⟩ = some (.int .u64 F.end_) := fun q => cell_drewN (h.row.cell 4 _ rfl)
  clear h hc
  go_enter Tryz.func98, Tryz.ntmps98
  go_upto_region 1 with (fail)
  refine wp_region_quiet_lit (by kernel_rfl) (by kernel_rfl) ?_
  repeat (quiet_step (fail))
  refine wpQuiet_nil ?_
  intro w1 hw'
  obtain ⟨nq, rfl⟩ := hw'
  go_wp2_with fail
  go_ret
  exact ⟨by first | rfl | simp, nq, rfl⟩
set_option maxHeartbeats 1000000 in
theorem done_f (h : SbR w p F a cap) (hc : F.closed = false) : Calls Tryz.prog 98 #[.pointer (some ⟨p, 0, none⟩)] w fun e w' => e = .returned (.bool false) ∧ ∃ q, w' = w.drewN q := by
  obtain ⟨E, hE⟩ : ∃ E : Bool, E = false := ⟨_, rfl⟩
  have c6 : ∀ q, (w.drewN q).cell? ⟨p, 6, none⟩ = some (.bool E) := fun q => by rw [hE, ← hc]; exact cell_drewN (h.row.cell 6 _ rfl)
  have HN : Hid (¬ E = true) := by show ¬ _; rw [hE]; simp
  clear h hc hE
  go_enter Tryz.func98, Tryz.ntmps98
  go_upto_region 1 with (fail)
  refine wp_region_quiet_lit (by kernel_rfl) (by kernel_rfl) ?_
  iterate 5 (quiet_step (fail))
  iterate 10 (refine wpQuiet_step (fun K hK => ?_); go_simp; rw [if_neg HN.out]; refine hK _ ?_; clear hK K)
  quiet_step (fail)
  refine wpQuiet_nil ?_
  intro w1 hw'
  obtain ⟨nq, rfl⟩ := hw'
  go_wp2_with fail
  go_ret
  exact ⟨rfl, nq, rfl⟩
theorem done_any (h : SbR w p F a cap) : Calls Tryz.prog 98 #[.pointer (some ⟨p, 0, none⟩)] w fun e w' => e = .returned (.bool F.done) ∧ ∃ q, w' = w.drewN q := by
  unfold Sb.done
  cases hE : F.closed with
  | false => exact done_f h hE
  | true =>
    refine (done_t h hE).mono ?_
    rintro e w' ⟨rfl, hb⟩
    exact ⟨by simp, hb⟩
set_option maxHeartbeats 1000000 in
theorem free_any (h : SbR w p F a cap) : Calls Tryz.prog 83 #[.pointer (some ⟨p, 0, none⟩)] w fun e w' => e = .returned (.int .i64 F.free) ∧ ∃ q, w' = w.drewN q := by
  have c0 : ∀ q, (w.drewN q).cell? ⟨p, 0, none⟩ = some (.int .i64 F.room) := fun q => cell_drewN (h.row.cell 0 _ rfl)
  have c2 : ∀ q, (w.drewN q).cell? ⟨p, 2, none⟩ = some (.int .u64 F.acked) := fun q => cell_drewN (h.row.cell 2 _ rfl)
  have c4 : ∀ q, (w.drewN q).cell? ⟨p, 4, none⟩ = some (.int .u64 F.end_) := fun q => cell_drewN (h.row.cell 4 _ rfl)
  have k1 := h.ok.a0
  have k2 := h.ok.fr
  have k3 := h.ok.r1
  have k4 := h.ok.r0
  have k5 := h.ok.e1
  have k6 := h.ok.h0
  have k7 := h.ok.h1
  have k8 : 0 ≤ F.end_ - min F.acked F.end_ := by omega
  have k9 : F.end_ - min F.acked F.end_ ≤ F.room := by omega
  unfold Sb.free
  clear h
  go_enter Tryz.func83, Tryz.ntmps83
  go_upto_region 1 with (fail)
  refine wp_region_quiet_lit (by kernel_rfl) (by kernel_rfl) ?_
  repeat (quiet_step (fail))
  refine wpQuiet_nil ?_
  intro w1 hw'
  obtain ⟨nq, rfl⟩ := hw'
  go_wp2_with fail
  go_ret
  have e1 : IntKind.u64.wrap (F.end_ - min F.acked F.end_) = F.end_ - min F.acked F.end_ := by rw [IntKind.wrap_u64]; omega
  have e2 : IntKind.i64.wrap (F.end_ - min F.acked F.end_) = F.end_ - min F.acked F.end_ := by rw [IntKind.wrap_i64]; omega
  have e3 : IntKind.i64.wrap (F.room - (F.end_ - min F.acked F.end_)) = F.room - (F.end_ - min F.acked F.end_) := by rw [IntKind.wrap_i64]; omega
  exact ⟨by rw [e1, e2, e3]; rfl, nq, rfl⟩
end
set_option maxHeartbeats 1000000 in
theorem between_any (w : World) (n l m : Int) : Calls Tryz.prog 110 #[.int .i64 n, .int .i64 l, .int .i64 m] w fun e w' => e = .returned (.int .i64 (max l (min n m))) ∧ w' = w := by
  go_enter Tryz.func110, Tryz.ntmps110
  go_wp2
  go_ret
  exact ⟨by first | rfl | simp, rfl⟩
end Go.Proofs.YtnflgkobedbemaaGreatDoor.Snd

namespace Go.Proofs.YtnflgkobedbemaaGreatDoor.Snd
open Go.RowKit
set_option maxRecDepth 100000

/-- A path's bit. -/
def bit (x : Int) : Int := if x < 0 ∨ 8 ≤ x then 0 else 2 ^ x.toNat
theorem CksAt.cell {w : World} {a : Option Addr} {L : List Ck} (h : CksAt w a L) {m : Nat} (hm : m < L.length) : ∃ g o, a = some ⟨g, o, none⟩ ∧ w.cell? ⟨g, o + m * 6, none⟩ = some (.int .u64 L[m].off) ∧ w.cell? ⟨g, o + m * 6 + 1, none⟩ = some (.slice L[m].a L[m].bs.length L[m].cap) ∧ w.cell? ⟨g, o + m * 6 + 2, none⟩ = some (.bool L[m].fin) ∧ w.cell? ⟨g, o + m * 6 + 3, none⟩ = some (.int .u8 L[m].on) ∧ w.cell? ⟨g, o + m * 6 + 4, none⟩ = some (.bool L[m].out) ∧ w.cell? ⟨g, o + m * 6 + 5, none⟩ = some (.bool L[m].held) := by
  obtain ⟨g, o, e, k⟩ := h m hm
  exact ⟨g, o, e, k 0 _ rfl, k 1 _ rfl, k 2 _ rfl, k 3 _ rfl, k 4 _ rfl, k 5 _ rfl⟩
end Go.Proofs.YtnflgkobedbemaaGreatDoor.Snd

namespace Go.Proofs.YtnflgkobedbemaaGreatDoor.Snd
open Go.RowKit Go.Maps Go.Sort
set_option maxRecDepth 100000

/-- Is a chunk under way on a path? -/
def onB (on : Int) (x : Int) : Bool := bits BinOp.and IntKind.u8 on (bit x) != 0
/-- The paths below i on which it is. -/
def onUp (on : Int) (i : Nat) : List Int := ((List.range i).filter fun (k : Nat) => onB on (k : Int)).map fun (k : Nat) => (k : Int)
abbrev icells (l : List Int) : List Value := l.map fun x => .int .i64 x
abbrev OwnI (w : World) (B : Nat) (v : Value) (l : List Int) : Prop := w.ownsRow B 3 1 v l.length (icells l)
theorem ownI_kept {w w' : World} {B : Nat} {v : Value} {l : List Int} (h : OwnI w B v l) (hb : Below w.heap.size w w') : OwnI w' B v l := by
  refine ⟨h.1, ?_⟩
  rcases h.2 with e | ⟨g, cap, cur, hv, h1, hg, h2⟩
  · exact .inl e
  · exact .inr ⟨g, cap, cur, hv, h1, (hb.block g (Array.getElem?_eq_some_iff.1 hg).1).trans hg, h2⟩
end Go.Proofs.YtnflgkobedbemaaGreatDoor.Snd

namespace Go.Proofs.YtnflgkobedbemaaGreatDoor.Snd
open Go.RowKit
set_option maxRecDepth 100000

/-! A region that draws its order, by an invariant over what has come up. -/
/-! A region that draws its order, and whose every operation has a slot of its own: what each slot holds once its operation has come up. -/
structure SI (G : List Bool → World → Prop) (ops : Array Oper) (A : Act) (Spec : Nat → Value → World → Prop) (l : List Bool) (a : Act) (w : World) : Prop where
  len : l.length = ops.size
  defers : a.defers = A.defers
  size : a.tmps.size = A.tmps.size
  old : ∀ (t : Nat), (∀ (i : Nat) (o : Oper), ops[i]? = some o → o.dst ≠ some t) → a.tmps[t]? = A.tmps[t]?
  new : ∀ (i : Nat) (o : Oper) (d : Nat), l[i]? = some true → ops[i]? = some o → o.dst = some d → ∃ v, a.tmps[d]? = some v ∧ Spec i v w
  bel : G l w
section
variable {G : List Bool → World → Prop} {w w' : World} {ops : Array Oper} {A a : Act} {Spec : Nat → Value → World → Prop} {l : List Bool} {o : Oper} {i d : Nat} {v : Value}
theorem ready_dep {md : Region.Mode} (hm : i ∈ Region.ready md ops l.toArray) (ho : ops[i]? = some o) {j : Nat} (h : (o.after.any fun e => Region.binds md e && e.on == j) = true) : l[j]? = some true := by
  unfold Region.ready at hm
  have h1 := (List.mem_filter.1 hm).2
  rw [ho] at h1
  simp only [Option.map_some, Option.getD_some, Bool.and_eq_true] at h1
  rw [Array.any_eq_true'] at h
  obtain ⟨e, he, hb⟩ := h
  simp only [Bool.and_eq_true, beq_iff_eq] at hb
  have h2 := Array.all_eq_true'.1 h1.2 e he
  rw [hb.1] at h2
  simp only [Bool.not_true, Bool.false_or] at h2
  rw [← hb.2]
  have h3 : ∃ h : e.on < l.length, l[e.on] = true := by simpa [Array.getD] using h2
  obtain ⟨h4, h5⟩ := h3
  rw [List.getElem?_eq_getElem h4, h5]
theorem SI.step (h : SI G ops A Spec l a w) (ho : ops[i]? = some o) (hd : o.dst = some d) (hdl : d < A.tmps.size) (hu : ((List.range ops.size).all fun j => j == i || ((ops[j]?).map fun o' => o'.dst != some d).getD true) = true) (hs : Spec i v w') (hb : G (l.set i true) w') (hm : ∀ j v, j ≠ i → Spec j v w → Spec j v w') : SI G ops A Spec (l.set i true) (a.put o.dst v) w' := by
  refine ⟨by rw [List.length_set]; exact h.len, by rw [hd]; exact h.defers, by rw [hd]; simp [Act.put]; exact h.size, ?_, ?_, hb⟩
  · intro t ht
    rw [hd]
    have hne : d ≠ t := fun e => ht i o ho (by rw [hd, e])
    simp only [Act.put]
    rw [Array.getElem?_setIfInBounds_ne hne]
    exact h.old t ht
  · intro j o' d' hl ho' hd'
    rw [hd]
    simp only [Act.put]
    by_cases hj : j = i
    · subst hj
      rw [ho] at ho'
      cases ho'
      rw [hd] at hd'
      cases hd'
      exact ⟨v, by rw [Array.getElem?_setIfInBounds_self_of_lt (by rw [h.size]; exact hdl)], hs⟩
    · rw [List.getElem?_set_ne (Ne.symm hj)] at hl
      obtain ⟨x, hx, hsx⟩ := h.new j o' d' hl ho' hd'
      have hne : d ≠ d' := fun e => by
        have hjs : j < ops.size := (Array.getElem?_eq_some_iff.1 ho').1
        have h1 := List.all_eq_true.1 hu j (by simpa using hjs)
        rw [ho'] at h1
        simp only [Option.map_some, Option.getD_some, Bool.or_eq_true, beq_iff_eq, bne_iff_ne] at h1
        rcases h1 with h1 | h1
        · exact hj h1
        · exact h1 (by rw [hd', e])
      exact ⟨x, by rw [Array.getElem?_setIfInBounds_ne hne]; exact hx, hm j x hj hsx⟩
theorem eval_tmp {t : Nat} (h : a.tmps[t]? = some v) : a.eval (.tmp t) = v := by
  show a.tmps.getD t undef = v
  rw [Array.getD_eq_getD_getElem?, h]; rfl
theorem SI.oldv (h : SI G ops A Spec l a w) {t : Nat} (hc : (ops.all fun o => o.dst != some t) = true) (hA : A.tmps[t]? = some v) : a.eval (.tmp t) = v := by
  refine eval_tmp ((h.old t ?_).trans hA)
  intro i o ho
  have h1 := Array.all_eq_true'.1 hc o (Array.mem_of_getElem? ho)
  simpa using h1
theorem SI.val (h : SI G ops A Spec l a w) (hm : i ∈ Region.ready .any ops l.toArray) (ho : ops[i]? = some o) {j : Nat} {o' : Oper} (hj : ops[j]? = some o') (hd : o'.dst = some d) (he : (o.after.any fun e => Region.binds .any e && e.on == j) = true) : ∃ v, a.eval (.tmp d) = v ∧ Spec j v w := by
  obtain ⟨v, hv, hs⟩ := h.new j o' d (ready_dep hm ho he) hj hd
  exact ⟨v, eval_tmp hv, hs⟩
/-- What has come up, and all that it waited for. -/
def Closed (ops : Array Oper) (l : List Bool) : Prop := ∀ (k : Nat) (o : Oper) (j : Nat), l[k]? = some true → ops[k]? = some o → (o.after.any fun e => Region.binds .any e && e.on == j) = true → l[j]? = some true
theorem Closed.step (h : Closed ops l) (hm : i ∈ Region.ready .any ops l.toArray) : Closed ops (l.set i true) := by
  intro k o' j hk ho' ha
  have key : l[j]? = some true := by
    by_cases hki : k = i
    · subst hki
      exact ready_dep hm ho' ha
    · rw [List.getElem?_set_ne (Ne.symm hki)] at hk
      exact h k o' j hk ho' ha
  by_cases hji : j = i
  · subst hji
    rw [List.getElem?_set_self (List.getElem?_eq_some_iff.1 key).1]
  · rw [List.getElem?_set_ne (Ne.symm hji)]
    exact key
end
end Go.Proofs.YtnflgkobedbemaaGreatDoor.Snd

namespace Go.Proofs.YtnflgkobedbemaaGreatDoor.Snd
open Go.RowKit Go.Maps Go.Sort
set_option maxRecDepth 100000

/-- The cells of a chunk. -/
structure CkC (w : World) (g o : Nat) (c : Ck) : Prop where
  q0 : w.cell? ⟨g, o, none⟩ = some (.int .u64 c.off)
  q1 : w.cell? ⟨g, o + 1, none⟩ = some (.slice c.a c.bs.length c.cap)
  q2 : w.cell? ⟨g, o + 2, none⟩ = some (.bool c.fin)
  q3 : w.cell? ⟨g, o + 3, none⟩ = some (.int .u8 c.on)
  q4 : w.cell? ⟨g, o + 4, none⟩ = some (.bool c.out)
  q5 : w.cell? ⟨g, o + 5, none⟩ = some (.bool c.held)
theorem CkC.kept {w w' : World} {g o : Nat} {c : Ck} (h : CkC w g o c) (hb : Below w.heap.size w w') : CkC w' g o c := ⟨cell_kept hb h.q0, cell_kept hb h.q1, cell_kept hb h.q2, cell_kept hb h.q3, cell_kept hb h.q4, cell_kept hb h.q5⟩
section
variable {ops : Array Oper} {o : Oper} {a : Act} {w : World} {K : Act → World → Prop} {Q : Exit → Act → World → Prop}
end
/-- A chunk as it is told. -/
def ChV (c : Ck) (s : Value) : Value := .agg #[.int .u64 c.off, .int .i64 c.bs.length, .bool c.fin, s, .bool c.held]
def ShS (B g o : Nat) (c : Ck) (i : Nat) (v : Value) (w : World) : Prop :=
  if i = 17 then OwnI w B v (onUp c.on 8) else if i = 23 then ∃ s, v = ChV c s ∧ OwnI w B s (onUp c.on 8) else
  ([.pointer (some ⟨g, o, none⟩), .pointer (some ⟨g, o, none⟩), .pointer (some ⟨g, o, none⟩), .int .u64 c.off, .pointer (some ⟨g, o, none⟩), .pointer (some ⟨g, o, none⟩), .pointer (some ⟨g, o + 1, none⟩), .slice c.a c.bs.length c.cap, .int .i64 c.bs.length, .pointer (some ⟨g, o, none⟩), .pointer (some ⟨g, o, none⟩), .pointer (some ⟨g, o + 2, none⟩), .bool c.fin, .pointer (some ⟨g, o, none⟩), .pointer (some ⟨g, o, none⟩), .pointer (some ⟨g, o + 3, none⟩), .int .u8 c.on, undef, .pointer (some ⟨g, o, none⟩), .pointer (some ⟨g, o, none⟩), .pointer (some ⟨g, o + 5, none⟩), .bool c.held, undef] : List Value)[i]? = some v
theorem ShS.kept {B g o : Nat} {c : Ck} {w w' : World} (hb : Below w.heap.size w w') (i : Nat) (v : Value) (h : ShS B g o c i v w) : ShS B g o c i v w' := by
  unfold ShS at *
  split
  · rename_i e; rw [if_pos e] at h; exact ownI_kept h hb
  · rename_i e
    rw [if_neg e] at h
    split
    · rename_i e2; rw [if_pos e2] at h; obtain ⟨s, h1, h2⟩ := h; exact ⟨s, h1, ownI_kept h2 hb⟩
    · rename_i e2; rw [if_neg e2] at h; exact h
end Go.Proofs.YtnflgkobedbemaaGreatDoor.Snd

namespace Go.Proofs.YtnflgkobedbemaaGreatDoor.Snd
open Go.RowKit Go.Maps Go.Sort
set_option maxRecDepth 100000

/-- A chunk that lowest looks for: not held, under way on none of these. -/
def Ck.free (c : Ck) (fr : Int) : Bool := !c.held && (bits BinOp.and IntKind.u8 c.on fr == 0)
theorem Row.result2 {P : Program} {w : World} {g : Nat} {c : List Value} {t : TypeId} {fn : Func} {p u : Tmp} {ty : TypeId} (h : Row w g c t) (hr : fn.results = #[.cell p ty, .tmp u]) (tmps : Array Value) (hp : tmps.getD p undef = .pointer (some ⟨g, 0, none⟩)) (d : TypeDesc)
    (hu : P.underlying ty = some d) (hd : (match d with | .struct _ | .array _ _ => true | _ => false) = true) (hi : (P.info? ty).map (·.size) = some c.length) : (results fn tmps).run P w = .ok (.tuple #[.agg c.toArray, tmps.getD u undef]) w := by
  have hp' : tmps[p]?.getD undef = .pointer (some ⟨g, 0, none⟩) := by simpa using hp
  simp [results, hr, hp', asAddr, run_loadVar_row w g t ty c.toArray (0, 0) d h.at_ hu hd (by simpa using hi)]
end Go.Proofs.YtnflgkobedbemaaGreatDoor.Snd

namespace Go.Proofs.YtnflgkobedbemaaGreatDoor.Snd
open Go.RowKit Go.Maps Go.Sort
set_option maxRecDepth 100000

/-- A buffer with its memory. -/
structure SbW (w : World) (p : Nat) (F : Sb) (a : Option Addr) (cap : Nat) : Prop where
  r : SbR w p F a cap
  own : cap = 0 ∨ ∃ g o arr, a = some ⟨g, o, none⟩ ∧ w.heap[g]? = some (.cells arr 186 (0, 0)) ∧ o + cap * 6 = arr.size
  ap : ∀ c ∈ F.L, ∀ g o, c.a = some ⟨g, o, none⟩ → g ≠ p ∧ ∀ g' o', a = some ⟨g', o', none⟩ → g ≠ g'
theorem SbW.kept {w w' : World} {p : Nat} {F : Sb} {a : Option Addr} {cap : Nat} (h : SbW w p F a cap) (hb : Below w.heap.size w w') : SbW w' p F a cap := by
  refine ⟨h.r.kept hb, ?_, h.ap⟩
  rcases h.own with e | ⟨g, o, arr, e, hg, hs⟩
  · exact .inl e
  · exact .inr ⟨g, o, arr, e, (hb.block g (Array.getElem?_eq_some_iff.1 hg).1).trans hg, hs⟩
/-- The chunks' block. -/
theorem SbW.blk {w : World} {p : Nat} {F : Sb} {a : Option Addr} {cap : Nat} (h : SbW w p F a cap) {k : Nat} (hk : k < F.L.length) : ∃ g o arr, a = some ⟨g, o, none⟩ ∧ w.heap[g]? = some (.cells arr 186 (0, 0)) ∧ o + cap * 6 = arr.size ∧ g ≠ p := by
  rcases h.own with e | ⟨g, o, arr, e, hg, hs⟩
  · have := h.r.lc; omega
  · refine ⟨g, o, arr, e, hg, hs, fun e2 => ?_⟩
    subst e2
    have := h.r.row.at_.symm.trans hg
    simp at this
/-- One cell of one chunk is another one. -/
theorem CksAt.set {w : World} {g o : Nat} {L : List Ck} (h : CksAt w (some ⟨g, o, none⟩) L) {arr : Array Value} (hg : w.heap[g]? = some (.cells arr 186 (0, 0))) {k : Nat} (hk : k < L.length) {c : Ck} {j : Nat} {v : Value} (hj : j < 6) (hc : c.cells = L[k].cells.set j v) (hs : o + L.length * 6 ≤ arr.size) :
    CksAt (w.setCell ⟨g, o + k * 6 + j, none⟩ v) (some ⟨g, o, none⟩) (L.set k c) := by
  have hg' : (w.setCell ⟨g, o + k * 6 + j, none⟩ v).heap[g]? = some (.cells (arr.set! (o + k * 6 + j) v) 186 (0, 0)) := by
    rw [setCell_eq_setRow w g _ arr 186 (0, 0) v hg, setRow_heap w g _ _ 186 (0, 0) hg]
    first | rfl | simp
  intro m hm
  refine ⟨g, o, rfl, fun i u hu => ?_⟩
  rw [cell_of_row _ g _ _ 186 (0, 0) hg']
  have hm' : m < L.length := by simpa using hm
  have hlen : ∀ c : Ck, c.cells.length = 6 := fun c => rfl
  by_cases e : m = k
  · subst e
    rw [List.getElem_set_self, hc] at hu
    have hi : i < 6 := by have := (List.getElem?_eq_some_iff.1 hu).1; simpa [Ck.cells] using this
    by_cases e2 : i = j
    · subst e2
      rw [List.getElem?_set_self (by rw [hlen]; exact hi)] at hu
      rw [← hu, Array.set!_eq_setIfInBounds, Array.getElem?_setIfInBounds_self_of_lt (by omega)]
    · rw [List.getElem?_set_ne (fun e => e2 e.symm)] at hu
      obtain ⟨g2, o2, e3, h3⟩ := h m hm'
      cases e3
      have h4 := h3 i u hu
      rw [cell_of_row w g _ _ 186 (0, 0) hg] at h4
      rw [Array.set!_eq_setIfInBounds, Array.getElem?_setIfInBounds_ne (by omega)]
      exact h4
  · rw [List.getElem_set_ne (fun e' => e e'.symm)] at hu
    have hi : i < 6 := by have := (List.getElem?_eq_some_iff.1 hu).1; simpa [Ck.cells] using this
    obtain ⟨g2, o2, e3, h3⟩ := h m hm'
    cases e3
    have h4 := h3 i u hu
    rw [cell_of_row w g _ _ 186 (0, 0) hg] at h4
    rw [Array.set!_eq_setIfInBounds, Array.getElem?_setIfInBounds_ne (by omega)]
    exact h4
/-- A buffer with another chunk in a chunk's place. -/
def Sb.put (F : Sb) (k : Nat) (c : Ck) : Sb := { F with L := F.L.set k c }
theorem SbW.put {w : World} {p : Nat} {F : Sb} {g o cap : Nat} (h : SbW w p F (some ⟨g, o, none⟩) cap) {k : Nat} (hk : k < F.L.length) {c : Ck} {j : Nat} {v : Value} (hj : j < 6) (hc : c.cells = F.L[k].cells.set j v) (hca : c.a = F.L[k].a ∧ c.bs = F.L[k].bs) (hok : (F.put k c).Ok) :
    SbW (w.setCell ⟨g, o + k * 6 + j, none⟩ v) p (F.put k c) (some ⟨g, o, none⟩) cap ∧ Fr (fun x => x = g) w (w.setCell ⟨g, o + k * 6 + j, none⟩ v) := by
  obtain ⟨g', o', arr, e, hg, hs, hp⟩ := h.blk hk
  cases e
  have hfr : Fr (fun x => x = g) w (w.setCell ⟨g, o + k * 6 + j, none⟩ v) := ⟨rfl, rfl, rfl, by simp [World.setCell], fun x hx hn => Below.heap_setCell w _ v x hn⟩
  have hlc := h.r.lc
  have hl : (F.put k c).L.length = F.L.length := by unfold Sb.put; simp
  refine ⟨⟨⟨?_, h.r.ck.set hg hk hj hc (by omega), fun d hd => ?_, hok, by rw [hl]; exact h.r.lc, h.r.cm⟩, ?_, fun d hd => ?_⟩, hfr⟩
  · rw [hl]
    exact hfr.row h.r.row (fun e => hp e.symm)
  · have key : ∀ d ∈ F.L, BytesAt (w.setCell ⟨g, o + k * 6 + j, none⟩ v) d.a d.bs := fun d hd i hi => by
      obtain ⟨g2, o2, e2, c2⟩ := h.r.by_ d hd i hi
      exact ⟨g2, o2, e2, hfr.cell c2 (fun e3 => (h.ap d hd g2 o2 e2).2 g o rfl e3)⟩
    rcases List.mem_or_eq_of_mem_set hd with e | e
    · exact key d e
    · subst e
      rw [hca.1, hca.2]
      exact key _ (List.getElem_mem hk)
  · refine .inr ⟨g, o, arr.set! (o + k * 6 + j) v, rfl, ?_, by simpa using hs⟩
    rw [setCell_eq_setRow w g _ arr 186 (0, 0) v hg, setRow_heap w g _ _ 186 (0, 0) hg]
    first | rfl | simp
  · rcases List.mem_or_eq_of_mem_set hd with e | e
    · exact h.ap d e
    · subst e
      rw [hca.1]
      exact h.ap _ (List.getElem_mem hk)
end Go.Proofs.YtnflgkobedbemaaGreatDoor.Snd

namespace Go.Proofs.YtnflgkobedbemaaGreatDoor.Snd
open Go.RowKit Go.Maps Go.Sort
set_option maxRecDepth 100000

/-- A field of the buffer is another one; the chunks stay. -/
theorem SbW.field {w : World} {p : Nat} {F G : Sb} {a : Option Addr} {cap : Nat} (h : SbW w p F a cap) {j : Nat} {v : Value} (hL : G.L = F.L) (hc : G.cells (.slice a F.L.length cap) = (F.cells (.slice a F.L.length cap)).set j v) (ok : G.Ok) :
    SbW (w.setCell ⟨p, j, none⟩ v) p G a cap ∧ Fr (fun x => x = p) w (w.setCell ⟨p, j, none⟩ v) := by
  have hfr : Fr (fun x => x = p) w (w.setCell ⟨p, j, none⟩ v) := ⟨rfl, rfl, rfl, by simp [World.setCell], fun x hx hn => Below.heap_setCell w _ v x hn⟩
  have hne : ∀ g o, a = some ⟨g, o, none⟩ → F.L ≠ [] → g ≠ p := fun g o e hn => by
    obtain ⟨g', o', arr, e', hg, _, hp⟩ := h.blk (k := 0) (List.length_pos_iff.2 hn)
    rw [e] at e'
    cases e'
    exact hp
  refine ⟨⟨⟨?_, ?_, ?_, ok, by rw [hL]; exact h.r.lc, h.r.cm⟩, ?_, by rw [hL]; exact h.ap⟩, hfr⟩
  · rw [hL, hc]
    exact h.r.row.set j v
  · rw [hL]
    intro k hk
    obtain ⟨g, o, e, q⟩ := h.r.ck k hk
    exact ⟨g, o, e, fun i u hu => hfr.cell (q i u hu) (fun e2 => hne g o e (fun e3 => by rw [e3] at hk; simp at hk) e2)⟩
  · rw [hL]
    intro c hc' i hi
    obtain ⟨g, o, e, q⟩ := h.r.by_ c hc' i hi
    exact ⟨g, o, e, hfr.cell q (fun e2 => (h.ap c hc' g o e).1 e2)⟩
  · rcases h.own with e | ⟨g, o, arr, e, hg, hs⟩
    · exact .inl e
    · refine .inr ⟨g, o, arr, e, ?_, hs⟩
      rw [hfr.block g (Array.getElem?_eq_some_iff.1 hg).1 (fun e2 => ?_)]
      · exact hg
      · subst e2
        have := h.r.row.at_.symm.trans hg
        simp at this
end Go.Proofs.YtnflgkobedbemaaGreatDoor.Snd

namespace Go.Proofs.YtnflgkobedbemaaGreatDoor.Snd
open Go.RowKit Go.Maps Go.Sort
set_option maxRecDepth 100000

/-- A buffer with nothing in it. -/
def Sb.mk1 (b r m e : Int) : Sb := ⟨r, m, b, b, b, e, false, []⟩
theorem Sb.mk1_ok {b r m e : Int} (b0 : 0 ≤ b) (b1 : b ≤ 4611686018427387904) (r0 : 1 ≤ r) (r1 : r ≤ 65536) (m0 : 1 ≤ m) (m1 : m ≤ 1024) (h1 : 0 ≤ e) (h2 : e ≤ 18446744073709551615) : (Sb.mk1 b r m e).Ok :=
  ⟨r0, r1, m0, m1, b0, by show b ≤ b + 1; omega, b0, Int.le_refl b, b1, by show b - r ≤ b; omega, h1, h2, (fun c hc => by cases hc), List.Pairwise.nil, Nat.zero_le _, (fun _ c hc => by cases hc), (fun c hc => by cases hc), (fun i h => by cases h), fun c hc => by cases hc⟩
set_option maxHeartbeats 2000000 in
theorem new_any (w : World) {base room mss edge b r m : Int} (h0 : 0 ≤ base) (h1 : 0 ≤ edge) (h2 : edge ≤ 18446744073709551615) (hb : min base 4611686018427387904 = b) (hr : max 1 (min room 65536) = r) (hm : max 1 (min mss 1024) = m) :
    Calls Tryz.prog 73 #[.int .u64 base, .int .i64 room, .int .i64 mss, .int .u64 edge] w fun e w' => ∃ p, e = .returned (.pointer (some ⟨p, 0, none⟩)) ∧ SbW w' p (Sb.mk1 b r m edge) none 0 ∧ Below w.heap.size w w' ∧ w.heap.size ≤ p := by
  have HBW := fun w n l m => hid (between_any w n l m)
  have HK := hid (Sb.mk1_ok (b := b) (r := r) (m := m) (e := edge) (by omega) (by omega) (by omega) (by omega) (by omega) (by omega) h1 h2)
  have HRR := hid hr
  have HMM := hid hm
  clear hr hm
  go_enter Tryz.func73, Tryz.ntmps73
  go_wp2_with (go_at_call 110; refine (HBW _ _ _ _).out.mono ?_; rintro e w1 ⟨rfl, rfl⟩)
  go_ret
  rw [HRR.out, HMM.out]
  have hrow : Row (w1.alloc (.cells #[.int .i64 r, .int .i64 m, .int .u64 b, .int .u64 b, .int .u64 b, .int .u64 edge, .bool false, .slice none 0 0] 169)) w1.heap.size [.int .i64 r, .int .i64 m, .int .u64 b, .int .u64 b, .int .u64 b, .int .u64 edge, .bool false, .slice none 0 0] 169 := Row.new w1 _ _
  exact ⟨w1.heap.size, rfl, ⟨⟨hrow, fun k hk => (by cases hk), fun c hc => (by cases hc), HK.out, Nat.le_refl _, Nat.zero_le _⟩, .inl rfl, fun c hc => (by cases hc)⟩, (Below.refl _ _).alloc (Nat.le_refl _) _, Nat.le_refl _⟩
end Go.Proofs.YtnflgkobedbemaaGreatDoor.Snd
