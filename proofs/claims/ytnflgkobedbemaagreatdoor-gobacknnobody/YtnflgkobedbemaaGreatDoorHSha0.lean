import Derived.Test.YtnflgkobedbemaaGreatDoorRows
import Derived.WalkKit
import Derived.WalkSpells
import Derived.WalkLawsBesides
import Derived.BigQuiet
import Derived.Deep.QuietTactic
import Derived.Deep.LoopGhost
import Derived.Deep.Draws
import Derived.RegionTactic
import Derived.Laws.BitsAllLaws
import Derived.Deep.MidRow
import Derived.Deep.WholeRow
import Derived.Deep.RegionWith
import Derived.BigRegion
import Derived.Great.Ranges
import Derived.Laws.CopyRow
namespace Go.Proofs.YtnflgkobedbemaaGreatDoor.Sh
open Go.RowKit

/-- A word of 32 bits as the number that a cell holds. -/
def u (x : BitVec 32) : Int := (x.toNat : Int)
/-- A byte likewise. -/
def ub (x : BitVec 8) : Int := (x.toNat : Int)

theorem u_of (n : Int) (h0 : 0 ≤ n) (h1 : n < 4294967296) : n = u (BitVec.ofNat 32 n.toNat) := by
  unfold u
  rw [BitVec.toNat_ofNat, Nat.mod_eq_of_lt (by omega)]
  omega
theorem u_ofInt (x : BitVec 32) : BitVec.ofInt 32 (u x) = x := by
  unfold u
  rw [BitVec.ofInt_natCast, BitVec.ofNat_toNat, BitVec.setWidth_eq]
theorem ub_ofInt (x : BitVec 8) : BitVec.ofInt 8 (ub x) = x := by
  unfold ub
  rw [BitVec.ofInt_natCast, BitVec.ofNat_toNat, BitVec.setWidth_eq]
theorem u_wrap (n : Int) : IntKind.u32.wrap n = u (BitVec.ofInt 32 n) := by
  rw [IntKind.wrap_u32', u, BitVec.toNat_ofInt]
  omega
theorem ub_wrap (n : Int) : IntKind.u8.wrap n = ub (BitVec.ofInt 8 n) := by
  rw [IntKind.wrap_u8', ub, BitVec.toNat_ofInt]
  omega
@[go_sem] theorem u_wrap_u (x : BitVec 32) : IntKind.u32.wrap (u x) = u x := by rw [u_wrap, u_ofInt]
@[go_sem] theorem ub_wrap_ub (x : BitVec 8) : IntKind.u8.wrap (ub x) = ub x := by rw [ub_wrap, ub_ofInt]
@[go_sem] theorem u_xor (x y : BitVec 32) : bits .xor .u32 (u x) (u y) = u (x ^^^ y) := by
  show IntKind.u32.wrap ((BitVec.ofInt 32 (u x) ^^^ BitVec.ofInt 32 (u y)).toNat : Int) = _
  rw [u_ofInt, u_ofInt]; exact u_wrap_u _
@[go_sem] theorem u_and (x y : BitVec 32) : bits .and .u32 (u x) (u y) = u (x &&& y) := by
  show IntKind.u32.wrap ((BitVec.ofInt 32 (u x) &&& BitVec.ofInt 32 (u y)).toNat : Int) = _
  rw [u_ofInt, u_ofInt]; exact u_wrap_u _
@[go_sem] theorem u_or (x y : BitVec 32) : bits .or .u32 (u x) (u y) = u (x ||| y) := by
  show IntKind.u32.wrap ((BitVec.ofInt 32 (u x) ||| BitVec.ofInt 32 (u y)).toNat : Int) = _
  rw [u_ofInt, u_ofInt]; exact u_wrap_u _
@[go_sem] theorem u_not (x : BitVec 32) : bits .xor .u32 4294967295 (u x) = u (~~~x) := by
  have e : (4294967295 : Int) = u (BitVec.allOnes 32) := by decide
  rw [e, u_xor, BitVec.allOnes_xor]
@[go_sem high] theorem unary_not_u32 (x : BitVec 32) : Op.unary .xor (.int .u32 (u x)) = pure (.int .u32 (u (~~~x))) := by
  rw [unary_xor, intBits_xor]
  have e : (if IntKind.u32.signed = true then (-1 : Int) else IntKind.u32.max) = 4294967295 := by decide
  rw [e, u_not]
@[go_sem] theorem u_add (x y : BitVec 32) : IntKind.u32.wrap (u x + u y) = u (x + y) := by
  rw [IntKind.wrap_u32', u, u, u, BitVec.toNat_add]
  omega
theorem u_shr (x : BitVec 32) (k : Nat) : u x / 2 ^ k = u (x >>> k) := by
  unfold u
  rw [BitVec.toNat_ushiftRight, Nat.shiftRight_eq_div_pow]
  simp
theorem u_shl (x : BitVec 32) (k : Nat) : IntKind.u32.wrap (u x * 2 ^ k) = u (x <<< k) := by
  unfold u
  rw [IntKind.wrap_u32', BitVec.toNat_shiftLeft, Nat.shiftLeft_eq]
  simp
@[go_sem high] theorem shift_shr_word (x : BitVec 32) (yk : IntKind) (y : Int) (h0 : 0 ≤ y) (h1 : y ≤ 32) : Op.shift .shr .u32 (u x) yk y = pure (.int .u32 (u (x >>> y.toNat))) := by
  rw [shift_shr_u32 yk (u x) y h0 h1, u_shr]
@[go_sem high] theorem shift_shl_word (x : BitVec 32) (yk : IntKind) (y : Int) (h0 : 0 ≤ y) (h1 : y ≤ 32) : Op.shift .shl .u32 (u x) yk y = pure (.int .u32 (u (x <<< y.toNat))) := by
  rw [shift_shl_u32 yk (u x) y h0 h1, u_shl]
/-- A byte made a word, and the lowest byte of a word. -/
@[go_sem] theorem u_of_byte (b : BitVec 8) : IntKind.u32.wrap (ub b) = u (b.setWidth 32) := by
  rw [IntKind.wrap_u32', u, ub, BitVec.toNat_setWidth]
  omega
@[go_sem] theorem byte_of_u (x : BitVec 32) : IntKind.u8.wrap (u x) = ub (x.setWidth 8) := by
  rw [IntKind.wrap_u8', u, ub, BitVec.toNat_setWidth]
  omega
/-- A word turned by n places to the right. -/
def rotr (x : BitVec 32) (n : Nat) : BitVec 32 := x <<< (32 - n) ||| x >>> n

theorem back31 (n : Nat) (h1 : 1 ≤ n) (h2 : n ≤ 31) : bits .and .u64 (IntKind.u64.wrap (-(n : Int))) 31 = ((32 - n : Nat) : Int) := by
  have : ∀ m : Fin 32, 1 ≤ m.val → bits .and .u64 (IntKind.u64.wrap (-(m.val : Int))) 31 = ((32 - m.val : Nat) : Int) := by decide +kernel
  exact this ⟨n, by omega⟩ h1

set_option maxHeartbeats 400000 in
theorem rot_any (x : BitVec 32) (n : Nat) (h1 : 1 ≤ n) (h2 : n ≤ 31) (w : World) :
    Calls Tryz.prog 206 #[.int .u32 (u x), .int .i64 (-(n : Int))] w fun e w' => e = .returned (.int .u32 (u (rotr x n))) ∧ w' = w := by
  have hb := back31 n h1 h2
  obtain ⟨m, hm, hm1, hm2⟩ : ∃ m : Nat, m = 32 - n ∧ 1 ≤ m ∧ m ≤ 31 := ⟨_, rfl, by omega, by omega⟩
  rw [← hm] at hb
  have ht : ((m : Int)).toNat = m := by omega
  have hr : IntKind.u64.wrap (32 - (m : Int)) = ((n : Nat) : Int) := by rw [IntKind.wrap_u64]; omega
  have hr' : (32 - (m : Int)) % 18446744073709551616 = ((n : Nat) : Int) := by omega
  have hm32 : min m 32 = m := by omega
  have hn32 : min n 32 = n := by omega
  have s1 := u_shl x m
  have s2 := u_shr x n
  have s1' : (u x * 2 ^ m) % 4294967296 = u (x <<< m) := by rw [← IntKind.wrap_u32', s1]
  have hfin : x <<< m ||| x >>> n = rotr x n := by unfold rotr; rw [hm]
  have k0 : (0 : Int) ≤ (m : Int) := by omega
  have k1 : (m : Int) ≤ 32 := by omega
  have k2 : (0 : Int) ≤ (n : Int) := by omega
  have k3 : (n : Int) ≤ 32 := by omega
  clear hm
  go_enter Tryz.func206, Tryz.ntmps206
  go_wp2
  go_ret
  exact ⟨rfl, rfl⟩

set_option maxHeartbeats 400000 in
theorem turned_any (x : BitVec 32) (n : Nat) (h1 : 1 ≤ n) (h2 : n ≤ 31) (w : World) :
    Calls Tryz.prog 203 #[.int .u32 (u x), .int .i64 (n : Int)] w fun e w' => e = .returned (.int .u32 (u (rotr x n))) ∧ w' = w := by
  have hw : IntKind.i64.wrap (-(n : Int)) = -(n : Int) := by unfold IntKind.wrap; simp [IntKind.bits, IntKind.signed]; omega
  go_enter Tryz.func203, Tryz.ntmps203
  go_wp2_with (go_at_call 206; refine (rot_any x n h1 h2 _).mono ?_; rintro e w' ⟨rfl, rfl⟩)
  go_ret
  exact ⟨rfl, rfl⟩

theorem turned2 (x : BitVec 32) (w : World) : Calls Tryz.prog 203 #[.int .u32 (u x), .int .i64 2] w fun e w' => e = .returned (.int .u32 (u (rotr x 2))) ∧ w' = w := turned_any x 2 (by decide) (by decide) w
theorem turned6 (x : BitVec 32) (w : World) : Calls Tryz.prog 203 #[.int .u32 (u x), .int .i64 6] w fun e w' => e = .returned (.int .u32 (u (rotr x 6))) ∧ w' = w := turned_any x 6 (by decide) (by decide) w
theorem turned7 (x : BitVec 32) (w : World) : Calls Tryz.prog 203 #[.int .u32 (u x), .int .i64 7] w fun e w' => e = .returned (.int .u32 (u (rotr x 7))) ∧ w' = w := turned_any x 7 (by decide) (by decide) w
theorem turned11 (x : BitVec 32) (w : World) : Calls Tryz.prog 203 #[.int .u32 (u x), .int .i64 11] w fun e w' => e = .returned (.int .u32 (u (rotr x 11))) ∧ w' = w := turned_any x 11 (by decide) (by decide) w
theorem turned13 (x : BitVec 32) (w : World) : Calls Tryz.prog 203 #[.int .u32 (u x), .int .i64 13] w fun e w' => e = .returned (.int .u32 (u (rotr x 13))) ∧ w' = w := turned_any x 13 (by decide) (by decide) w
theorem turned17 (x : BitVec 32) (w : World) : Calls Tryz.prog 203 #[.int .u32 (u x), .int .i64 17] w fun e w' => e = .returned (.int .u32 (u (rotr x 17))) ∧ w' = w := turned_any x 17 (by decide) (by decide) w
theorem turned18 (x : BitVec 32) (w : World) : Calls Tryz.prog 203 #[.int .u32 (u x), .int .i64 18] w fun e w' => e = .returned (.int .u32 (u (rotr x 18))) ∧ w' = w := turned_any x 18 (by decide) (by decide) w
theorem turned19 (x : BitVec 32) (w : World) : Calls Tryz.prog 203 #[.int .u32 (u x), .int .i64 19] w fun e w' => e = .returned (.int .u32 (u (rotr x 19))) ∧ w' = w := turned_any x 19 (by decide) (by decide) w
theorem turned22 (x : BitVec 32) (w : World) : Calls Tryz.prog 203 #[.int .u32 (u x), .int .i64 22] w fun e w' => e = .returned (.int .u32 (u (rotr x 22))) ∧ w' = w := turned_any x 22 (by decide) (by decide) w
theorem turned25 (x : BitVec 32) (w : World) : Calls Tryz.prog 203 #[.int .u32 (u x), .int .i64 25] w fun e w' => e = .returned (.int .u32 (u (rotr x 25))) ∧ w' = w := turned_any x 25 (by decide) (by decide) w

/-- The word that four bytes make, the highest first. -/
def word4 (a b c d : BitVec 8) : BitVec 32 := a.setWidth 32 <<< 24 ||| b.setWidth 32 <<< 16 ||| c.setWidth 32 <<< 8 ||| d.setWidth 32

set_option maxHeartbeats 400000 in
theorem word_any (a b c d : BitVec 8) (w : World) :
    Calls Tryz.prog 112 #[.int .u8 (ub a), .int .u8 (ub b), .int .u8 (ub c), .int .u8 (ub d)] w fun e w' => e = .returned (.int .u32 (u (word4 a b c d))) ∧ w' = w := by
  go_enter Tryz.func112, Tryz.ntmps112
  go_wp2
  go_ret
  exact ⟨rfl, rfl⟩
end Go.Proofs.YtnflgkobedbemaaGreatDoor.Sh

namespace Go.Proofs.YtnflgkobedbemaaGreatDoor.Sh
open Go.RowKit
set_option maxRecDepth 100000

/-- The bytes lie from address a on. -/
def BytesAt (w : World) (a : Option Addr) (bs : List (BitVec 8)) : Prop :=
  ∀ k (h : k < bs.length), ∃ g o, a = some ⟨g, o, none⟩ ∧ w.cell? ⟨g, o + k, none⟩ = some (.int .u8 (ub bs[k]))

theorem cell_kept {w w' : World} (hb : Below w.heap.size w w') {ad : Addr} {v : Value} (h : w.cell? ad = some v) : w'.cell? ad = some v :=
  (hb.cell (World.block_lt_of_cell? w ad h)).trans h
theorem BytesAt.kept {w w' : World} {a : Option Addr} {bs : List (BitVec 8)} (h : BytesAt w a bs) (hb : Below w.heap.size w w') : BytesAt w' a bs :=
  fun k hk => by obtain ⟨g, o, e, c⟩ := h k hk; exact ⟨g, o, e, cell_kept hb c⟩

/-- What four steps of the register make of four bits. -/
def crcT : List (BitVec 32) := [0#32, 498536548#32, 997073096#32, 651767980#32, 1994146192#32, 1802195444#32, 1303535960#32, 1342533948#32, 3988292384#32, 4027552580#32, 3604390888#32, 3412177804#32, 2607071920#32, 2262029012#32, 2685067896#32, 3183342108#32]
/-- The table lies in its variable. -/
def CrcTab (w : World) : Prop := ∀ j (h : j < crcT.length), w.cell? ⟨1, j, none⟩ = some (.int .u32 (u crcT[j]))
theorem CrcTab.kept {w w' : World} (h : CrcTab w) (hb : Below w.heap.size w w') : CrcTab w' := fun j hj => cell_kept hb (h j hj)

def low4 (r : BitVec 32) : Nat := (r &&& 15#32).toNat
theorem low4_lt (r : BitVec 32) : low4 r < 16 := by
  unfold low4
  rw [BitVec.toNat_and]
  have : r.toNat &&& 15 < 2 ^ 4 := Nat.and_lt_two_pow _ (by decide)
  exact this
/-- Four steps of the register. -/
def step4 (r : BitVec 32) : BitVec 32 := r >>> 4 ^^^ crcT[low4 r]'(low4_lt r)
/-- The parts lie from address a on, each a list of bytes. -/
def PartsAt (w : World) (a : Option Addr) (ps : List (List (BitVec 8))) : Prop :=
  ∀ k (h : k < ps.length), ∃ g o ad cap, a = some ⟨g, o, none⟩ ∧ w.cell? ⟨g, o + k, none⟩ = some (.slice ad ps[k].length cap) ∧ BytesAt w ad ps[k] ∧ ps[k].length ≤ 281474976710656
theorem PartsAt.kept {w w' : World} {a : Option Addr} {ps : List (List (BitVec 8))} (h : PartsAt w a ps) (hb : Below w.heap.size w w') : PartsAt w' a ps :=
  fun k hk => by obtain ⟨g, o, ad, cap, e, c, b, l⟩ := h k hk; exact ⟨g, o, ad, cap, e, cell_kept hb c, b.kept hb, l⟩
theorem flat_snoc {α : Type} (ps : List (List α)) (k : Nat) (h : k < ps.length) : (ps.take (k + 1)).flatten = (ps.take k).flatten ++ ps[k] := by
  rw [List.take_succ_eq_append_getElem h, List.flatten_append]; simp only [List.flatten_cons, List.flatten_nil, List.append_nil]

end Go.Proofs.YtnflgkobedbemaaGreatDoor.Sh

namespace Go.Proofs.YtnflgkobedbemaaGreatDoor.Sh
open Go.RowKit

/-- Block g holds the cells c. -/
structure Row (w : World) (g : Nat) (c : List Value) (t : TypeId) : Prop where
  at_ : w.heap[g]? = some (.cells c.toArray t (0, 0))
section
variable {w w' : World} {g : Nat} {c : List Value} {t : TypeId}
theorem Row.cell (h : Row w g c t) (j : Nat) (v : Value) (hv : c[j]? = some v) : w.cell? ⟨g, j, none⟩ = some v := by
  rw [cell_of_row w g j _ t (0, 0) h.at_]; simpa using hv
theorem Row.frozen (h : Row w g c t) (j : Nat) : w.frozen? ⟨g, j, none⟩ = false := by
  simp [World.frozen?, h.at_]
theorem Row.lt (h : Row w g c t) : g < w.heap.size := (Array.getElem?_eq_some_iff.1 h.at_).1
theorem Row.of_block (h : Row w g c t) (e : w'.heap[g]? = w.heap[g]?) : Row w' g c t := ⟨e.trans h.at_⟩
theorem Row.kept {B : Nat} (h : Row w g c t) (hb : Below B w w') (hg : g < B) : Row w' g c t := ⟨(hb.block g hg).trans h.at_⟩
theorem Row.new (w : World) (c : List Value) (t : TypeId) : Row (w.alloc (.cells c.toArray t)) w.heap.size c t := ⟨heap_alloc_last w _⟩
theorem Row.new' (w : World) (arr : Array Value) (c : List Value) (t : TypeId) (g : Nat) (hg : g = w.heap.size) (h : c.toArray = arr) : Row (w.alloc (.cells arr t)) g c t := by
  subst hg; subst h; exact Row.new w c t
theorem Row.alloc (h : Row w g c t) (o : Obj) : Row (w.alloc o) g c t := ⟨(Below.heap_alloc w o g h.lt).trans h.at_⟩
theorem Row.set (h : Row w g c t) (j : Nat) (v : Value) : Row (w.setCell ⟨g, j, none⟩ v) g (c.set j v) t := by
  refine ⟨?_⟩
  rw [setCell_eq_setRow w g j c.toArray t (0, 0) v h.at_, setRow_heap w g _ _ t (0, 0) h.at_]
  simp
theorem Row.setOther (h : Row w g c t) (a : Addr) (hne : g ≠ a.block) (v : Value) : Row (w.setCell a v) g c t := ⟨(Below.heap_setCell w a v g hne).trans h.at_⟩
theorem Row.row (h : Row w g c t) (c' : List Value) : Row (w.setRow g c'.toArray) g c' t := ⟨setRow_heap w g _ _ t (0, 0) h.at_⟩
theorem Row.rowOther {g' : Nat} (h : Row w g c t) (hne : g ≠ g') (c' : Array Value) : Row (w.setRow g' c') g c t := ⟨(setRow_other w g' g c' hne).trans h.at_⟩
theorem Row.range (h : Row w g c t) (o : Nat) (l : List Value) (hl : ∀ j v, l[j]? = some v → c[o + j]? = some v) : w.rangeAt g o l :=
  fun j v hv => h.cell (o + j) v (hl j v hv)
theorem Row.load {P : Program} (h : Row w g c t) (ty : TypeId) (d : TypeDesc) (hu : P.underlying ty = some d) (hd : (match d with | .struct _ | .array _ _ => true | _ => false) = true) (hi : (P.info? ty).map (·.size) = some c.length) :
    (Instr.loadAt ty (.pointer (some ⟨g, 0, none⟩))).run P w = .ok (.agg c.toArray) w := by
  simp only [Instr.loadAt, Instr.sureAddr, Sem.run_bind, Sem.run_pure, Result.andThen_ok, run_loadVar_row w g t ty c.toArray (0, 0) d h.at_ hu hd (by simpa using hi)]
theorem Row.store {P : Program} (h : Row w g c t) (ty : TypeId) (c' : List Value) (hl : c.length = c'.length) (h1 : ∀ v ∈ c', v.oneCell' = true) (hi : (P.info? ty).map (·.size) = some c'.length) :
    (Instr.storeAt ty (.pointer (some ⟨g, 0, none⟩)) (.agg c'.toArray)).run P w = .ok () (w.setRow g c'.toArray) := by
  simp only [Instr.storeAt, Instr.sureAddr, Sem.run_bind, Sem.run_pure, Result.andThen_ok, run_storeVar_row w g t ty c.toArray c'.toArray h.at_ (by simpa using hi) (by simpa using hl) (all_oneCell_toArray h1)]
theorem Row.result {P : Program} {fn : Func} {p : Tmp} {ty : TypeId} (h : Row w g c t) (hr : fn.results = #[.cell p ty]) (tmps : Array Value) (hp : tmps.getD p undef = .pointer (some ⟨g, 0, none⟩)) (d : TypeDesc)
    (hu : P.underlying ty = some d) (hd : (match d with | .struct _ | .array _ _ => true | _ => false) = true) (hi : (P.info? ty).map (·.size) = some c.length) : (results fn tmps).run P w = .ok (.agg c.toArray) w :=
  results_cell_row hr tmps w g t c.toArray (0, 0) d hp h.at_ hu hd (by simpa using hi)
theorem Row.wpLoad {P : Program} {ops : Array Oper} {rest : List Oper} {o : Oper} {a : Act} {Q : Exit → Act → World → Prop} (h : Row w g c t) (ty : TypeId) (x : Operand) (hgd : o.guard = none) (ho : o.op = .load ty x)
    (hx : a.eval x = .pointer (some ⟨g, 0, none⟩)) (d : TypeDesc) (hu : P.underlying ty = some d) (hd : (match d with | .struct _ | .array _ _ => true | _ => false) = true) (hi : (P.info? ty).map (·.size) = some c.length)
    (k : wpList P ops Q rest (a.put o.dst (.agg c.toArray)) w) : wpList P ops Q (o :: rest) a w :=
  wpList_load_row hgd ty x ho g hx t c.toArray (0, 0) d h.at_ hu hd (by simpa using hi) k
theorem Row.wpStore {P : Program} {ops : Array Oper} {rest : List Oper} {o : Oper} {a : Act} {Q : Exit → Act → World → Prop} (h : Row w g c t) (ty : TypeId) (x y : Operand) (c' : List Value) (hgd : o.guard = none) (ho : o.op = .store ty x y)
    (hx : a.eval x = .pointer (some ⟨g, 0, none⟩)) (hy : a.eval y = .agg c'.toArray) (hl : c.length = c'.length) (h1 : ∀ v ∈ c', v.oneCell' = true) (hi : (P.info? ty).map (·.size) = some c'.length)
    (k : wpList P ops Q rest (a.put o.dst undef) (w.setRow g c'.toArray)) : wpList P ops Q (o :: rest) a w :=
  wpList_store_row hgd ty x y ho g c'.toArray hx hy t c.toArray h.at_ (by simpa using hi) (by simpa using hl) (all_oneCell_toArray h1) k
theorem Row.wpStore' {P : Program} {ops : Array Oper} {rest : List Oper} {o : Oper} {a : Act} {Q : Exit → Act → World → Prop} (h : Row w g c t) (ty : TypeId) (x y : Operand) (c' : List Value) (hgd : o.guard = none) (ho : o.op = .store ty x y)
    (hx : a.eval x = .pointer (some ⟨g, 0, none⟩)) (hy : a.eval y = .agg c'.toArray) (hl : c.length = c'.length) (h1 : ∀ v ∈ c', v.oneCell' = true) (hi : (P.info? ty).map (·.size) = some c'.length)
    (k : ∀ w', Hid (w' = w.setRow g c'.toArray) → wpList P ops Q rest (a.put o.dst undef) w') : wpList P ops Q (o :: rest) a w :=
  h.wpStore ty x y c' hgd ho hx hy hl h1 hi (k _ rfl)
theorem Row.drawn (h : Row w g c t) (n : Nat) : Row { w with drawn := n } g c t := ⟨h.at_⟩
end

theorem cell_drawn {w : World} {a : Addr} {v : Value} (n : Nat) (h : w.cell? a = some v) : ({ w with drawn := n } : World).cell? a = some v := h
theorem frozen_drawn {w : World} {a : Addr} {v : Bool} (n : Nat) (h : w.frozen? a = v) : ({ w with drawn := n } : World).frozen? a = v := h
theorem below_drawn {B : Nat} {a w : World} (h : Below B a w) (n : Nat) : Below B a { w with drawn := n } := ⟨h.os, h.tape, h.output, h.size, h.block⟩
def wv (x : BitVec 32) : Value := .int .u32 (u x)
def bv (x : BitVec 8) : Value := .int .u8 (ub x)
/-- The cells of words, of bytes. -/
def wcells (l : List (BitVec 32)) : List Value := l.map wv
def bcells (l : List (BitVec 8)) : List Value := l.map bv
theorem wcells_get {l : List (BitVec 32)} {j : Nat} (h : j < l.length) : (wcells l)[j]? = some (.int .u32 (u l[j])) := by simp [wcells, wv, h]
theorem bcells_get {l : List (BitVec 8)} {j : Nat} (h : j < l.length) : (bcells l)[j]? = some (.int .u8 (ub l[j])) := by simp [bcells, bv, h]
theorem wcells_set (l : List (BitVec 32)) (j : Nat) (x : BitVec 32) : (wcells l).set j (.int .u32 (u x)) = wcells (l.set j x) := by simp [wcells, wv, List.map_set]
theorem bcells_set (l : List (BitVec 8)) (j : Nat) (x : BitVec 8) : (bcells l).set j (.int .u8 (ub x)) = bcells (l.set j x) := by simp [bcells, bv, List.map_set]
theorem wcells_one (l : List (BitVec 32)) : ∀ v ∈ wcells l, v.oneCell' = true := by
  intro v hv; obtain ⟨x, _, rfl⟩ := List.mem_map.1 hv; rfl
theorem bcells_one (l : List (BitVec 8)) : ∀ v ∈ bcells l, v.oneCell' = true := by
  intro v hv; obtain ⟨x, _, rfl⟩ := List.mem_map.1 hv; rfl
theorem wcells_len (l : List (BitVec 32)) : (wcells l).length = l.length := by simp [wcells]
theorem bcells_len (l : List (BitVec 8)) : (bcells l).length = l.length := by simp [bcells]
end Go.Proofs.YtnflgkobedbemaaGreatDoor.Sh

namespace Go.Proofs.YtnflgkobedbemaaGreatDoor.Sh
open Go.RowKit

def sg0 (x : BitVec 32) : BitVec 32 := rotr x 7 ^^^ rotr x 18 ^^^ x >>> 3
def sg1 (x : BitVec 32) : BitVec 32 := rotr x 17 ^^^ rotr x 19 ^^^ x >>> 10
/-- The t-th word of a block. -/
def blockWord (b : List (BitVec 8)) (t : Nat) : BitVec 32 := word4 (b.getD (4 * t) 0) (b.getD (4 * t + 1) 0) (b.getD (4 * t + 2) 0) (b.getD (4 * t + 3) 0)
/-- The word behind those that are there. -/
def nextWord (ws : List (BitVec 32)) : BitVec 32 :=
  ws.getD (ws.length - 16) 0 + sg0 (ws.getD (ws.length - 15) 0) + ws.getD (ws.length - 7) 0 + sg1 (ws.getD (ws.length - 2) 0)
def firstWords (b : List (BitVec 8)) (n : Nat) : List (BitVec 32) := (List.range n).map (blockWord b)
/-- A block's sixteen words, and n that are made of them. -/
def wordsOf (b : List (BitVec 8)) : Nat → List (BitVec 32)
  | 0 => firstWords b 16
  | n + 1 => wordsOf b n ++ [nextWord (wordsOf b n)]
theorem wordsOf_len (b : List (BitVec 8)) (n : Nat) : (wordsOf b n).length = 16 + n := by
  induction n with
  | zero => simp [wordsOf, firstWords]
  | succ n ih => simp [wordsOf, ih]; omega
/-- Words, and zeros behind them up to 64. -/
def filled (l : List (BitVec 32)) : List (BitVec 32) := l ++ List.replicate (64 - l.length) 0#32
theorem filled_len (l : List (BitVec 32)) (h : l.length ≤ 64) : (filled l).length = 64 := by simp [filled]; omega
theorem filled_set (l : List (BitVec 32)) (x : BitVec 32) (h : l.length < 64) : (filled l).set l.length x = filled (l ++ [x]) := by
  unfold filled
  rw [List.set_append_right _ _ (Nat.le_refl _), Nat.sub_self]
  obtain ⟨n, hn⟩ : ∃ n, 64 - l.length = n + 1 := ⟨63 - l.length, by omega⟩
  have : 64 - (l ++ [x]).length = n := by simp; omega
  rw [hn, this, List.replicate_succ]
  simp
theorem filled_get (l : List (BitVec 32)) (j : Nat) (h : j < l.length) (h2 : j < (filled l).length) : (filled l)[j] = l.getD j 0 := by
  simp [filled, h]
theorem firstWords_snoc (b : List (BitVec 8)) (k : Nat) : firstWords b (k + 1) = firstWords b k ++ [blockWord b k] := by
  simp [firstWords, List.range_succ]
theorem firstWords_len (b : List (BitVec 8)) (k : Nat) : (firstWords b k).length = k := by simp [firstWords]
theorem wget {l : List (BitVec 32)} (hl : l.length ≤ 64) {w : World} {g : Nat} (R : Row w g (wcells (filled l)) 255) (j : Nat) (hj : j < l.length) : w.cell? ⟨g, j, none⟩ = some (.int .u32 (u (l.getD j 0))) := by
  have h2 : j < (filled l).length := by rw [filled_len l hl]; omega
  rw [R.cell j _ (wcells_get h2), filled_get l j hj h2]
theorem wget0 {l : List (BitVec 32)} (hl : l.length ≤ 64) {w : World} {g : Nat} (R : Row w g (wcells (filled l)) 255) (j : Nat) (hj : j < 64) : ∃ v, w.cell? ⟨g, j, none⟩ = some v :=
  ⟨_, R.cell j _ (wcells_get (by rw [filled_len l hl]; exact hj))⟩
theorem filled_full (l : List (BitVec 32)) (h : l.length = 64) : filled l = l := by simp [filled, h]
end Go.Proofs.YtnflgkobedbemaaGreatDoor.Sh
