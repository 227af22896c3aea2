import Derived.Test.YtkhogbnoincbeabRtBase
import Derived.Laws.AppendOwn
import Derived.Laws.AppendOwnNone
import Derived.Laws.OwnMore
import Derived.Laws.MakeOwn
import Derived.Laws.IdiomStrings
import Derived.Laws.Strings
namespace Go.Proofs.Ytkhogbnoincbeab
open Go.RowKit Go.Maps Go.Sort
set_option maxRecDepth 100000

theorem cell_kept {w w' : World} (hb : Below w.heap.size w w') {ad : Addr} {v : Value} (h : w.cell? ad = some v) : w'.cell? ad = some v :=
  (hb.cell (World.block_lt_of_cell? w ad h)).trans h
theorem below_drewN {B : Nat} {a w : World} (h : Below B a w) (q : Nat) : Below B a (w.drewN q) := ⟨h.os, h.tape, h.output, h.size, h.block⟩

/-- A byte as the number that a cell holds. -/
def ub (x : BitVec 8) : Int := (x.toNat : Int)
theorem ub_bd (x : BitVec 8) : 0 ≤ ub x ∧ ub x < 256 := by
  unfold ub
  have := x.isLt
  omega
theorem ub_of (n : Int) (h0 : 0 ≤ n) (h1 : n < 256) : n = ub (BitVec.ofNat 8 n.toNat) := by
  unfold ub
  rw [BitVec.toNat_ofNat, Nat.mod_eq_of_lt (by omega)]
  omega
theorem ub_inj {x y : BitVec 8} (h : ub x = ub y) : x = y := by
  unfold ub at h
  exact BitVec.eq_of_toNat_eq (by omega)
@[go_sem] theorem ub_eq (x y : BitVec 8) : (ub x = ub y) = (x = y) := propext ⟨ub_inj, fun h => by rw [h]⟩
theorem ub_ofInt (x : BitVec 8) : BitVec.ofInt 8 (ub x) = x := by
  unfold ub
  rw [BitVec.ofInt_natCast, BitVec.ofNat_toNat, BitVec.setWidth_eq]
theorem ub_wrap (n : Int) : IntKind.u8.wrap n = ub (BitVec.ofInt 8 n) := by
  rw [IntKind.wrap_u8', ub, BitVec.toNat_ofInt]
  omega
@[go_sem] theorem ub_wrap_ub (x : BitVec 8) : IntKind.u8.wrap (ub x) = ub x := by rw [ub_wrap, ub_ofInt]
@[go_sem] theorem ub_xor (x y : BitVec 8) : bits .xor .u8 (ub x) (ub y) = ub (x ^^^ y) := by
  show IntKind.u8.wrap ((BitVec.ofInt 8 (ub x) ^^^ BitVec.ofInt 8 (ub y)).toNat : Int) = _
  rw [ub_ofInt, ub_ofInt]; exact ub_wrap_ub _

/-- The bytes lie from address a on. -/
def BytesAt (w : World) (a : Option Addr) (bs : List (BitVec 8)) : Prop :=
  ∀ k (h : k < bs.length), ∃ g o, a = some ⟨g, o, none⟩ ∧ w.cell? ⟨g, o + k, none⟩ = some (.int .u8 (ub bs[k]))
theorem BytesAt.kept {w w' : World} {a : Option Addr} {bs : List (BitVec 8)} (h : BytesAt w a bs) (hb : Below w.heap.size w w') : BytesAt w' a bs :=
  fun k hk => by obtain ⟨g, o, e, c⟩ := h k hk; exact ⟨g, o, e, cell_kept hb c⟩
def bv (x : BitVec 8) : Value := .int .u8 (ub x)
def bcells (l : List (BitVec 8)) : List Value := l.map bv
theorem bcells_get {l : List (BitVec 8)} {j : Nat} (h : j < l.length) : (bcells l)[j]? = some (.int .u8 (ub l[j])) := by simp [bcells, bv, h]
theorem bcells_set (l : List (BitVec 8)) (j : Nat) (x : BitVec 8) : (bcells l).set j (.int .u8 (ub x)) = bcells (l.set j x) := by simp [bcells, bv, List.map_set]
theorem bcells_one (l : List (BitVec 8)) : ∀ v ∈ bcells l, v.oneCell' = true := by
  intro v hv; obtain ⟨x, _, rfl⟩ := List.mem_map.1 hv; rfl
theorem bcells_len (l : List (BitVec 8)) : (bcells l).length = l.length := by simp [bcells]
def z (n : Nat) : List (BitVec 8) := List.replicate n 0#8
theorem z_len (n : Nat) : (z n).length = n := List.length_replicate
theorem BytesAt_nil (w : World) (a : Option Addr) : BytesAt w a [] := fun k hk => by simp at hk
theorem made0 (n : Nat) : madeCells #[.int .u8 0] n = (bcells (z n)).toArray := by
  apply Array.ext_getElem?
  intro j
  by_cases h : j < n
  · simp [madeCells, bcells, h, Nat.mod_one, bv, z]; rfl
  · simp [madeCells, bcells, h, z]
theorem info5 : ∃ i : TypeInfo, Try.prog.info? 5 = some i ∧ i.zero = some (.int .u8 0) ∧ i.size = 1 ∧ i.bytes = 1 := by
  have h : (Try.prog.info? 5).map (fun i => (i.zero, i.size, i.bytes)) = some (some (.int .u8 0), 1, 1) := by kernel_rfl
  cases hq : Try.prog.info? 5 with
  | none => rw [hq] at h; cases h
  | some i => rw [hq] at h; simp at h; exact ⟨i, rfl, h.1, h.2.1, h.2.2⟩
theorem make_run (w : World) (n : Nat) (hn : n ≤ 140737488355328) : (Instr.makeSlice 27 (.int .i64 (n : Int)) (.int .i64 (n : Int))).run Try.prog w = .ok (.slice (some ⟨w.heap.size, 0, none⟩) n n) (w.alloc (.cells (bcells (z n)).toArray 5)) := by
  obtain ⟨i, h1, h2, h3, h4⟩ := info5
  have hr := run_make (P := Try.prog) w 27 5 i (.int .u8 0) Try.underlying27 h1 h2 .i64 .i64 (n : Int) (n : Int) (by omega) (by omega) (by rw [h4]; omega) (by omega)
  simp only [Int.toNat_natCast, h3, Nat.mul_one, Value.cells, made0] at hr
  exact hr
theorem Row.bytes {w : World} {g : Nat} {bs : List (BitVec 8)} {t : TypeId} (h : Row w g (bcells bs) t) : BytesAt w (some ⟨g, 0, none⟩) bs := fun k hk => ⟨g, 0, rfl, by rw [Nat.zero_add]; exact h.cell k _ (bcells_get hk)⟩
/-- Bytes as a string. -/
def strOf (bs : List (BitVec 8)) : ByteArray := ⟨(bs.map UInt8.ofBitVec).toArray⟩
theorem ofBits_inj : ∀ {a b : List (BitVec 8)}, a.map UInt8.ofBitVec = b.map UInt8.ofBitVec → a = b
  | [], [], _ => rfl
  | x :: a, y :: b, h => by
    simp only [List.map_cons, List.cons.injEq] at h
    have h1 : x = y := by injection h.1
    rw [h1, ofBits_inj h.2]
theorem strOf_list (a : List (BitVec 8)) : (strOf a).toList = a.map UInt8.ofBitVec := by rw [ByteArray.toList_eq]; simp [strOf]
theorem convert_any {w : World} {a : Option Addr} {n cap : Nat} {bs : List (BitVec 8)} (hB : BytesAt w a bs) (hn : bs.length = n) : (convert 27 9 (.slice a n cap)).run Try.prog w = .ok (.string (strOf bs)) w := by
  cases a with
  | some ad =>
    have h := run_convert_bytes_back (P := Try.prog) w 27 9 5 ad cap (bs.map UInt8.ofBitVec) Try.underlying27 Try.underlying5 Try.underlying9 (fun j hj => by
      have hj' : j < bs.length := by simpa using hj
      obtain ⟨g, o, e, c⟩ := hB j hj'
      cases e
      rw [Addr.add_mid, c]
      simp [ub])
    rw [List.length_map, hn] at h
    exact h
  | none =>
    have h0 : bs = [] := by
      cases bs with
      | nil => rfl
      | cons x l => obtain ⟨g, o, e, _⟩ := hB 0 (by simp); cases e
    subst h0
    subst hn
    rw [run_convert_bytes_string w 27 9 5 none _ cap Try.underlying27 Try.underlying5 Try.underlying9]
    rfl
end Go.Proofs.Ytkhogbnoincbeab
