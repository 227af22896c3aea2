import Derived.Test.YtoeldomhkeancaaRtBase
import Derived.Handy
import Derived.Laws.AppendOwn
import Derived.Laws.AppendOwnNone
import Derived.Laws.OwnMore
import Derived.Laws.MakeOwn
import Derived.Laws.IdiomStrings
import Derived.Laws.Strings
import Derived.Maps.AppendAt
namespace Go.Proofs.Ytoeldomhkeancaa
open Go.RowKit Go.Maps
set_option maxRecDepth 100000


/-- A word of 32 bits as the number that a cell holds. -/
def u (x : BitVec 32) : Int := (x.toNat : Int)
/-- A byte likewise. -/
def ub (x : BitVec 8) : Int := (x.toNat : Int)

theorem u_bd (x : BitVec 32) : 0 ≤ u x ∧ u x < 4294967296 := by
  unfold u
  have := x.isLt
  omega
theorem ub_bd (x : BitVec 8) : 0 ≤ ub x ∧ ub x < 256 := by
  unfold ub
  have := x.isLt
  omega
theorem u_of (n : Int) (h0 : 0 ≤ n) (h1 : n < 4294967296) : n = u (BitVec.ofNat 32 n.toNat) := by
  unfold u
  rw [BitVec.toNat_ofNat, Nat.mod_eq_of_lt (by omega)]
  omega
theorem ub_of (n : Int) (h0 : 0 ≤ n) (h1 : n < 256) : n = ub (BitVec.ofNat 8 n.toNat) := by
  unfold ub
  rw [BitVec.toNat_ofNat, Nat.mod_eq_of_lt (by omega)]
  omega
theorem u_inj {x y : BitVec 32} (h : u x = u y) : x = y := by
  unfold u at h
  exact BitVec.eq_of_toNat_eq (by omega)
theorem ub_inj {x y : BitVec 8} (h : ub x = ub y) : x = y := by
  unfold ub at h
  exact BitVec.eq_of_toNat_eq (by omega)
@[go_sem] theorem u_eq (x y : BitVec 32) : (u x = u y) = (x = y) := propext ⟨u_inj, fun h => by rw [h]⟩
@[go_sem] theorem ub_eq (x y : BitVec 8) : (ub x = ub y) = (x = y) := propext ⟨ub_inj, fun h => by rw [h]⟩

theorem u_ofInt (x : BitVec 32) : BitVec.ofInt 32 (u x) = x := by
  unfold u
  rw [BitVec.ofInt_natCast, BitVec.ofNat_toNat, BitVec.setWidth_eq]
theorem ub_ofInt (x : BitVec 8) : BitVec.ofInt 8 (ub x) = x := by
  unfold ub
  rw [BitVec.ofInt_natCast, BitVec.ofNat_toNat, BitVec.setWidth_eq]
theorem u_wrap (n : Int) : IntKind.u32.wrap n = u (BitVec.ofInt 32 n) := by
  rw [IntKind.wrap_u32', u, BitVec.toNat_ofInt]
  omega
theorem ub_wrap (n : Int) : IntKind.u8.wrap n = ub (BitVec.ofInt 8 n) := by
  rw [IntKind.wrap_u8', ub, BitVec.toNat_ofInt]
  omega
@[go_sem] theorem u_wrap_u (x : BitVec 32) : IntKind.u32.wrap (u x) = u x := by rw [u_wrap, u_ofInt]
@[go_sem] theorem ub_wrap_ub (x : BitVec 8) : IntKind.u8.wrap (ub x) = ub x := by rw [ub_wrap, ub_ofInt]
@[go_sem] theorem u_xor (x y : BitVec 32) : bits .xor .u32 (u x) (u y) = u (x ^^^ y) := by
  show IntKind.u32.wrap ((BitVec.ofInt 32 (u x) ^^^ BitVec.ofInt 32 (u y)).toNat : Int) = _
  rw [u_ofInt, u_ofInt]; exact u_wrap_u _
@[go_sem] theorem u_and (x y : BitVec 32) : bits .and .u32 (u x) (u y) = u (x &&& y) := by
  show IntKind.u32.wrap ((BitVec.ofInt 32 (u x) &&& BitVec.ofInt 32 (u y)).toNat : Int) = _
  rw [u_ofInt, u_ofInt]; exact u_wrap_u _
@[go_sem] theorem u_or (x y : BitVec 32) : bits .or .u32 (u x) (u y) = u (x ||| y) := by
  show IntKind.u32.wrap ((BitVec.ofInt 32 (u x) ||| BitVec.ofInt 32 (u y)).toNat : Int) = _
  rw [u_ofInt, u_ofInt]; exact u_wrap_u _
@[go_sem] theorem u_not (x : BitVec 32) : bits .xor .u32 4294967295 (u x) = u (~~~x) := by
  have e : (4294967295 : Int) = u (BitVec.allOnes 32) := by decide
  rw [e, u_xor, BitVec.allOnes_xor]
@[go_sem high] theorem unary_not_u32 (x : BitVec 32) : Op.unary .xor (.int .u32 (u x)) = pure (.int .u32 (u (~~~x))) := by
  rw [unary_xor, intBits_xor]
  have e : (if IntKind.u32.signed = true then (-1 : Int) else IntKind.u32.max) = 4294967295 := by decide
  rw [e, u_not]
@[go_sem] theorem u_add (x y : BitVec 32) : IntKind.u32.wrap (u x + u y) = u (x + y) := by
  rw [IntKind.wrap_u32', u, u, u, BitVec.toNat_add]
  omega
@[go_sem] theorem u_add' (x y : BitVec 32) : (u x + u y) % 4294967296 = u (x + y) := by
  rw [← IntKind.wrap_u32', u_add]
theorem u_shr (x : BitVec 32) (k : Nat) : u x / 2 ^ k = u (x >>> k) := by
  unfold u
  rw [BitVec.toNat_ushiftRight, Nat.shiftRight_eq_div_pow]
  simp
theorem u_shl (x : BitVec 32) (k : Nat) : IntKind.u32.wrap (u x * 2 ^ k) = u (x <<< k) := by
  unfold u
  rw [IntKind.wrap_u32', BitVec.toNat_shiftLeft, Nat.shiftLeft_eq]
  simp
@[go_sem high] theorem shift_shr_word (x : BitVec 32) (yk : IntKind) (y : Int) (h0 : 0 ≤ y) (h1 : y ≤ 32) : Op.shift .shr .u32 (u x) yk y = pure (.int .u32 (u (x >>> y.toNat))) := by
  rw [shift_shr_u32 yk (u x) y h0 h1, u_shr]
@[go_sem high] theorem shift_shl_word (x : BitVec 32) (yk : IntKind) (y : Int) (h0 : 0 ≤ y) (h1 : y ≤ 32) : Op.shift .shl .u32 (u x) yk y = pure (.int .u32 (u (x <<< y.toNat))) := by
  rw [shift_shl_u32 yk (u x) y h0 h1, u_shl]
@[go_sem] theorem u_shr3 (x : BitVec 32) : u x / 8 = u (x >>> 3) := u_shr x 3
@[go_sem] theorem u_shr4 (x : BitVec 32) : u x / 16 = u (x >>> 4) := u_shr x 4
@[go_sem] theorem u_shr8 (x : BitVec 32) : u x / 256 = u (x >>> 8) := u_shr x 8
@[go_sem] theorem u_shr10 (x : BitVec 32) : u x / 1024 = u (x >>> 10) := u_shr x 10
@[go_sem] theorem u_shr16 (x : BitVec 32) : u x / 65536 = u (x >>> 16) := u_shr x 16
@[go_sem] theorem u_shr24 (x : BitVec 32) : u x / 16777216 = u (x >>> 24) := u_shr x 24
@[go_sem] theorem u_shl8 (x : BitVec 32) : IntKind.u32.wrap (u x * 256) = u (x <<< 8) := u_shl x 8
@[go_sem] theorem u_shl16 (x : BitVec 32) : IntKind.u32.wrap (u x * 65536) = u (x <<< 16) := u_shl x 16
@[go_sem] theorem u_shl24 (x : BitVec 32) : IntKind.u32.wrap (u x * 16777216) = u (x <<< 24) := u_shl x 24
/-- A byte made a word, and the lowest byte of a word. -/
@[go_sem] theorem u_of_byte (b : BitVec 8) : IntKind.u32.wrap (ub b) = u (b.setWidth 32) := by
  rw [IntKind.wrap_u32', u, ub, BitVec.toNat_setWidth]
  omega
@[go_sem] theorem byte_of_u (x : BitVec 32) : IntKind.u8.wrap (u x) = ub (x.setWidth 8) := by
  rw [IntKind.wrap_u8', u, ub, BitVec.toNat_setWidth]
  omega
@[go_sem] theorem u_and15 (x : BitVec 32) : bits .and .u32 (u x) 15 = u (x &&& 15#32) := by
  have e : (15 : Int) = u 15#32 := by decide
  rw [e, u_and]



theorem cell_kept {w w' : World} (hb : Below w.heap.size w w') {ad : Addr} {v : Value} (h : w.cell? ad = some v) : w'.cell? ad = some v :=
  (hb.cell (World.block_lt_of_cell? w ad h)).trans h
theorem below_drewN {B : Nat} {a w : World} (h : Below B a w) (q : Nat) : Below B a (w.drewN q) := ⟨h.os, h.tape, h.output, h.size, h.block⟩

/-- The bytes lie from address a on. -/
def BytesAt (w : World) (a : Option Addr) (bs : List (BitVec 8)) : Prop :=
  ∀ k (h : k < bs.length), ∃ g o, a = some ⟨g, o, none⟩ ∧ w.cell? ⟨g, o + k, none⟩ = some (.int .u8 (ub bs[k]))
theorem BytesAt.kept {w w' : World} {a : Option Addr} {bs : List (BitVec 8)} (h : BytesAt w a bs) (hb : Below w.heap.size w w') : BytesAt w' a bs :=
  fun k hk => by obtain ⟨g, o, e, c⟩ := h k hk; exact ⟨g, o, e, cell_kept hb c⟩
def bv (x : BitVec 8) : Value := .int .u8 (ub x)
def bcells (l : List (BitVec 8)) : List Value := l.map bv
theorem bcells_get {l : List (BitVec 8)} {j : Nat} (h : j < l.length) : (bcells l)[j]? = some (.int .u8 (ub l[j])) := by simp [bcells, bv, h]
theorem bcells_set (l : List (BitVec 8)) (j : Nat) (x : BitVec 8) : (bcells l).set j (.int .u8 (ub x)) = bcells (l.set j x) := by simp [bcells, bv, List.map_set]
theorem bcells_one (l : List (BitVec 8)) : ∀ v ∈ bcells l, v.oneCell' = true := by
  intro v hv; obtain ⟨x, _, rfl⟩ := List.mem_map.1 hv; rfl
theorem bcells_len (l : List (BitVec 8)) : (bcells l).length = l.length := by simp [bcells]
def z (n : Nat) : List (BitVec 8) := List.replicate n 0#8
theorem z_len (n : Nat) : (z n).length = n := List.length_replicate
theorem BytesAt_nil (w : World) (a : Option Addr) : BytesAt w a [] := fun k hk => by simp at hk
theorem made0 (n : Nat) : madeCells #[.int .u8 0] n = (bcells (z n)).toArray := by
  apply Array.ext_getElem?
  intro j
  by_cases h : j < n
  · simp [madeCells, bcells, h, Nat.mod_one, bv, z]; rfl
  · simp [madeCells, bcells, h, z]
theorem info5 : ∃ i : TypeInfo, Try.prog.info? 5 = some i ∧ i.zero = some (.int .u8 0) ∧ i.size = 1 ∧ i.bytes = 1 := by
  have h : (Try.prog.info? 5).map (fun i => (i.zero, i.size, i.bytes)) = some (some (.int .u8 0), 1, 1) := by kernel_rfl
  cases hq : Try.prog.info? 5 with
  | none => rw [hq] at h; cases h
  | some i => rw [hq] at h; simp at h; exact ⟨i, rfl, h.1, h.2.1, h.2.2⟩
theorem make_run (w : World) (n : Nat) (hn : n ≤ 140737488355328) : (Instr.makeSlice 23 (.int .i64 (n : Int)) (.int .i64 (n : Int))).run Try.prog w = .ok (.slice (some ⟨w.heap.size, 0, none⟩) n n) (w.alloc (.cells (bcells (z n)).toArray 5)) := by
  obtain ⟨i, h1, h2, h3, h4⟩ := info5
  have hr := run_make (P := Try.prog) w 23 5 i (.int .u8 0) Try.underlying23 h1 h2 .i64 .i64 (n : Int) (n : Int) (by omega) (by omega) (by rw [h4]; omega) (by omega)
  simp only [Int.toNat_natCast, h3, Nat.mul_one, Value.cells, made0] at hr
  exact hr
theorem Row.bytes {w : World} {g : Nat} {bs : List (BitVec 8)} {t : TypeId} (h : Row w g (bcells bs) t) : BytesAt w (some ⟨g, 0, none⟩) bs := fun k hk => ⟨g, 0, rfl, by rw [Nat.zero_add]; exact h.cell k _ (bcells_get hk)⟩
/-- Bytes as a string. -/
def strOf (bs : List (BitVec 8)) : ByteArray := ⟨(bs.map UInt8.ofBitVec).toArray⟩
theorem ofBits_inj : ∀ {a b : List (BitVec 8)}, a.map UInt8.ofBitVec = b.map UInt8.ofBitVec → a = b
  | [], [], _ => rfl
  | x :: a, y :: b, h => by
    simp only [List.map_cons, List.cons.injEq] at h
    have h1 : x = y := by injection h.1
    rw [h1, ofBits_inj h.2]
theorem strOf_list (a : List (BitVec 8)) : (strOf a).toList = a.map UInt8.ofBitVec := by rw [ByteArray.toList_eq]; simp [strOf]
theorem convert_any {w : World} {a : Option Addr} {n cap : Nat} {bs : List (BitVec 8)} (hB : BytesAt w a bs) (hn : bs.length = n) : (convert 23 9 (.slice a n cap)).run Try.prog w = .ok (.string (strOf bs)) w := by
  cases a with
  | some ad =>
    have h := run_convert_bytes_back (P := Try.prog) w 23 9 5 ad cap (bs.map UInt8.ofBitVec) Try.underlying23 Try.underlying5 Try.underlying9 (fun j hj => by
      have hj' : j < bs.length := by simpa using hj
      obtain ⟨g, o, e, c⟩ := hB j hj'
      cases e
      rw [Addr.add_mid, c]
      simp [ub])
    rw [List.length_map, hn] at h
    exact h
  | none =>
    have h0 : bs = [] := by
      cases bs with
      | nil => rfl
      | cons x l => obtain ⟨g, o, e, _⟩ := hB 0 (by simp); cases e
    subst h0
    subst hn
    rw [run_convert_bytes_string w 23 9 5 none _ cap Try.underlying23 Try.underlying5 Try.underlying9]
    rfl


/-- Nothing but what S says is another one. -/
structure Fr (S : Nat → Prop) (w w' : World) : Prop where
  os : w'.os = w.os
  tape : w'.tape = w.tape
  output : w'.output = w.output
  size : w.heap.size ≤ w'.heap.size
  block : ∀ k, k < w.heap.size → ¬ S k → w'.heap[k]? = w.heap[k]?
section
variable {S T : Nat → Prop} {w w' w'' : World}
theorem Fr.refl (S : Nat → Prop) (w : World) : Fr S w w := ⟨rfl, rfl, rfl, Nat.le_refl _, fun _ _ _ => rfl⟩
theorem Fr.of_below {B : Nat} (h : Below B w w') (hB : w.heap.size ≤ B) : Fr S w w' := ⟨h.os, h.tape, h.output, h.size, fun k hk _ => h.block k (by omega)⟩
theorem Fr.trans (h : Fr S w w') (k : Fr T w' w'') (hT : ∀ x, T x → S x ∨ w.heap.size ≤ x) : Fr S w w'' :=
  ⟨k.os.trans h.os, k.tape.trans h.tape, k.output.trans h.output, Nat.le_trans h.size k.size, fun x hx hS => (k.block x (Nat.lt_of_lt_of_le hx h.size) (fun ht => by rcases hT x ht with e | e; exact hS e; omega)).trans (h.block x hx hS)⟩
theorem Fr.wider (h : Fr S w w') (hT : ∀ x, S x → T x) : Fr T w w' := ⟨h.os, h.tape, h.output, h.size, fun k hk hp => h.block k hk (fun hm => hp (hT k hm))⟩
theorem Fr.of_grown {r : Option Nat} (h : w.grownBy w' r) (hr : ∀ k, r = some k → S k ∨ w.heap.size ≤ k) : Fr S w w' :=
  ⟨h.os, h.tape, h.output, h.size, fun k hk hS => h.block k hk (fun e => by rcases hr k e.symm with e | e; exact hS e; omega)⟩
theorem Fr.cell (h : Fr S w w') {a : Addr} {v : Value} (hc : w.cell? a = some v) (hS : ¬ S a.block) : w'.cell? a = some v := by
  have hl := World.block_lt_of_cell? w a hc
  rw [← hc]
  unfold World.cell?
  rw [h.block a.block hl hS]
theorem Fr.row (h : Fr S w w') {g : Nat} {c : List Value} {t : TypeId} (hr : Row w g c t) (hS : ¬ S g) : Row w' g c t := ⟨(h.block g hr.lt hS).trans hr.at_⟩
theorem Fr.below {B : Nat} (h : Fr S w w') (hS : ∀ x, S x → B ≤ x) (hB : B ≤ w.heap.size) : Below B w w' :=
  ⟨h.os, h.tape, h.output, h.size, fun k hk => h.block k (by omega) (fun e => by have := hS k e; omega)⟩
theorem Fr.grown (h : Fr S w w') {g : Nat} (hS : ∀ x, S x → x = g ∨ w.heap.size ≤ x) : w.grownBy w' (some g) :=
  ⟨h.os, h.tape, h.output, h.size, fun k hk e => h.block k hk (fun hs => by rcases hS k hs with e' | e'; exact e (by rw [e']); omega)⟩
theorem Fr.drewN (h : Fr S w w') (q : Nat) : Fr S w (w'.drewN q) := ⟨h.os, h.tape, h.output, h.size, h.block⟩
end
theorem cell_drewN {w : World} {m : Nat} {ad : Addr} {v : Value} (h : w.cell? ad = some v) : (w.drewN m).cell? ad = some v := h
theorem own_ge {w : World} {base : Nat} {e : TypeId} {size : Nat} {v : Value} {n : Nat} {xs : List Value} (h : w.ownsRow base e size v n xs) {g : Nat} (hg : v.ownBlock = some g) : base ≤ g := by
  rcases h.2 with ⟨rfl, _⟩ | ⟨g', cap, cur, rfl, h1, _⟩
  · simp [Value.ownBlock] at hg
  · simp [Value.ownBlock] at hg; omega
theorem own_below {w w' : World} {base : Nat} {e : TypeId} {size : Nat} {v : Value} {n : Nat} {xs : List Value} (h : w.ownsRow base e size v n xs) (hb : Below w.heap.size w w') : w'.ownsRow base e size v n xs := by
  refine ⟨h.1, h.2.imp id ?_⟩
  rintro ⟨g, cap, cur, h1, h2, h3, h4⟩
  exact ⟨g, cap, cur, h1, h2, (hb.block g (Array.getElem?_eq_some_iff.1 h3).1).trans h3, h4⟩
theorem Fr.own {S : Nat → Prop} {w w' : World} (hf : Fr S w w') {base : Nat} {e : TypeId} {size : Nat} {v : Value} {n : Nat} {xs : List Value} (h : w.ownsRow base e size v n xs) (hv : ∀ x, v.ownBlock = some x → ¬ S x) : w'.ownsRow base e size v n xs := by
  refine ⟨h.1, h.2.imp id ?_⟩
  rintro ⟨g, cap, cur, h1, h2, h3, h4⟩
  exact ⟨g, cap, cur, h1, h2, (hf.block g (Array.getElem?_eq_some_iff.1 h3).1 (hv g (by rw [h1]; rfl))).trans h3, h4⟩
theorem own_lt {w : World} {base : Nat} {e : TypeId} {size : Nat} {v : Value} {n : Nat} {xs : List Value} (h : w.ownsRow base e size v n xs) {g : Nat} (hg : v.ownBlock = some g) : g < w.heap.size := by
  rcases h.2 with ⟨rfl, _⟩ | ⟨g', cap, cur, rfl, h1, h2, _⟩
  · simp [Value.ownBlock] at hg
  · simp [Value.ownBlock] at hg
    subst hg
    exact (Array.getElem?_eq_some_iff.1 h2).1
theorem own_less {w : World} {base b2 : Nat} {e : TypeId} {size : Nat} {v : Value} {n : Nat} {xs : List Value} (h : w.ownsRow base e size v n xs) (hb : b2 ≤ base) : w.ownsRow b2 e size v n xs := by
  refine ⟨h.1, h.2.imp id ?_⟩
  rintro ⟨g, cap, cur, h1, h2, h3⟩
  exact ⟨g, cap, cur, h1, Nat.le_trans hb h2, h3⟩
/-- An own row of bytes. -/
abbrev OwnBy (w : World) (base : Nat) (v : Value) (l : List (BitVec 8)) : Prop := w.ownsRow base 5 1 v l.length (bcells l)
theorem ownBy_shape {w : World} {base : Nat} {v : Value} {l : List (BitVec 8)} (h : OwnBy w base v l) : ∃ a cap, v = .slice a l.length cap ∧ BytesAt w a l ∧ l.length ≤ cap ∧ cap ≤ maxLen ∧ (a = none → cap = 0) ∧ (∀ g o, a = some ⟨g, o, none⟩ → base ≤ g ∧ o = 0 ∧ ∃ cur, w.heap[g]? = some (.cells cur 5 (0, 0)) ∧ cur.size = cap) := by
  obtain ⟨hl, ⟨rfl, hn⟩ | ⟨g, cap, cur, rfl, hb, hg, hnc, hcm, hcs, htk⟩⟩ := h
  · exact ⟨none, 0, by rw [hn], fun k hk => by omega, by omega, Nat.zero_le _, fun _ => rfl, fun g o e => (by cases e)⟩
  · refine ⟨some ⟨g, 0, none⟩, cap, rfl, fun k hk => ⟨g, 0, rfl, ?_⟩, hnc, hcm, fun e => (by cases e), fun g' o e => (by cases e; exact ⟨hb, rfl, cur, hg, by simpa using hcs⟩)⟩
    have h1 := bcells_get hk
    rw [Nat.zero_add, cell_of_row w g _ _ _ _ hg, ← h1, ← htk, List.getElem?_take, if_pos (by omega), Array.getElem?_toList]
/-- 'append' of bytes that may be none to an own row. -/
theorem wpAppendA {ops : Array Oper} {rest : List Oper} {o : Oper} {a : Act} {w : World} {Q : Exit → Act → World → Prop} (s x : Operand) (hgd : o.guard = none) (ho : o.op = .call { callee := .builtin .append, args := #[s, x], argTypes := #[23, 23] })
    {base k : Nat} {v : Value} {old : List (BitVec 8)} (hs : a.eval s = v) (hown : w.ownsRow base 5 1 v k (bcells old)) (hbase : base ≤ w.heap.size)
    {ax : Option Addr} {n c : Nat} {bs : List (BitVec 8)} (hx : a.eval x = .slice ax n c) (hz : ax = none → c = 0) (hn : bs.length = n) (hB : BytesAt w ax bs) (hl : k + n ≤ 140737488355328)
    (h : ∀ w' v', Hid (w'.ownsRow base 5 1 v' (k + n) (bcells (old ++ bs))) → Hid (w.grownBy w' v.ownBlock ∧ (v'.ownBlock = v.ownBlock ∨ v'.ownBlock = some w.heap.size)) → wpList Try.prog ops Q rest (a.put o.dst v') w') : wpList Try.prog ops Q (o :: rest) a w := by
  obtain ⟨i, h1, h2, h3, h4⟩ := info5
  subst hn
  cases ax with
  | none =>
    obtain rfl : bs = [] := by
      cases bs with
      | nil => rfl
      | cons b l => obtain ⟨g, o, e, _⟩ := hB 0 (by simp); cases e
    obtain rfl : c = 0 := hz rfl
    refine wpList_append_own_none hgd s x 23 ho base 5 i 1 Try.underlying23 h1 v k (bcells old) hs hown hx (h w v ?_ ⟨World.grownBy.refl _ _, .inl rfl⟩)
    show World.ownsRow _ _ _ _ _ _ _
    rw [List.append_nil]
    exact hown
  | some ad =>
    refine wpList_append_own_at w hgd s x 23 ho base 5 i (.int .u8 0) 1 1 Try.underlying23 h1 h2 h3 h4 rfl (by decide) v k (bcells old) hs hown ad bs.length c (bcells bs) hx (by rw [bcells_len]; omega) ?_ (bcells_one _) (by unfold maxLen; omega) (by omega) hbase ?_
    · intro j u hv
      have hj : j < bs.length := by
        have := (List.getElem?_eq_some_iff.1 hv).1
        rwa [bcells_len] at this
      obtain ⟨g2, o2, e2, c2⟩ := hB j hj
      cases e2
      rw [bcells_get hj] at hv
      rw [Addr.add_mid, c2]
      exact hv
    · intro v' w' hown' hgrow _ hat
      refine h w' v' ?_ ⟨hgrow, hat⟩
      show World.ownsRow _ _ _ _ _ _ _
      rw [show bcells (old ++ bs) = bcells old ++ bcells bs by simp [bcells]]
      exact hown'
theorem strOf_eq (a b : List (BitVec 8)) : ((strOf a).toList == (strOf b).toList) = decide (a = b) := by
  rw [strOf_list, strOf_list]
  by_cases h : a = b
  · subst h; simp
  · rw [decide_eq_false h, beq_eq_false_iff_ne]
    exact fun e => h (ofBits_inj e)


abbrev pt (g o : Nat) : Value := .pointer (some ⟨g, o, none⟩)
theorem below_new (w : World) (o : Obj) : Below w.heap.size w (w.alloc o) := (Below.refl _ _).alloc (Nat.le_refl _) _
theorem below_two {B : Nat} {w w1 w2 : World} (h1 : Below B w w1) (h2 : Below w1.heap.size w1 w2) (hB : B ≤ w.heap.size) : Below B w w2 := h1.trans (h2.mono (Nat.le_trans hB h1.size))
theorem own_nil (w : World) (base : Nat) : OwnBy w base (.slice none 0 0) [] := ⟨rfl, .inl ⟨rfl, rfl⟩⟩
set_option maxHeartbeats 1000000 in
/-- A copy of bytes (slices.Clone), as an own row. -/
theorem clone_any {w : World} {a : Option Addr} {n cap : Nat} {bs : List (BitVec 8)} (hB : BytesAt w a bs) (hn : bs.length = n) (hl : n ≤ 140737488355328) :
    Calls Try.prog 37 #[.slice a n cap] w fun e w' => ∃ v, e = .returned v ∧ OwnBy w' w.heap.size v bs ∧ Below w.heap.size w w' := by
  cases a with
  | none =>
    obtain rfl : bs = [] := by
      cases bs with
      | nil => rfl
      | cons b l => obtain ⟨g, o, e, _⟩ := hB 0 (by simp); cases e
    obtain rfl : n = 0 := hn.symm
    clear hB hn
    have HP := hid (own_nil w w.heap.size)
    have he : ∀ w : World, (binOp .eql 23 (.slice none 0 cap) (.slice none 0 0)).run Try.prog w = .ok (.bool true) w := fun _ => rfl
    go_enter Try.func37, Try.ntmps37
    go_wp2
    go_ret
    exact ⟨_, rfl, HP.out, Below.refl _ _⟩
  | some ad =>
    have HB := hid hB
    have HN := hid hn
    have HL := hid hl
    have he : ∀ w : World, (binOp .eql 23 (.slice (some ad) n cap) (.slice none 0 0)).run Try.prog w = .ok (.bool false) w := fun _ => rfl
    clear hB hn hl
    go_enter Try.func37, Try.ntmps37
    go_wp2_with (at_builtin; refine wpAppendA (.tmp 5) (.tmp 6) rfl rfl (base := w.heap.size) (v := .slice (some ⟨w.heap.size, 0, none⟩) 0 0) (old := []) rfl ⟨rfl, .inr ⟨w.heap.size, 0, #[], rfl, Nat.le_refl _, heap_alloc_last w _, Nat.le_refl _, by decide, rfl, rfl⟩⟩ (by simp) rfl (fun e => by cases e) HN.out (HB.out.kept ((Below.refl _ _).alloc (Nat.le_refl _) _)) (by have := HL.out; omega) ?_; intro w' v' hO hb)
    go_ret
    have hg := hb.out.1
    have hb2 : Below w.heap.size w w' := (below_new w _).trans ((Below.refl _ _).grown hg (by simp) (fun g e => by simp [Value.ownBlock] at e; omega))
    have hO2 := hO.out
    rw [List.nil_append, Nat.zero_add, ← HN.out] at hO2
    exact ⟨_, rfl, hO2, hb2⟩
section
variable {S T : Nat → Prop} {w w' w'' : World}
theorem Fr.setCell (h : Fr S w w') (g o : Nat) (v : Value) (hS : S g ∨ w.heap.size ≤ g) : Fr S w (w'.setCell ⟨g, o, none⟩ v) :=
  h.trans (T := fun k => k = g) ⟨rfl, rfl, rfl, by simp, fun k _ hk => Below.heap_setCell w' ⟨g, o, none⟩ v k hk⟩ (fun x e => by rw [e]; exact hS)
theorem Fr.alloc (h : Fr S w w') (o : Obj) : Fr S w (w'.alloc o) := h.trans (T := fun _ => False) (Fr.of_below ((Below.refl _ _).alloc (Nat.le_refl _) o) (Nat.le_refl _)) (fun _ e => e.elim)
end
end Go.Proofs.Ytoeldomhkeancaa
