import Derived.Test.YtaklbofbhanjgaaDoorWords
namespace Go.Proofs.YtaklbofbhanjgaaDoor
open Go.RowKit
set_option maxRecDepth 100000

/-- The bytes lie from address a on. -/
def BytesAt (w : World) (a : Option Addr) (bs : List (BitVec 8)) : Prop :=
  ∀ k (h : k < bs.length), ∃ g o, a = some ⟨g, o, none⟩ ∧ w.cell? ⟨g, o + k, none⟩ = some (.int .u8 (ub bs[k]))

theorem cell_kept {w w' : World} (hb : Below w.heap.size w w') {ad : Addr} {v : Value} (h : w.cell? ad = some v) : w'.cell? ad = some v :=
  (hb.cell (World.block_lt_of_cell? w ad h)).trans h
theorem BytesAt.kept {w w' : World} {a : Option Addr} {bs : List (BitVec 8)} (h : BytesAt w a bs) (hb : Below w.heap.size w w') : BytesAt w' a bs :=
  fun k hk => by obtain ⟨g, o, e, c⟩ := h k hk; exact ⟨g, o, e, cell_kept hb c⟩

/-- What four steps of the register make of four bits. -/
def crcT : List (BitVec 32) := [0#32, 498536548#32, 997073096#32, 651767980#32, 1994146192#32, 1802195444#32, 1303535960#32, 1342533948#32, 3988292384#32, 4027552580#32, 3604390888#32, 3412177804#32, 2607071920#32, 2262029012#32, 2685067896#32, 3183342108#32]
/-- The table lies in its variable. -/
def CrcTab (w : World) : Prop := ∀ j (h : j < crcT.length), w.cell? ⟨0, j, none⟩ = some (.int .u32 (u crcT[j]))
theorem CrcTab.kept {w w' : World} (h : CrcTab w) (hb : Below w.heap.size w w') : CrcTab w' := fun j hj => cell_kept hb (h j hj)

def low4 (r : BitVec 32) : Nat := (r &&& 15#32).toNat
theorem low4_lt (r : BitVec 32) : low4 r < 16 := by
  unfold low4
  rw [BitVec.toNat_and]
  have : r.toNat &&& 15 < 2 ^ 4 := Nat.and_lt_two_pow _ (by decide)
  exact this
theorem low4_eq (r : BitVec 32) : u (r &&& 15#32) = (low4 r : Int) := rfl
theorem crcT_len : crcT.length = 16 := rfl
/-- Four steps of the register. -/
def step4 (r : BitVec 32) : BitVec 32 := r >>> 4 ^^^ crcT[low4 r]'(low4_lt r)
/-- A byte's eight steps. -/
def stepB (r : BitVec 32) (b : BitVec 8) : BitVec 32 := step4 (step4 (r ^^^ b.setWidth 32))
/-- The register behind some bytes. -/
def reg (r : BitVec 32) (bs : List (BitVec 8)) : BitVec 32 := bs.foldl stepB r
theorem reg_snoc (r : BitVec 32) (bs : List (BitVec 8)) (k : Nat) (h : k < bs.length) : reg r (bs.take (k + 1)) = stepB (reg r (bs.take k)) bs[k] := by
  rw [List.take_succ_eq_append_getElem h, reg, List.foldl_append]; rfl
theorem reg_append (r : BitVec 32) (a b : List (BitVec 8)) : reg r (a ++ b) = reg (reg r a) b := List.foldl_append
/-- The short sum of a text with the short sum c and b behind it. -/
def more (c : BitVec 32) (b : List (BitVec 8)) : BitVec 32 := ~~~(reg (~~~c) b)
theorem more_append (c : BitVec 32) (a b : List (BitVec 8)) : more (more c a) b = more c (a ++ b) := by
  unfold more; rw [BitVec.not_not, reg_append]
theorem more_nil (c : BitVec 32) : more c [] = c := by unfold more reg; simp

/-- The parts lie from address a on, each a list of bytes. -/
def PartsAt (w : World) (a : Option Addr) (ps : List (List (BitVec 8))) : Prop :=
  ∀ k (h : k < ps.length), ∃ g o ad cap, a = some ⟨g, o, none⟩ ∧ w.cell? ⟨g, o + k, none⟩ = some (.slice ad ps[k].length cap) ∧ BytesAt w ad ps[k] ∧ ps[k].length ≤ 281474976710656
theorem PartsAt.kept {w w' : World} {a : Option Addr} {ps : List (List (BitVec 8))} (h : PartsAt w a ps) (hb : Below w.heap.size w w') : PartsAt w' a ps :=
  fun k hk => by obtain ⟨g, o, ad, cap, e, c, b, l⟩ := h k hk; exact ⟨g, o, ad, cap, e, cell_kept hb c, b.kept hb, l⟩
theorem flat_snoc {α : Type} (ps : List (List α)) (k : Nat) (h : k < ps.length) : (ps.take (k + 1)).flatten = (ps.take k).flatten ++ ps[k] := by
  rw [List.take_succ_eq_append_getElem h, List.flatten_append]; simp only [List.flatten_cons, List.flatten_nil, List.append_nil]

/-- The short sum of a text. -/
def crc (bs : List (BitVec 8)) : BitVec 32 := more 0#32 bs

end Go.Proofs.YtaklbofbhanjgaaDoor
