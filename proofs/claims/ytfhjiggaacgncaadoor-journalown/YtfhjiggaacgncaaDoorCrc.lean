import Derived.Test.YtfhjiggaacgncaaDoorBy0
namespace Go.Proofs.YtfhjiggaacgncaaDoor
open Go.RowKit
set_option maxRecDepth 100000

/-- What four steps of the register make of four bits. -/
def crcT : List (BitVec 32) := [0#32, 498536548#32, 997073096#32, 651767980#32, 1994146192#32, 1802195444#32, 1303535960#32, 1342533948#32, 3988292384#32, 4027552580#32, 3604390888#32, 3412177804#32, 2607071920#32, 2262029012#32, 2685067896#32, 3183342108#32]
/-- The table lies in its variable. -/
def CrcTab (w : World) : Prop := ∀ j (h : j < crcT.length), w.cell? ⟨0, j, none⟩ = some (.int .u32 (u crcT[j]))
theorem CrcTab.kept {w w' : World} (h : CrcTab w) (hb : Below w.heap.size w w') : CrcTab w' := fun j hj => cell_kept hb (h j hj)

def low4 (r : BitVec 32) : Nat := (r &&& 15#32).toNat
theorem low4_lt (r : BitVec 32) : low4 r < 16 := by
  unfold low4
  rw [BitVec.toNat_and]
  have : r.toNat &&& 15 < 2 ^ 4 := Nat.and_lt_two_pow _ (by decide)
  exact this
theorem low4_eq (r : BitVec 32) : u (r &&& 15#32) = (low4 r : Int) := rfl
theorem crcT_len : crcT.length = 16 := rfl
/-- Four steps of the register. -/
def step4 (r : BitVec 32) : BitVec 32 := r >>> 4 ^^^ crcT[low4 r]'(low4_lt r)
/-- A byte's eight steps. -/
def stepB (r : BitVec 32) (b : BitVec 8) : BitVec 32 := step4 (step4 (r ^^^ b.setWidth 32))
/-- The register behind some bytes. -/
def reg (r : BitVec 32) (bs : List (BitVec 8)) : BitVec 32 := bs.foldl stepB r
theorem reg_snoc (r : BitVec 32) (bs : List (BitVec 8)) (k : Nat) (h : k < bs.length) : reg r (bs.take (k + 1)) = stepB (reg r (bs.take k)) bs[k] := by
  rw [List.take_succ_eq_append_getElem h, reg, List.foldl_append]; rfl
theorem reg_append (r : BitVec 32) (a b : List (BitVec 8)) : reg r (a ++ b) = reg (reg r a) b := List.foldl_append
/-- The short sum of a text with the short sum c and b behind it. -/
def more (c : BitVec 32) (b : List (BitVec 8)) : BitVec 32 := ~~~(reg (~~~c) b)
theorem more_append (c : BitVec 32) (a b : List (BitVec 8)) : more (more c a) b = more c (a ++ b) := by
  unfold more; rw [BitVec.not_not, reg_append]
theorem more_nil (c : BitVec 32) : more c [] = c := by unfold more reg; simp

set_option maxHeartbeats 400000 in
theorem more_any {w : World} (c : BitVec 32) {a : Option Addr} {cap : Nat} {bs : List (BitVec 8)} (hB : BytesAt w a bs) (hT : CrcTab w) (hlen : bs.length ≤ 281474976710656) :
    Calls Tryd.prog 75 #[.int .u32 (u c), .slice a bs.length cap] w fun e w' => e = .returned (.int .u32 (u (more c bs))) ∧ w' = w := by
  have HB : Hid _ := hB
  have HT : Hid _ := hT
  clear hB hT
  have hl : (bs.length : Int) ≤ 281474976710656 := by omega
  have HL : Hid _ := hlen
  clear hlen
  go_enter Tryd.func75, Tryd.ntmps75
  go_wp2
  go_loopw [5, 12] (fun r i wr => ∃ k : Nat, k ≤ bs.length ∧ i = .int .i64 k ∧ r = .int .u32 (u (reg (~~~c) (bs.take k))) ∧ wr = w) (fun _ i _ => bs.length - (intOf i).toNat)
  case atStart => exact ⟨0, Nat.zero_le _, rfl, rfl, rfl⟩
  case round =>
    obtain ⟨k, hk, rfl, rfl, rfl⟩ := hrel
    by_cases hlt : k < bs.length
    · obtain ⟨g, o, rfl, c1⟩ := HB.out k hlt
      have hs := reg_snoc (~~~c) bs k hlt
      generalize bs[k] = b at *
      generalize reg (~~~c) (bs.take k) = r at *
      have HS : Hid _ := hs
      clear hs
      have l1 := low4_eq (r ^^^ b.setWidth 32)
      have b1 := low4_lt (r ^^^ b.setWidth 32)
      have t1 := HT.out _ b1
      have e1 : u ((r ^^^ b.setWidth 32) >>> 4 ^^^ crcT[low4 (r ^^^ b.setWidth 32)]'b1) = u (step4 (r ^^^ b.setWidth 32)) := rfl
      rw [← crcT_len] at b1
      have l2 := low4_eq (step4 (r ^^^ b.setWidth 32))
      have b2 := low4_lt (step4 (r ^^^ b.setWidth 32))
      have t2 := HT.out _ b2
      have E : Hid (step4 (r ^^^ b.setWidth 32) = (r ^^^ b.setWidth 32) >>> 4 ^^^ crcT[low4 (r ^^^ b.setWidth 32)]'(low4_lt _)) := rfl
      have E2 : Hid (stepB r b = (step4 (r ^^^ b.setWidth 32)) >>> 4 ^^^ crcT[low4 (step4 (r ^^^ b.setWidth 32))]'(low4_lt _)) := rfl
      generalize crcT[low4 (r ^^^ b.setWidth 32)]'(low4_lt _) = v1 at *
      generalize crcT[low4 (step4 (r ^^^ b.setWidth 32))]'(low4_lt _) = v2 at *
      generalize low4 (r ^^^ b.setWidth 32) = j1 at *
      generalize low4 (step4 (r ^^^ b.setWidth 32)) = j2 at *
      rw [E.out] at l2
      have j1b : (j1 : Int) < 16 := by rw [crcT_len] at b1; omega
      have j2b : (j2 : Int) < 16 := by omega
      clear e1 b1 b2
      go_wp2
      go_roundw
      case rel => exact ⟨k + 1, hlt, by go_num, by rw [HS.out, E2.out, E.out], trivial⟩
      case measure => simp [intOf]; omega
    · have e : k = bs.length := by omega
      subst e
      rw [List.take_length]
      go_wp2
      go_ret
      exact ⟨rfl, rfl⟩

/-- The parts lie from address a on, each a list of bytes. -/
def PartsAt (w : World) (a : Option Addr) (ps : List (List (BitVec 8))) : Prop :=
  ∀ k (h : k < ps.length), ∃ g o ad cap, a = some ⟨g, o, none⟩ ∧ w.cell? ⟨g, o + k, none⟩ = some (.slice ad ps[k].length cap) ∧ BytesAt w ad ps[k] ∧ ps[k].length ≤ 281474976710656
theorem PartsAt.kept {w w' : World} {a : Option Addr} {ps : List (List (BitVec 8))} (h : PartsAt w a ps) (hb : Below w.heap.size w w') : PartsAt w' a ps :=
  fun k hk => by obtain ⟨g, o, ad, cap, e, c, b, l⟩ := h k hk; exact ⟨g, o, ad, cap, e, cell_kept hb c, b.kept hb, l⟩
theorem flat_snoc {α : Type} (ps : List (List α)) (k : Nat) (h : k < ps.length) : (ps.take (k + 1)).flatten = (ps.take k).flatten ++ ps[k] := by
  rw [List.take_succ_eq_append_getElem h, List.flatten_append]; simp only [List.flatten_cons, List.flatten_nil, List.append_nil]

/-- The short sum of a text. -/
def crc (bs : List (BitVec 8)) : BitVec 32 := more 0#32 bs

set_option maxHeartbeats 400000 in
theorem crc_any {w : World} {a : Option Addr} {cap : Nat} {ps : List (List (BitVec 8))} (hP : PartsAt w a ps) (hT : CrcTab w) (hlen : ps.length ≤ 281474976710656) :
    Calls Tryd.prog 64 #[.slice a ps.length cap] w fun e w' => e = .returned (.int .u32 (u (crc ps.flatten))) ∧ w' = w := by
  have HP : Hid _ := hP
  have HT : Hid (CrcTab w) := hT
  clear hP hT
  have hl : (ps.length : Int) ≤ 281474976710656 := by omega
  have z : (0 : Int) = u (crc (ps.take 0).flatten) := by rw [List.take_zero, List.flatten_nil]; decide +kernel
  have Z : Hid _ := z
  clear z
  go_enter Tryd.func64, Tryd.ntmps64
  go_wp2
  go_loopw [3, 8] (fun r i wr => ∃ k : Nat, k ≤ ps.length ∧ i = .int .i64 k ∧ r = .int .u32 (u (crc (ps.take k).flatten)) ∧ wr = w) (fun _ i _ => ps.length - (intOf i).toNat)
  case atStart => exact ⟨0, Nat.zero_le _, rfl, by rw [← Z.out], rfl⟩
  case round =>
    obtain ⟨k, hk, rfl, rfl, rfl⟩ := hrel
    by_cases hlt : k < ps.length
    · obtain ⟨g, o, ad, pc, rfl, c1, c2, c3⟩ := HP.out k hlt
      have hs : crc (ps.take (k + 1)).flatten = more (crc (ps.take k).flatten) ps[k] := by
        rw [flat_snoc ps k hlt]; exact (more_append 0#32 _ _).symm
      generalize ps[k] = b at *
      generalize crc (ps.take k).flatten = r at *
      have HS : Hid _ := hs
      have HM : Hid _ := @more_any wr r ad pc b c2 HT.out c3
      clear hs c2 c3
      go_wp2_with (go_at_call 75; refine Calls.mono HM.out ?_; rintro e w' ⟨rfl, rfl⟩)
      go_roundw
      case rel => exact ⟨k + 1, hlt, by go_num, by rw [HS.out], trivial⟩
      case measure => simp [intOf]; omega
    · have e : k = ps.length := by omega
      subst e
      rw [List.take_length]
      go_wp2
      go_ret
      exact ⟨rfl, rfl⟩
end Go.Proofs.YtfhjiggaacgncaaDoor
