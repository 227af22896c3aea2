import Derived.Test.YtjhkoanjocdboabDoorKnown
namespace Go.Proofs.YtjhkoanjocdboabDoor
open Go.RowKit
set_option maxRecDepth 100000

/-- A word of 64 bits as the number that a cell holds. -/
def uu (x : BitVec 64) : Int := (x.toNat : Int)
theorem uu_ofInt (x : BitVec 64) : BitVec.ofInt 64 (uu x) = x := by
  unfold uu
  rw [BitVec.ofInt_natCast, BitVec.ofNat_toNat, BitVec.setWidth_eq]
theorem uu_wrap (n : Int) : IntKind.u64.wrap n = uu (BitVec.ofInt 64 n) := by
  rw [IntKind.wrap_u64, uu, BitVec.toNat_ofInt]
  omega
@[go_sem] theorem uu_wrap_uu (x : BitVec 64) : IntKind.u64.wrap (uu x) = uu x := by rw [uu_wrap, uu_ofInt]
@[go_sem] theorem uu_or (x y : BitVec 64) : bits .or .u64 (uu x) (uu y) = uu (x ||| y) := by
  show IntKind.u64.wrap ((BitVec.ofInt 64 (uu x) ||| BitVec.ofInt 64 (uu y)).toNat : Int) = _
  rw [uu_ofInt, uu_ofInt]; exact uu_wrap_uu _
@[go_sem] theorem uu_of_word (x : BitVec 32) : IntKind.u64.wrap (u x) = uu (x.setWidth 64) := by
  rw [IntKind.wrap_u64, u, uu, BitVec.toNat_setWidth]
  have := x.isLt
  omega
@[go_sem] theorem byte_of_uu (x : BitVec 64) : IntKind.u8.wrap (uu x) = ub (x.setWidth 8) := by
  rw [IntKind.wrap_u8', uu, ub, BitVec.toNat_setWidth]
  omega
theorem uu_shr (x : BitVec 64) (k : Nat) : uu x / 2 ^ k = uu (x >>> k) := by
  unfold uu
  rw [BitVec.toNat_ushiftRight, Nat.shiftRight_eq_div_pow]
  simp
@[go_sem] theorem uu_shl32 (x : BitVec 64) : IntKind.u64.wrap (uu x * 4294967296) = uu (x <<< 32) := by
  unfold uu
  rw [IntKind.wrap_u64, BitVec.toNat_shiftLeft, Nat.shiftLeft_eq]
  simp
/-- Eight bytes as a number, the highest first. -/
def word8 (a b c d e f g h : BitVec 8) : BitVec 64 := (word4 a b c d).setWidth 64 <<< 32 ||| (word4 e f g h).setWidth 64
theorem getD4 {α : Type} (a b c d z : α) (k : Nat) (hk : k < 4) : k = 0 ∧ [a, b, c, d].getD k z = a ∨ k = 1 ∧ [a, b, c, d].getD k z = b ∨ k = 2 ∧ [a, b, c, d].getD k z = c ∨ k = 3 ∧ [a, b, c, d].getD k z = d := by
  match k, hk with
  | 0, _ => exact .inl ⟨rfl, rfl⟩
  | 1, _ => exact .inr (.inl ⟨rfl, rfl⟩)
  | 2, _ => exact .inr (.inr (.inl ⟨rfl, rfl⟩))
  | 3, _ => exact .inr (.inr (.inr ⟨rfl, rfl⟩))
theorem word4_nat (a b c d : BitVec 8) : (word4 a b c d).toNat = a.toNat * 16777216 + b.toNat * 65536 + c.toNat * 256 + d.toNat := by
  unfold word4
  have ha := a.isLt
  have hb := b.isLt
  have hc := c.isLt
  have hd := d.isLt
  simp only [BitVec.toNat_or, BitVec.toNat_shiftLeft, BitVec.toNat_setWidth, Nat.shiftLeft_eq]
  rw [Nat.mod_eq_of_lt (show a.toNat < 2 ^ 32 by omega), Nat.mod_eq_of_lt (show b.toNat < 2 ^ 32 by omega), Nat.mod_eq_of_lt (show c.toNat < 2 ^ 32 by omega), Nat.mod_eq_of_lt (show d.toNat < 2 ^ 32 by omega)]
  rw [Nat.mod_eq_of_lt (show a.toNat * 2 ^ 24 < 2 ^ 32 by omega), Nat.mod_eq_of_lt (show b.toNat * 2 ^ 16 < 2 ^ 32 by omega), Nat.mod_eq_of_lt (show c.toNat * 2 ^ 8 < 2 ^ 32 by omega)]
  have e1 : a.toNat * 2 ^ 24 ||| b.toNat * 2 ^ 16 = a.toNat * 2 ^ 24 + b.toNat * 2 ^ 16 := by
    rw [Nat.mul_comm, ← Nat.two_pow_add_eq_or_of_lt (show b.toNat * 2 ^ 16 < 2 ^ 24 by omega)]
  have e2 : a.toNat * 2 ^ 24 + b.toNat * 2 ^ 16 ||| c.toNat * 2 ^ 8 = a.toNat * 2 ^ 24 + b.toNat * 2 ^ 16 + c.toNat * 2 ^ 8 := by
    rw [show a.toNat * 2 ^ 24 + b.toNat * 2 ^ 16 = 2 ^ 16 * (a.toNat * 2 ^ 8 + b.toNat) by omega, ← Nat.two_pow_add_eq_or_of_lt (show c.toNat * 2 ^ 8 < 2 ^ 16 by omega)]
  have e3 : a.toNat * 2 ^ 24 + b.toNat * 2 ^ 16 + c.toNat * 2 ^ 8 ||| d.toNat = a.toNat * 2 ^ 24 + b.toNat * 2 ^ 16 + c.toNat * 2 ^ 8 + d.toNat := by
    rw [show a.toNat * 2 ^ 24 + b.toNat * 2 ^ 16 + c.toNat * 2 ^ 8 = 2 ^ 8 * (a.toNat * 2 ^ 16 + b.toNat * 2 ^ 8 + c.toNat) by omega, ← Nat.two_pow_add_eq_or_of_lt (show d.toNat < 2 ^ 8 by omega)]
  rw [e1, e2, e3]
theorem word8_nat (a b c d e f g h : BitVec 8) : (word8 a b c d e f g h).toNat = (word4 a b c d).toNat * 4294967296 + (word4 e f g h).toNat := by
  unfold word8
  have h1 := (word4 a b c d).isLt
  have h2 := (word4 e f g h).isLt
  simp only [BitVec.toNat_or, BitVec.toNat_shiftLeft, BitVec.toNat_setWidth, Nat.shiftLeft_eq]
  rw [Nat.mod_eq_of_lt (show (word4 a b c d).toNat < 2 ^ 64 by omega), Nat.mod_eq_of_lt (show (word4 e f g h).toNat < 2 ^ 64 by omega), Nat.mod_eq_of_lt (show (word4 a b c d).toNat * 2 ^ 32 < 2 ^ 64 by omega)]
  rw [Nat.mul_comm, ← Nat.two_pow_add_eq_or_of_lt (show (word4 e f g h).toNat < 2 ^ 32 by omega)]
theorem byte_eq {x y : BitVec 8} (h : x.toNat = y.toNat) : x = y := BitVec.eq_of_toNat_eq h
/-- A word's bytes are those that it was made of. -/
theorem word4_byte (a b c d : BitVec 8) (k : Nat) (hk : k < 4) : (word4 a b c d >>> (24 - 8 * k)).setWidth 8 = [a, b, c, d].getD k 0 := by
  have e := word4_nat a b c d
  have ha := a.isLt
  have hb := b.isLt
  have hc := c.isLt
  have hd := d.isLt
  apply byte_eq
  rw [BitVec.toNat_setWidth, BitVec.toNat_ushiftRight, Nat.shiftRight_eq_div_pow, e]
  rcases getD4 a b c d 0 k hk with ⟨rfl, h⟩ | ⟨rfl, h⟩ | ⟨rfl, h⟩ | ⟨rfl, h⟩ <;> rw [h] <;> simp only [Nat.reduceMul, Nat.reduceSub, Nat.reducePow] <;> omega
theorem word8_byte (a b c d e f g h : BitVec 8) (k : Nat) (hk : k < 8) : (word8 a b c d e f g h >>> (56 - 8 * k)).setWidth 8 = [a, b, c, d, e, f, g, h].getD k 0 := by
  have n0 := word8_nat a b c d e f g h
  rw [word4_nat, word4_nat] at n0
  have ha := a.isLt
  have hb := b.isLt
  have hc := c.isLt
  have hd := d.isLt
  have he := e.isLt
  have hf := f.isLt
  have hg := g.isLt
  have hh := h.isLt
  apply byte_eq
  rw [BitVec.toNat_setWidth, BitVec.toNat_ushiftRight, Nat.shiftRight_eq_div_pow, n0]
  match k, hk with
  | 0, _ => show _ = a.toNat; simp only [Nat.reduceMul, Nat.reduceSub, Nat.reducePow]; omega
  | 1, _ => show _ = b.toNat; simp only [Nat.reduceMul, Nat.reduceSub, Nat.reducePow]; omega
  | 2, _ => show _ = c.toNat; simp only [Nat.reduceMul, Nat.reduceSub, Nat.reducePow]; omega
  | 3, _ => show _ = d.toNat; simp only [Nat.reduceMul, Nat.reduceSub, Nat.reducePow]; omega
  | 4, _ => show _ = e.toNat; simp only [Nat.reduceMul, Nat.reduceSub, Nat.reducePow]; omega
  | 5, _ => show _ = f.toNat; simp only [Nat.reduceMul, Nat.reduceSub, Nat.reducePow]; omega
  | 6, _ => show _ = g.toNat; simp only [Nat.reduceMul, Nat.reduceSub, Nat.reducePow]; omega
  | 7, _ => show _ = h.toNat; simp only [Nat.reduceMul, Nat.reduceSub, Nat.reducePow]; omega
end Go.Proofs.YtjhkoanjocdboabDoor
