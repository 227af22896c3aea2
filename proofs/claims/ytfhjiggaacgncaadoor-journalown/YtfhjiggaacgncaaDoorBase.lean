import Derived.Test.YtfhjiggaacgncaaDoorRtBase
namespace Go.Proofs.YtfhjiggaacgncaaDoor
open Go.RowKit

/-- A word of 32 bits as the number that a cell holds. -/
def u (x : BitVec 32) : Int := (x.toNat : Int)
/-- A byte likewise. -/
def ub (x : BitVec 8) : Int := (x.toNat : Int)

theorem u_bd (x : BitVec 32) : 0 ≤ u x ∧ u x < 4294967296 := by
  unfold u
  have := x.isLt
  omega
theorem ub_bd (x : BitVec 8) : 0 ≤ ub x ∧ ub x < 256 := by
  unfold ub
  have := x.isLt
  omega
theorem u_of (n : Int) (h0 : 0 ≤ n) (h1 : n < 4294967296) : n = u (BitVec.ofNat 32 n.toNat) := by
  unfold u
  rw [BitVec.toNat_ofNat, Nat.mod_eq_of_lt (by omega)]
  omega
theorem ub_of (n : Int) (h0 : 0 ≤ n) (h1 : n < 256) : n = ub (BitVec.ofNat 8 n.toNat) := by
  unfold ub
  rw [BitVec.toNat_ofNat, Nat.mod_eq_of_lt (by omega)]
  omega
theorem u_inj {x y : BitVec 32} (h : u x = u y) : x = y := by
  unfold u at h
  exact BitVec.eq_of_toNat_eq (by omega)
theorem ub_inj {x y : BitVec 8} (h : ub x = ub y) : x = y := by
  unfold ub at h
  exact BitVec.eq_of_toNat_eq (by omega)
@[go_sem] theorem u_eq (x y : BitVec 32) : (u x = u y) = (x = y) := propext ⟨u_inj, fun h => by rw [h]⟩
@[go_sem] theorem ub_eq (x y : BitVec 8) : (ub x = ub y) = (x = y) := propext ⟨ub_inj, fun h => by rw [h]⟩

theorem u_ofInt (x : BitVec 32) : BitVec.ofInt 32 (u x) = x := by
  unfold u
  rw [BitVec.ofInt_natCast, BitVec.ofNat_toNat, BitVec.setWidth_eq]
theorem ub_ofInt (x : BitVec 8) : BitVec.ofInt 8 (ub x) = x := by
  unfold ub
  rw [BitVec.ofInt_natCast, BitVec.ofNat_toNat, BitVec.setWidth_eq]
theorem u_wrap (n : Int) : IntKind.u32.wrap n = u (BitVec.ofInt 32 n) := by
  rw [IntKind.wrap_u32', u, BitVec.toNat_ofInt]
  omega
theorem ub_wrap (n : Int) : IntKind.u8.wrap n = ub (BitVec.ofInt 8 n) := by
  rw [IntKind.wrap_u8', ub, BitVec.toNat_ofInt]
  omega
@[go_sem] theorem u_wrap_u (x : BitVec 32) : IntKind.u32.wrap (u x) = u x := by rw [u_wrap, u_ofInt]
@[go_sem] theorem ub_wrap_ub (x : BitVec 8) : IntKind.u8.wrap (ub x) = ub x := by rw [ub_wrap, ub_ofInt]
@[go_sem] theorem u_xor (x y : BitVec 32) : bits .xor .u32 (u x) (u y) = u (x ^^^ y) := by
  show IntKind.u32.wrap ((BitVec.ofInt 32 (u x) ^^^ BitVec.ofInt 32 (u y)).toNat : Int) = _
  rw [u_ofInt, u_ofInt]; exact u_wrap_u _
@[go_sem] theorem u_and (x y : BitVec 32) : bits .and .u32 (u x) (u y) = u (x &&& y) := by
  show IntKind.u32.wrap ((BitVec.ofInt 32 (u x) &&& BitVec.ofInt 32 (u y)).toNat : Int) = _
  rw [u_ofInt, u_ofInt]; exact u_wrap_u _
@[go_sem] theorem u_or (x y : BitVec 32) : bits .or .u32 (u x) (u y) = u (x ||| y) := by
  show IntKind.u32.wrap ((BitVec.ofInt 32 (u x) ||| BitVec.ofInt 32 (u y)).toNat : Int) = _
  rw [u_ofInt, u_ofInt]; exact u_wrap_u _
@[go_sem] theorem u_not (x : BitVec 32) : bits .xor .u32 4294967295 (u x) = u (~~~x) := by
  have e : (4294967295 : Int) = u (BitVec.allOnes 32) := by decide
  rw [e, u_xor, BitVec.allOnes_xor]
@[go_sem high] theorem unary_not_u32 (x : BitVec 32) : Op.unary .xor (.int .u32 (u x)) = pure (.int .u32 (u (~~~x))) := by
  rw [unary_xor, intBits_xor]
  have e : (if IntKind.u32.signed = true then (-1 : Int) else IntKind.u32.max) = 4294967295 := by decide
  rw [e, u_not]
@[go_sem] theorem u_add (x y : BitVec 32) : IntKind.u32.wrap (u x + u y) = u (x + y) := by
  rw [IntKind.wrap_u32', u, u, u, BitVec.toNat_add]
  omega
@[go_sem] theorem u_add' (x y : BitVec 32) : (u x + u y) % 4294967296 = u (x + y) := by
  rw [← IntKind.wrap_u32', u_add]
theorem u_shr (x : BitVec 32) (k : Nat) : u x / 2 ^ k = u (x >>> k) := by
  unfold u
  rw [BitVec.toNat_ushiftRight, Nat.shiftRight_eq_div_pow]
  simp
theorem u_shl (x : BitVec 32) (k : Nat) : IntKind.u32.wrap (u x * 2 ^ k) = u (x <<< k) := by
  unfold u
  rw [IntKind.wrap_u32', BitVec.toNat_shiftLeft, Nat.shiftLeft_eq]
  simp
@[go_sem high] theorem shift_shr_word (x : BitVec 32) (yk : IntKind) (y : Int) (h0 : 0 ≤ y) (h1 : y ≤ 32) : Op.shift .shr .u32 (u x) yk y = pure (.int .u32 (u (x >>> y.toNat))) := by
  rw [shift_shr_u32 yk (u x) y h0 h1, u_shr]
@[go_sem high] theorem shift_shl_word (x : BitVec 32) (yk : IntKind) (y : Int) (h0 : 0 ≤ y) (h1 : y ≤ 32) : Op.shift .shl .u32 (u x) yk y = pure (.int .u32 (u (x <<< y.toNat))) := by
  rw [shift_shl_u32 yk (u x) y h0 h1, u_shl]
@[go_sem] theorem u_shr3 (x : BitVec 32) : u x / 8 = u (x >>> 3) := u_shr x 3
@[go_sem] theorem u_shr4 (x : BitVec 32) : u x / 16 = u (x >>> 4) := u_shr x 4
@[go_sem] theorem u_shr8 (x : BitVec 32) : u x / 256 = u (x >>> 8) := u_shr x 8
@[go_sem] theorem u_shr10 (x : BitVec 32) : u x / 1024 = u (x >>> 10) := u_shr x 10
@[go_sem] theorem u_shr16 (x : BitVec 32) : u x / 65536 = u (x >>> 16) := u_shr x 16
@[go_sem] theorem u_shr24 (x : BitVec 32) : u x / 16777216 = u (x >>> 24) := u_shr x 24
@[go_sem] theorem u_shl8 (x : BitVec 32) : IntKind.u32.wrap (u x * 256) = u (x <<< 8) := u_shl x 8
@[go_sem] theorem u_shl16 (x : BitVec 32) : IntKind.u32.wrap (u x * 65536) = u (x <<< 16) := u_shl x 16
@[go_sem] theorem u_shl24 (x : BitVec 32) : IntKind.u32.wrap (u x * 16777216) = u (x <<< 24) := u_shl x 24
/-- A byte made a word, and the lowest byte of a word. -/
@[go_sem] theorem u_of_byte (b : BitVec 8) : IntKind.u32.wrap (ub b) = u (b.setWidth 32) := by
  rw [IntKind.wrap_u32', u, ub, BitVec.toNat_setWidth]
  omega
@[go_sem] theorem byte_of_u (x : BitVec 32) : IntKind.u8.wrap (u x) = ub (x.setWidth 8) := by
  rw [IntKind.wrap_u8', u, ub, BitVec.toNat_setWidth]
  omega
@[go_sem] theorem u_and15 (x : BitVec 32) : bits .and .u32 (u x) 15 = u (x &&& 15#32) := by
  have e : (15 : Int) = u 15#32 := by decide
  rw [e, u_and]

end Go.Proofs.YtfhjiggaacgncaaDoor
