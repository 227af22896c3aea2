import Derived.Test.YtaklbofbhanjgaaDoorRows
import Derived.WalkKit
import Derived.WalkSpells
import Derived.WalkLawsBesides
import Derived.BigQuiet
import Derived.Deep.QuietTactic
import Derived.Deep.LoopGhost
import Derived.Deep.Draws
import Derived.RegionTactic
import Derived.Laws.BitsAllLaws
namespace Go.Proofs.YtaklbofbhanjgaaDoor
open Go.RowKit

/-- A word of 32 bits as the number that a cell holds. -/
def u (x : BitVec 32) : Int := (x.toNat : Int)
/-- A byte likewise. -/
def ub (x : BitVec 8) : Int := (x.toNat : Int)

theorem u_bd (x : BitVec 32) : 0 ≤ u x ∧ u x < 4294967296 := by
  unfold u
  have := x.isLt
  omega
theorem ub_bd (x : BitVec 8) : 0 ≤ ub x ∧ ub x < 256 := by
  unfold ub
  have := x.isLt
  omega
theorem u_of (n : Int) (h0 : 0 ≤ n) (h1 : n < 4294967296) : n = u (BitVec.ofNat 32 n.toNat) := by
  unfold u
  rw [BitVec.toNat_ofNat, Nat.mod_eq_of_lt (by omega)]
  omega
theorem ub_of (n : Int) (h0 : 0 ≤ n) (h1 : n < 256) : n = ub (BitVec.ofNat 8 n.toNat) := by
  unfold ub
  rw [BitVec.toNat_ofNat, Nat.mod_eq_of_lt (by omega)]
  omega
theorem u_inj {x y : BitVec 32} (h : u x = u y) : x = y := by
  unfold u at h
  exact BitVec.eq_of_toNat_eq (by omega)
theorem ub_inj {x y : BitVec 8} (h : ub x = ub y) : x = y := by
  unfold ub at h
  exact BitVec.eq_of_toNat_eq (by omega)
@[go_sem] theorem u_eq (x y : BitVec 32) : (u x = u y) = (x = y) := propext ⟨u_inj, fun h => by rw [h]⟩
@[go_sem] theorem ub_eq (x y : BitVec 8) : (ub x = ub y) = (x = y) := propext ⟨ub_inj, fun h => by rw [h]⟩

theorem u_ofInt (x : BitVec 32) : BitVec.ofInt 32 (u x) = x := by
  unfold u
  rw [BitVec.ofInt_natCast, BitVec.ofNat_toNat, BitVec.setWidth_eq]
theorem ub_ofInt (x : BitVec 8) : BitVec.ofInt 8 (ub x) = x := by
  unfold ub
  rw [BitVec.ofInt_natCast, BitVec.ofNat_toNat, BitVec.setWidth_eq]
theorem u_wrap (n : Int) : IntKind.u32.wrap n = u (BitVec.ofInt 32 n) := by
  rw [IntKind.wrap_u32', u, BitVec.toNat_ofInt]
  omega
theorem ub_wrap (n : Int) : IntKind.u8.wrap n = ub (BitVec.ofInt 8 n) := by
  rw [IntKind.wrap_u8', ub, BitVec.toNat_ofInt]
  omega
@[go_sem] theorem u_wrap_u (x : BitVec 32) : IntKind.u32.wrap (u x) = u x := by rw [u_wrap, u_ofInt]
@[go_sem] theorem ub_wrap_ub (x : BitVec 8) : IntKind.u8.wrap (ub x) = ub x := by rw [ub_wrap, ub_ofInt]
@[go_sem] theorem u_xor (x y : BitVec 32) : bits .xor .u32 (u x) (u y) = u (x ^^^ y) := by
  show IntKind.u32.wrap ((BitVec.ofInt 32 (u x) ^^^ BitVec.ofInt 32 (u y)).toNat : Int) = _
  rw [u_ofInt, u_ofInt]; exact u_wrap_u _
@[go_sem] theorem u_and (x y : BitVec 32) : bits .and .u32 (u x) (u y) = u (x &&& y) := by
  show IntKind.u32.wrap ((BitVec.ofInt 32 (u x) &&& BitVec.ofInt 32 (u y)).toNat : Int) = _
  rw [u_ofInt, u_ofInt]; exact u_wrap_u _
@[go_sem] theorem u_or (x y : BitVec 32) : bits .or .u32 (u x) (u y) = u (x ||| y) := by
  show IntKind.u32.wrap ((BitVec.ofInt 32 (u x) ||| BitVec.ofInt 32 (u y)).toNat : Int) = _
  rw [u_ofInt, u_ofInt]; exact u_wrap_u _
@[go_sem] theorem u_not (x : BitVec 32) : bits .xor .u32 4294967295 (u x) = u (~~~x) := by
  have e : (4294967295 : Int) = u (BitVec.allOnes 32) := by decide
  rw [e, u_xor, BitVec.allOnes_xor]
@[go_sem high] theorem unary_not_u32 (x : BitVec 32) : Op.unary .xor (.int .u32 (u x)) = pure (.int .u32 (u (~~~x))) := by
  rw [unary_xor, intBits_xor]
  have e : (if IntKind.u32.signed = true then (-1 : Int) else IntKind.u32.max) = 4294967295 := by decide
  rw [e, u_not]
@[go_sem] theorem u_add (x y : BitVec 32) : IntKind.u32.wrap (u x + u y) = u (x + y) := by
  rw [IntKind.wrap_u32', u, u, u, BitVec.toNat_add]
  omega
@[go_sem] theorem u_add' (x y : BitVec 32) : (u x + u y) % 4294967296 = u (x + y) := by
  rw [← IntKind.wrap_u32', u_add]
theorem u_shr (x : BitVec 32) (k : Nat) : u x / 2 ^ k = u (x >>> k) := by
  unfold u
  rw [BitVec.toNat_ushiftRight, Nat.shiftRight_eq_div_pow]
  simp
theorem u_shl (x : BitVec 32) (k : Nat) : IntKind.u32.wrap (u x * 2 ^ k) = u (x <<< k) := by
  unfold u
  rw [IntKind.wrap_u32', BitVec.toNat_shiftLeft, Nat.shiftLeft_eq]
  simp
@[go_sem high] theorem shift_shr_word (x : BitVec 32) (yk : IntKind) (y : Int) (h0 : 0 ≤ y) (h1 : y ≤ 32) : Op.shift .shr .u32 (u x) yk y = pure (.int .u32 (u (x >>> y.toNat))) := by
  rw [shift_shr_u32 yk (u x) y h0 h1, u_shr]
@[go_sem high] theorem shift_shl_word (x : BitVec 32) (yk : IntKind) (y : Int) (h0 : 0 ≤ y) (h1 : y ≤ 32) : Op.shift .shl .u32 (u x) yk y = pure (.int .u32 (u (x <<< y.toNat))) := by
  rw [shift_shl_u32 yk (u x) y h0 h1, u_shl]
@[go_sem] theorem u_shr3 (x : BitVec 32) : u x / 8 = u (x >>> 3) := u_shr x 3
@[go_sem] theorem u_shr4 (x : BitVec 32) : u x / 16 = u (x >>> 4) := u_shr x 4
@[go_sem] theorem u_shr8 (x : BitVec 32) : u x / 256 = u (x >>> 8) := u_shr x 8
@[go_sem] theorem u_shr10 (x : BitVec 32) : u x / 1024 = u (x >>> 10) := u_shr x 10
@[go_sem] theorem u_shr16 (x : BitVec 32) : u x / 65536 = u (x >>> 16) := u_shr x 16
@[go_sem] theorem u_shr24 (x : BitVec 32) : u x / 16777216 = u (x >>> 24) := u_shr x 24
@[go_sem] theorem u_shl8 (x : BitVec 32) : IntKind.u32.wrap (u x * 256) = u (x <<< 8) := u_shl x 8
@[go_sem] theorem u_shl16 (x : BitVec 32) : IntKind.u32.wrap (u x * 65536) = u (x <<< 16) := u_shl x 16
@[go_sem] theorem u_shl24 (x : BitVec 32) : IntKind.u32.wrap (u x * 16777216) = u (x <<< 24) := u_shl x 24
/-- A byte made a word, and the lowest byte of a word. -/
@[go_sem] theorem u_of_byte (b : BitVec 8) : IntKind.u32.wrap (ub b) = u (b.setWidth 32) := by
  rw [IntKind.wrap_u32', u, ub, BitVec.toNat_setWidth]
  omega
@[go_sem] theorem byte_of_u (x : BitVec 32) : IntKind.u8.wrap (u x) = ub (x.setWidth 8) := by
  rw [IntKind.wrap_u8', u, ub, BitVec.toNat_setWidth]
  omega
@[go_sem] theorem u_and15 (x : BitVec 32) : bits .and .u32 (u x) 15 = u (x &&& 15#32) := by
  have e : (15 : Int) = u 15#32 := by decide
  rw [e, u_and]

/-- A word turned by n places to the right. -/
def rotr (x : BitVec 32) (n : Nat) : BitVec 32 := x <<< (32 - n) ||| x >>> n

theorem back31 (n : Nat) (h1 : 1 ≤ n) (h2 : n ≤ 31) : bits .and .u64 (IntKind.u64.wrap (-(n : Int))) 31 = ((32 - n : Nat) : Int) := by
  have : ∀ m : Fin 32, 1 ≤ m.val → bits .and .u64 (IntKind.u64.wrap (-(m.val : Int))) 31 = ((32 - m.val : Nat) : Int) := by decide +kernel
  exact this ⟨n, by omega⟩ h1

set_option maxHeartbeats 400000 in
theorem rot_any (x : BitVec 32) (n : Nat) (h1 : 1 ≤ n) (h2 : n ≤ 31) (w : World) :
    Calls Tryd.prog 118 #[.int .u32 (u x), .int .i64 (-(n : Int))] w fun e w' => e = .returned (.int .u32 (u (rotr x n))) ∧ w' = w := by
  have hb := back31 n h1 h2
  obtain ⟨m, hm, hm1, hm2⟩ : ∃ m : Nat, m = 32 - n ∧ 1 ≤ m ∧ m ≤ 31 := ⟨_, rfl, by omega, by omega⟩
  rw [← hm] at hb
  have ht : ((m : Int)).toNat = m := by omega
  have hr : IntKind.u64.wrap (32 - (m : Int)) = ((n : Nat) : Int) := by rw [IntKind.wrap_u64]; omega
  have hr' : (32 - (m : Int)) % 18446744073709551616 = ((n : Nat) : Int) := by omega
  have hm32 : min m 32 = m := by omega
  have hn32 : min n 32 = n := by omega
  have s1 := u_shl x m
  have s2 := u_shr x n
  have s1' : (u x * 2 ^ m) % 4294967296 = u (x <<< m) := by rw [← IntKind.wrap_u32', s1]
  have hfin : x <<< m ||| x >>> n = rotr x n := by unfold rotr; rw [hm]
  have k0 : (0 : Int) ≤ (m : Int) := by omega
  have k1 : (m : Int) ≤ 32 := by omega
  have k2 : (0 : Int) ≤ (n : Int) := by omega
  have k3 : (n : Int) ≤ 32 := by omega
  clear hm
  go_enter Tryd.func118, Tryd.ntmps118
  go_wp2
  go_ret
  exact ⟨rfl, rfl⟩

set_option maxHeartbeats 400000 in
theorem turned_any (x : BitVec 32) (n : Nat) (h1 : 1 ≤ n) (h2 : n ≤ 31) (w : World) :
    Calls Tryd.prog 109 #[.int .u32 (u x), .int .i64 (n : Int)] w fun e w' => e = .returned (.int .u32 (u (rotr x n))) ∧ w' = w := by
  have hw : IntKind.i64.wrap (-(n : Int)) = -(n : Int) := by unfold IntKind.wrap; simp [IntKind.bits, IntKind.signed]; omega
  go_enter Tryd.func109, Tryd.ntmps109
  go_wp2_with (go_at_call 118; refine (rot_any x n h1 h2 _).mono ?_; rintro e w' ⟨rfl, rfl⟩)
  go_ret
  exact ⟨rfl, rfl⟩

theorem turned2 (x : BitVec 32) (w : World) : Calls Tryd.prog 109 #[.int .u32 (u x), .int .i64 2] w fun e w' => e = .returned (.int .u32 (u (rotr x 2))) ∧ w' = w := turned_any x 2 (by decide) (by decide) w
theorem turned6 (x : BitVec 32) (w : World) : Calls Tryd.prog 109 #[.int .u32 (u x), .int .i64 6] w fun e w' => e = .returned (.int .u32 (u (rotr x 6))) ∧ w' = w := turned_any x 6 (by decide) (by decide) w
theorem turned7 (x : BitVec 32) (w : World) : Calls Tryd.prog 109 #[.int .u32 (u x), .int .i64 7] w fun e w' => e = .returned (.int .u32 (u (rotr x 7))) ∧ w' = w := turned_any x 7 (by decide) (by decide) w
theorem turned11 (x : BitVec 32) (w : World) : Calls Tryd.prog 109 #[.int .u32 (u x), .int .i64 11] w fun e w' => e = .returned (.int .u32 (u (rotr x 11))) ∧ w' = w := turned_any x 11 (by decide) (by decide) w
theorem turned13 (x : BitVec 32) (w : World) : Calls Tryd.prog 109 #[.int .u32 (u x), .int .i64 13] w fun e w' => e = .returned (.int .u32 (u (rotr x 13))) ∧ w' = w := turned_any x 13 (by decide) (by decide) w
theorem turned17 (x : BitVec 32) (w : World) : Calls Tryd.prog 109 #[.int .u32 (u x), .int .i64 17] w fun e w' => e = .returned (.int .u32 (u (rotr x 17))) ∧ w' = w := turned_any x 17 (by decide) (by decide) w
theorem turned18 (x : BitVec 32) (w : World) : Calls Tryd.prog 109 #[.int .u32 (u x), .int .i64 18] w fun e w' => e = .returned (.int .u32 (u (rotr x 18))) ∧ w' = w := turned_any x 18 (by decide) (by decide) w
theorem turned19 (x : BitVec 32) (w : World) : Calls Tryd.prog 109 #[.int .u32 (u x), .int .i64 19] w fun e w' => e = .returned (.int .u32 (u (rotr x 19))) ∧ w' = w := turned_any x 19 (by decide) (by decide) w
theorem turned22 (x : BitVec 32) (w : World) : Calls Tryd.prog 109 #[.int .u32 (u x), .int .i64 22] w fun e w' => e = .returned (.int .u32 (u (rotr x 22))) ∧ w' = w := turned_any x 22 (by decide) (by decide) w
theorem turned25 (x : BitVec 32) (w : World) : Calls Tryd.prog 109 #[.int .u32 (u x), .int .i64 25] w fun e w' => e = .returned (.int .u32 (u (rotr x 25))) ∧ w' = w := turned_any x 25 (by decide) (by decide) w

/-- The word that four bytes make, the highest first. -/
def word4 (a b c d : BitVec 8) : BitVec 32 := a.setWidth 32 <<< 24 ||| b.setWidth 32 <<< 16 ||| c.setWidth 32 <<< 8 ||| d.setWidth 32

set_option maxHeartbeats 400000 in
theorem word_any (a b c d : BitVec 8) (w : World) :
    Calls Tryd.prog 117 #[.int .u8 (ub a), .int .u8 (ub b), .int .u8 (ub c), .int .u8 (ub d)] w fun e w' => e = .returned (.int .u32 (u (word4 a b c d))) ∧ w' = w := by
  go_enter Tryd.func117, Tryd.ntmps117
  go_wp2
  go_ret
  exact ⟨rfl, rfl⟩
end Go.Proofs.YtaklbofbhanjgaaDoor
