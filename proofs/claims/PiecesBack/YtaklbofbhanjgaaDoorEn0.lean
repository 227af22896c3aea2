import Derived.Test.YtaklbofbhanjgaaDoorOw0
import Derived.Test.YtaklbofbhanjgaaDoorNm0
import Derived.Test.YtaklbofbhanjgaaDoorMf0
namespace Go.Proofs.YtaklbofbhanjgaaDoor
open Go.RowKit
set_option maxRecDepth 100000
/-! Numbers of four bytes. -/
def be4 (x : BitVec 32) : List (BitVec 8) := [(x >>> 24).setWidth 8, (x >>> 16).setWidth 8, (x >>> 8).setWidth 8, x.setWidth 8]
theorem be4_len (x : BitVec 32) : (be4 x).length = 4 := rfl
theorem u_low (x : BitVec 32) : IntKind.u8.wrap (u x) = ub (x.setWidth 8) := by
  rw [ub_wrap]
  congr 1
theorem bs4 (w : World) (a b c d : Int) : (Instr.buildSlice 22 4 #[(0, .int .u8 a), (1, .int .u8 b), (2, .int .u8 c), (3, .int .u8 d)]).run Tryd.prog w = .ok (.slice (some ⟨w.heap.size, 0, none⟩) 4 4) (w.alloc (.cells #[.int .u8 a, .int .u8 b, .int .u8 c, .int .u8 d] 5)) := by kernel_rfl
theorem nb_new (w : World) (o : Obj) : Below w.heap.size w (w.alloc o) := (Below.refl _ _).alloc (Nat.le_refl _) _
theorem nb_bytes (w : World) (x : BitVec 32) : BytesAt (w.alloc (.cells (bcells (be4 x)).toArray 5)) (some ⟨w.heap.size, 0, none⟩) (be4 x) := fun k hk => ⟨w.heap.size, 0, rfl, by rw [Nat.zero_add]; exact (Row.new w (bcells (be4 x)) 5).cell k _ (bcells_get hk)⟩
theorem own_grow {B : Nat} {w w1 w2 : World} {v : Value} {t : TypeId} {sz n : Nat} {xs : List Value} (h : w.ownsRow B t sz v n xs) (hb : Below B w w1) (hg : w1.grownBy w2 v.ownBlock) (hB : B ≤ w.heap.size) : Below B w w2 :=
  hb.trans ((Below.refl _ _).grown hg (Nat.le_trans hB hb.size) (fun _ e => own_ge h e))
set_option maxHeartbeats 1000000 in
theorem numbered_any {w : World} {B : Nat} {v : Value} {l : List (BitVec 8)} (x : BitVec 32) (hO : OwnBy w B v l) (hB : B ≤ w.heap.size) (hl : l.length ≤ 33554432) :
    Calls Tryd.prog 47 #[v, .int .u32 (u x)] w fun e w' => ∃ v', e = .returned v' ∧ OwnBy w' B v' (l ++ be4 x) ∧ Below B w w' := by
  have HO : Hid (OwnBy w B v l) := hO
  have HL : Hid (l.length + 4 ≤ 140737488355328) := by show _ ≤ _; omega
  have HB : Hid (B ≤ w.heap.size) := hB
  obtain ⟨a, cap, rfl, -⟩ := ownBy_shape hO
  have s24 := u_shr x 24
  have s16 := u_shr x 16
  have s8 := u_shr x 8
  have e24 := u_low (x >>> 24)
  have e16 := u_low (x >>> 16)
  have e8 := u_low (x >>> 8)
  have e0 := u_low x
  have hbs := bs4
  clear hO hl hB
  go_enter Tryd.func47, Tryd.ntmps47
  go_wp2_with (at_builtin; refine wpAppendA (.tmp 5) (.tmp 17) rfl rfl (base := B) rfl (own_below HO.out (nb_new w _)) (by have := HB.out; simp; omega) rfl (fun e => by cases e) (bs := be4 x) rfl (nb_bytes w x) HL.out ?_; intro w5 v5 h5 g5)
  go_ret
  have hb : Below B w (w.alloc (.cells (bcells (be4 x)).toArray 5)) := (nb_new w _).mono HB.out
  exact ⟨v5, rfl, by show World.ownsRow _ _ _ _ _ _ _; rw [List.length_append, be4_len]; exact h5.out, own_grow HO.out hb g5.out.1 HB.out⟩
end Go.Proofs.YtaklbofbhanjgaaDoor
namespace Go.Proofs.YtaklbofbhanjgaaDoor
open Go.RowKit
set_option maxRecDepth 100000
/-- A string's bytes. -/
def bsOf (s : ByteArray) : List (BitVec 8) := s.toList.map UInt8.toBitVec
theorem bsOf_len (s : ByteArray) : (bsOf s).length = s.size := by simp [bsOf, ba_len]
theorem strCells_bs (s : ByteArray) : Go.Lib.strCells s = bcells (bsOf s) := by
  unfold Go.Lib.strCells bcells bsOf
  rw [ByteArray.toList_eq]
  simp [bv, ub]
/-- 'append' of a string to an own row. -/
theorem wpAppendS {ops : Array Oper} {rest : List Oper} {o : Oper} {a : Act} {w : World} {Q : Exit → Act → World → Prop} (s x : Operand) (hgd : o.guard = none) (ho : o.op = .call { callee := .builtin .append, args := #[s, x], argTypes := #[22, 9] })
    {base : Nat} {v : Value} {old : List (BitVec 8)} (hs : a.eval s = v) (hown : OwnBy w base v old) (hbase : base ≤ w.heap.size) {t : ByteArray} (hx : a.eval x = .string t) (hl : old.length + t.size ≤ 140737488355328)
    (h : ∀ w' v', Hid (OwnBy w' base v' (old ++ bsOf t)) → Hid (Below base w w') → wpList Tryd.prog ops Q rest (a.put o.dst v') w') : wpList Tryd.prog ops Q (o :: rest) a w := by
  obtain ⟨i, h1, h2, h3, h4⟩ := inf5
  refine Go.Lib.wpList_append_own_string w hgd s x 22 9 ho base 5 i Tryd.underlying22 Tryd.underlying9 h1 h2 h3 h4 v old.length (bcells old) hs hown t hx (by unfold maxLen; omega) hl hbase fun v' w' h5 h6 _ => ?_
  refine h w' v' ?_ (own_grow hown (Below.refl _ _) h6 hbase)
  show World.ownsRow _ _ _ _ _ _ _
  rw [List.length_append, bsOf_len, show bcells (old ++ bsOf t) = bcells old ++ bcells (bsOf t) by simp [bcells], ← strCells_bs]
  exact h5
theorem or_low (n : Nat) (x : BitVec 8) (h : n < 16777216) : bits .or .i64 ((n : Int) * 256) (ub x) = ((n * 256 + x.toNat : Nat) : Int) := by
  show IntKind.i64.wrap ((BitVec.ofInt 64 ((n : Int) * 256) ||| BitVec.ofInt 64 (ub x)).toNat : Int) = _
  have e1 : BitVec.ofInt 64 ((n : Int) * 256) = BitVec.ofNat 64 (n <<< 8) := by
    rw [Nat.shiftLeft_eq, show (n : Int) * 256 = ((n * 2 ^ 8 : Nat) : Int) by simp, BitVec.ofInt_natCast]
  have e2 : BitVec.ofInt 64 (ub x) = BitVec.ofNat 64 x.toNat := by rw [ub, BitVec.ofInt_natCast]
  have hx := x.isLt
  have hs : n <<< 8 = n * 256 := by rw [Nat.shiftLeft_eq]
  rw [e1, e2, BitVec.toNat_or, BitVec.toNat_ofNat, BitVec.toNat_ofNat, Nat.mod_eq_of_lt (by rw [hs]; omega), Nat.mod_eq_of_lt (by omega),
    ← Nat.shiftLeft_add_eq_or_of_lt (show x.toNat < 2 ^ 8 from hx), hs, IntKind.wrap_i64]
  omega
/-- A number out of bytes, the highest one first. -/
def numL (l : List (BitVec 8)) : Nat := l.foldl (fun n x => n * 256 + x.toNat) 0
theorem numL_snoc (l : List (BitVec 8)) (k : Nat) (h : k < l.length) : numL (l.take (k + 1)) = numL (l.take k) * 256 + l[k].toNat := by
  unfold numL; rw [List.take_succ_eq_append_getElem h, List.foldl_append]; rfl
set_option maxHeartbeats 1000000 in
theorem number_any {w : World} {a : Option Addr} {cap : Nat} {bs : List (BitVec 8)} (hB : BytesAt w a bs) (hl : bs.length ≤ 4) :
    Calls Tryd.prog 79 #[.slice a bs.length cap] w fun e w' => e = .returned (.int .i64 (numL bs : Int)) ∧ w' = w := by
  have HB : Hid (BytesAt w a bs) := hB
  have HL : Hid (bs.length ≤ 4) := hl
  clear hB hl
  have hl2 : (bs.length : Int) ≤ 4 := by have := HL.out; omega
  go_enter Tryd.func79, Tryd.ntmps79
  go_wp2
  go_loopw [3, 8] (fun r i wr => ∃ k : Nat, k ≤ bs.length ∧ i = .int .i64 k ∧ r = .int .i64 (numL (bs.take k) : Int) ∧ wr = w ∧ Hid (numL (bs.take k) < 256 ^ k)) (fun _ i _ => bs.length - (intOf i).toNat)
  case atStart => exact ⟨0, Nat.zero_le _, rfl, rfl, rfl, by show _ < _; rw [List.take_zero]; decide⟩
  case round =>
    obtain ⟨k, hk, rfl, rfl, rfl, HN⟩ := hrel
    by_cases hlt : k < bs.length
    · obtain ⟨g, o, rfl, c1⟩ := HB.out k hlt
      have HS : Hid (numL (bs.take (k + 1)) = numL (bs.take k) * 256 + bs[k].toNat) := numL_snoc bs k hlt
      generalize bs[k] = b at *
      have hn3 : numL (bs.take k) < 16777216 := by
        have h1 := HN.out
        have h2 : k ≤ 3 := by have := HL.out; omega
        have h3 : 256 ^ k ≤ 256 ^ 3 := Nat.pow_le_pow_right (by decide) h2
        omega
      have HN1 : Hid (numL (bs.take (k + 1)) < 256 ^ (k + 1)) := by
        show _ < _
        rw [HS.out, Nat.pow_succ]
        have := HN.out
        have hb := b.isLt
        omega
      generalize numL (bs.take k) = n at *
      have ho : bits .or .i64 ((n : Int) * 256) (ub b) = ((n * 256 + b.toNat : Nat) : Int) := or_low n b hn3
      have hbb := ub_bd b
      go_wp2
      go_roundw
      case rel => exact ⟨k + 1, hlt, by go_num, by rw [HS.out]; push_cast; rfl, trivial, HN1.out⟩
      case measure => simp [intOf]; omega
    · have e : k = bs.length := by omega
      subst e
      rw [List.take_length]
      go_wp2
      go_ret
      exact ⟨rfl, rfl⟩
end Go.Proofs.YtaklbofbhanjgaaDoor
namespace Go.Proofs.YtaklbofbhanjgaaDoor
open Go.RowKit
set_option maxRecDepth 100000
theorem mk0_cells (n : Nat) : madeCells #[.int .u8 0] n = (bcells (List.replicate n 0#8)).toArray := by
  apply Array.ext_getElem?
  intro j
  by_cases h : j < n
  · simp [madeCells, bcells, h, Nat.mod_one, bv]; rfl
  · simp [madeCells, bcells, h]
theorem make0_run (w : World) (c : Nat) (hc : c ≤ 140737488355328) : (Instr.makeSlice 22 (.int .i64 0) (.int .i64 (c : Int))).run Tryd.prog w = .ok (.slice (some ⟨w.heap.size, 0, none⟩) 0 c) (w.alloc (.cells (bcells (List.replicate c 0#8)).toArray 5)) := by
  obtain ⟨i, h1, h2, h3, h4⟩ := inf5
  have hr := run_make (P := Tryd.prog) w 22 5 i (.int .u8 0) Tryd.underlying22 h1 h2 .i64 .i64 0 (c : Int) (by omega) (by omega) (by rw [h4]; omega) (by omega)
  simp only [Int.toNat_natCast, h3, Nat.mul_one, Value.cells, mk0_cells] at hr
  exact hr
theorem make0_own (w : World) (c : Nat) (hc : c ≤ 140737488355328) : OwnBy (w.alloc (.cells (bcells (List.replicate c 0#8)).toArray 5)) w.heap.size (.slice (some ⟨w.heap.size, 0, none⟩) 0 c) [] :=
  ⟨rfl, .inr ⟨w.heap.size, c, _, rfl, Nat.le_refl _, heap_alloc_last w _, Nat.zero_le _, by unfold maxLen; omega, by simp [bcells_len], by simp [bcells]⟩⟩
def magicB : List (BitVec 8) := [66#8, 82#8, 80#8, 49#8]
theorem magic_bs : bsOf ⟨#[66, 82, 80, 49]⟩ = magicB := by
  unfold bsOf
  rw [ByteArray.toList_eq]
  rfl
/-- A manifest's bytes ahead of its short sum, and all of them. -/
def preB (m : Mf) : List (BitVec 8) := magicB ++ [BitVec.ofNat 8 m.nm.size] ++ bsOf m.nm ++ be4 (BitVec.ofNat 32 m.sz.toNat) ++ be4 (BitVec.ofNat 32 m.pc.toNat) ++ m.rt
def encB (m : Mf) : List (BitVec 8) := preB m ++ be4 (crc (preB m))
theorem bs1 (w : World) (x : Int) : (Instr.buildSlice 22 1 #[(0, .int .u8 x)]).run Tryd.prog w = .ok (.slice (some ⟨w.heap.size, 0, none⟩) 1 1) (w.alloc (.cells #[.int .u8 x] 5)) := by kernel_rfl
theorem bs102 (w : World) (a : Option Addr) (n c : Nat) : (Instr.buildSlice 102 1 #[(0, .slice a n c)]).run Tryd.prog w = .ok (.slice (some ⟨w.heap.size, 0, none⟩) 1 1) (w.alloc (.cells #[.slice a n c] 22)) := by kernel_rfl
theorem byte_one (w : World) (n : Nat) (h : n ≤ 255) : BytesAt (w.alloc (.cells #[.int .u8 (n : Int)] 5)) (some ⟨w.heap.size, 0, none⟩) [BitVec.ofNat 8 n] := by
  have e : (.int .u8 (n : Int) : Value) = .int .u8 (ub (BitVec.ofNat 8 n)) := by
    unfold ub
    rw [BitVec.toNat_ofNat, Nat.mod_eq_of_lt (by omega)]
  intro k hk
  obtain rfl : k = 0 := by simp at hk; omega
  exact ⟨w.heap.size, 0, rfl, (Row.new' w #[.int .u8 (n : Int)] [.int .u8 (n : Int)] 5 _ rfl rfl).cell 0 _ (by rw [e]; rfl)⟩
theorem numbered_nat {w : World} {B : Nat} {v : Value} {l : List (BitVec 8)} (n : Nat) (hn : n < 4294967296) (hO : OwnBy w B v l) (hB : B ≤ w.heap.size) (hl : l.length ≤ 33554432) :
    Calls Tryd.prog 47 #[v, .int .u32 (n : Int)] w fun e w' => ∃ v', e = .returned v' ∧ OwnBy w' B v' (l ++ be4 (BitVec.ofNat 32 n)) ∧ Below B w w' := by
  have h := numbered_any (BitVec.ofNat 32 n) hO hB hl
  rwa [show u (BitVec.ofNat 32 n) = (n : Int) by unfold u; rw [BitVec.toNat_ofNat, Nat.mod_eq_of_lt hn]] at h
end Go.Proofs.YtaklbofbhanjgaaDoor
