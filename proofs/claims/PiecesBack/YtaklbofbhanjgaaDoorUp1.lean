import Derived.Test.YtaklbofbhanjgaaDoorPt1
import Derived.Shelf.Small.Bits
import Derived.Lib.ItoaNum
namespace Go.Proofs.YtaklbofbhanjgaaDoor
open Go.RowKit Go.Shelf
set_option maxRecDepth 100000
def lenRen : Go.Shelf.Ren := ⟨fun | 125 => 94 | 128 => 111 | 129 => 112 | n => n, fun | 46 => 119 | 51 => 85 | 53 => 47 | n => n, fun | n => n⟩
theorem lenL : Lays.n125 Tryd.prog lenRen := {
  mixed := by kernel_rfl
  f125 := Tryd.func94.trans (congrArg some (by kernel_rfl))
  f128 := Tryd.func111.trans (congrArg some (by kernel_rfl))
  f129 := Tryd.func112.trans (congrArg some (by kernel_rfl))
  t3 := Tryd.underlying3
  a3 := Tryd.isAgg3
  z3 := Tryd.sizeOf3
  v3 := Tryd.zeroValue3
  t4 := Tryd.underlying4
  a4 := Tryd.isAgg4
  z4 := Tryd.sizeOf4
  v4 := Tryd.zeroValue4
  t5 := Tryd.underlying5
  a5 := Tryd.isAgg5
  z5 := Tryd.sizeOf5
  v5 := Tryd.zeroValue5
  t9 := Tryd.underlying9
  a9 := Tryd.isAgg9
  z9 := Tryd.sizeOf9
  v9 := Tryd.zeroValue9
  t46 := Tryd.underlying119
  a46 := Tryd.isAgg119
  z46 := Tryd.sizeOf119
  v46 := Tryd.zeroValue119
  t51 := Tryd.underlying85
  a51 := Tryd.isAgg85
  z51 := Tryd.sizeOf85
  v51 := Tryd.zeroValue85
  t53 := Tryd.underlying47
  a53 := Tryd.isAgg47
  z53 := Tryd.sizeOf47
  v53 := Tryd.zeroValue47 }
theorem len_any (x : Int) (w : World) (h0 : 0 ≤ x) (h1 : x ≤ 18446744073709551615) : Calls Tryd.prog 94 #[.int .u64 x] w fun e w' => e = .returned (.int .i64 (Lib.bitLen x.toNat)) ∧ w' = w := Any.bits_Len lenL x w h0 h1
end Go.Proofs.YtaklbofbhanjgaaDoor
namespace Go.Proofs.YtaklbofbhanjgaaDoor
open Go.RowKit Go.Shelf
set_option maxRecDepth 100000
/-- The greatest power of two below n, which is above 1. -/
def splitN (n : Nat) : Nat := 2 ^ (Lib.bitLen (n - 1) - 1)
theorem splitN_bd {n : Nat} (h : 2 ≤ n) (hn : n ≤ 4611686018427387904) : 1 ≤ splitN n ∧ splitN n < n ∧ n ≤ 2 * splitN n ∧ 1 ≤ Lib.bitLen (n - 1) ∧ Lib.bitLen (n - 1) ≤ 62 := by
  have b := Lib.bitLenAux_bounds 64 (n - 1) (by omega) (by omega)
  have l : Lib.bitLen (n - 1) ≤ 62 := Lib.bitLen_le (n - 1) 62 (by decide) (by omega)
  change 1 ≤ Lib.bitLen (n - 1) ∧ 2 ^ (Lib.bitLen (n - 1) - 1) ≤ n - 1 ∧ n - 1 < 2 ^ Lib.bitLen (n - 1) at b
  obtain ⟨b1, b2, b3⟩ := b
  have e : 2 ^ Lib.bitLen (n - 1) = 2 * splitN n := by
    unfold splitN
    obtain ⟨m, hm⟩ : ∃ m, Lib.bitLen (n - 1) = m + 1 := ⟨Lib.bitLen (n - 1) - 1, by omega⟩
    rw [hm, Nat.add_sub_cancel, Nat.pow_succ, Nat.mul_comm]
  have p : 1 ≤ splitN n := Nat.one_le_two_pow
  exact ⟨p, by show 2 ^ (Lib.bitLen (n - 1) - 1) < n; omega, by omega, b1, l⟩
theorem split_any {n : Nat} (w : World) (h : 2 ≤ n) (hn : n ≤ 4611686018427387904) :
    Calls Tryd.prog 75 #[.int .i64 (n : Int)] w fun e w' => e = .returned (.int .i64 ((splitN n : Nat) : Int)) ∧ w' = w := by
  obtain ⟨s1, s2, s3, s4, s5⟩ := splitN_bd h hn
  go_enter Tryd.func75, Tryd.ntmps75
  go_wp2_with (first
    | (go_at_call 94; refine (len_any _ _ (by omega) (by omega)).mono ?_; rintro e w' ⟨rfl, rfl⟩))
  go_ret; refine ⟨congrArg Ending.returned (congrArg (Value.int IntKind.i64) ?_), rfl⟩
  have e : (2 : Int) ^ (Lib.bitLen (n - 1) - 1) = ((splitN n : Nat) : Int) := by unfold splitN; push_cast; rfl
  rw [e]; unfold wrap64; omega
end Go.Proofs.YtaklbofbhanjgaaDoor
namespace Go.Proofs.YtaklbofbhanjgaaDoor
open Go.RowKit
set_option maxRecDepth 100000

/-- Nothing but what S says is another one. -/
structure Fr (S : Nat → Prop) (w w' : World) : Prop where
  os : w'.os = w.os
  tape : w'.tape = w.tape
  output : w'.output = w.output
  size : w.heap.size ≤ w'.heap.size
  block : ∀ k, k < w.heap.size → ¬ S k → w'.heap[k]? = w.heap[k]?
section
variable {S T : Nat → Prop} {w w' w'' : World}
theorem Fr.refl (S : Nat → Prop) (w : World) : Fr S w w := ⟨rfl, rfl, rfl, Nat.le_refl _, fun _ _ _ => rfl⟩
theorem Fr.of_below {B : Nat} (h : Below B w w') (hB : w.heap.size ≤ B) : Fr S w w' := ⟨h.os, h.tape, h.output, h.size, fun k hk _ => h.block k (by omega)⟩
theorem Fr.trans (h : Fr S w w') (k : Fr T w' w'') (hT : ∀ x, T x → S x ∨ w.heap.size ≤ x) : Fr S w w'' :=
  ⟨k.os.trans h.os, k.tape.trans h.tape, k.output.trans h.output, Nat.le_trans h.size k.size, fun x hx hS => (k.block x (Nat.lt_of_lt_of_le hx h.size) (fun ht => by rcases hT x ht with e | e; exact hS e; omega)).trans (h.block x hx hS)⟩
theorem Fr.wider (h : Fr S w w') (hT : ∀ x, S x → T x) : Fr T w w' := ⟨h.os, h.tape, h.output, h.size, fun k hk hp => h.block k hk (fun hm => hp (hT k hm))⟩
theorem Fr.cell (h : Fr S w w') {a : Addr} {v : Value} (hc : w.cell? a = some v) (hS : ¬ S a.block) : w'.cell? a = some v := by
  have hl := World.block_lt_of_cell? w a hc
  rw [← hc]
  unfold World.cell?
  rw [h.block a.block hl hS]
theorem Fr.row (h : Fr S w w') {g : Nat} {c : List Value} {t : TypeId} (hr : Row w g c t) (hS : ¬ S g) : Row w' g c t := ⟨(h.block g hr.lt hS).trans hr.at_⟩
theorem Fr.ktab (h : Fr S w w') (hK : KTab w) (hS : ¬ S 1) : KTab w' := fun j hj => h.cell (hK j hj) hS
end
/-- A climb's way up: what one call makes of it, and what is left behind. (i: the place; f: the first digest.) -/
def upS {σ : Type} (i : Nat) (f : List (BitVec 8)) (ans : σ → Nat → Nat → List (BitVec 8)) (nx : σ → Nat → Nat → σ) : Nat → Nat → Nat → σ → List (BitVec 8) × σ
  | 0, _, _, s => (f, s)
  | k + 1, lo, hi, s =>
    if hi = lo + 1 then (f, s)
    else if i < lo + splitN (hi - lo) then
      (nodeS (upS i f ans nx k lo (lo + splitN (hi - lo)) s).1 (ans (upS i f ans nx k lo (lo + splitN (hi - lo)) s).2 (lo + splitN (hi - lo)) hi), nx (upS i f ans nx k lo (lo + splitN (hi - lo)) s).2 (lo + splitN (hi - lo)) hi)
    else
      (nodeS (ans (upS i f ans nx k (lo + splitN (hi - lo)) hi s).2 lo (lo + splitN (hi - lo))) (upS i f ans nx k (lo + splitN (hi - lo)) hi s).1, nx (upS i f ans nx k (lo + splitN (hi - lo)) hi s).2 lo (lo + splitN (hi - lo)))
def ptrV (g : Nat) : Value := .pointer (some ⟨g, 0, none⟩)
/-- What the climb's own function keeps. -/
structure UpAt (w : World) (pF pI pU pO : Nat) (f : List (BitVec 8)) (i : Nat) (oth : Value) : Prop where
  kt : KTab w
  sz : 2 ≤ w.heap.size
  f : Row w pF (bcells f) 25
  i : w.cell? ⟨pI, 0, none⟩ = some (.int .i64 (i : Int))
  u : w.cell? ⟨pU, 0, none⟩ = some (.func (.func 74) #[] #[.pointer (some ⟨pF, 0, none⟩), .pointer (some ⟨pI, 0, none⟩), .pointer (some ⟨pU, 0, none⟩), .pointer (some ⟨pO, 0, none⟩)])
  o : w.cell? ⟨pO, 0, none⟩ = some oth
theorem UpAt.fr {S : Nat → Prop} {w w' : World} {pF pI pU pO : Nat} {f : List (BitVec 8)} {i : Nat} {oth : Value} (h : UpAt w pF pI pU pO f i oth) (b : Fr S w w') (h1 : ¬ S 1) (hF : ¬ S pF) (hI : ¬ S pI) (hU : ¬ S pU) (hO : ¬ S pO) : UpAt w' pF pI pU pO f i oth :=
  ⟨b.ktab h.kt h1, Nat.le_trans h.sz b.size, b.row h.f hF, b.cell h.i hI, b.cell h.u hU, b.cell h.o hO⟩
theorem UpAt.kept {w w' : World} {pF pI pU pO : Nat} {f : List (BitVec 8)} {i : Nat} {oth : Value} (h : UpAt w pF pI pU pO f i oth) (b : Below w.heap.size w w') : UpAt w' pF pI pU pO f i oth :=
  h.fr (S := fun _ => False) (Fr.of_below b (Nat.le_refl _)) id id id id id
end Go.Proofs.YtaklbofbhanjgaaDoor
namespace Go.Proofs.YtaklbofbhanjgaaDoor
open Go.RowKit
set_option maxRecDepth 100000
set_option maxHeartbeats 800000 in
theorem up_leaf {w : World} {pF pI pU pO i lo : Nat} {f : List (BitVec 8)} {oth : Value} (h : UpAt w pF pI pU pO f i oth) (hf : f.length = 32) (hlo : lo ≤ 4611686018427387904) :
    Calls Tryd.prog 74 #[.int .i64 (lo : Int), .int .i64 ((lo : Int) + 1), .pointer (some ⟨pF, 0, none⟩), .pointer (some ⟨pI, 0, none⟩), .pointer (some ⟨pU, 0, none⟩), .pointer (some ⟨pO, 0, none⟩)] w fun e w' => e = .returned (.agg (bcells f).toArray) ∧ Below w.heap.size w w' := by
  have H := hid h
  have HF := hid hf
  have I73 := hid i44
  have hl2 : (lo : Int) ≤ 4611686018427387904 := by omega
  clear h hf
  go_enter Tryd.func74, Tryd.ntmps74
  go_upto_region 1 with (fail)
  refine wp_world fun wa HW => ?_
  have HRr : Hid (Row wa w.heap.size (bcells z32) 25) := by show Row _ _ _ _; rw [HW.out]; exact Row.new' _ _ _ _ _ rfl rfl
  have HBa : Hid (Below w.heap.size w wa) := by show Below _ _ _; rw [HW.out]; exact (Below.refl _ _).alloc (Nat.le_refl _) _
  clear HW
  have HFr : Hid (Row wa pF (bcells f) 25) := hid (H.out.f.kept HBa.out H.out.f.lt)
  have e1 : ((lo : Int) + 1 - lo) = 1 := by omega
  go_wp2_with (first
    | (show wpList _ _ _ (Oper.mk _ (.load 25 (.tmp 2)) _ _ _ _ :: _) _ _; refine HFr.out.wpLoad 25 (.tmp 2) rfl rfl rfl _ Tryd.underlying25 rfl (by rw [bcells_len, HF.out]; exact I73.out) ?_)
    | (show wpList _ _ _ (Oper.mk none (.store 25 (.tmp 8) (.tmp 16)) _ _ _ _ :: _) _ _; refine HRr.out.wpStore' 25 (.tmp 8) (.tmp 16) (bcells f) rfl rfl rfl rfl (by rw [bcells_len, bcells_len, HF.out]; rfl) (bcells_one _) (by rw [bcells_len, HF.out]; exact I73.out) ?_; intro wz HZ))
  have R : Row wz w.heap.size (bcells f) 25 := by rw [HZ.out]; exact HRr.out.row _
  have hB : Below w.heap.size w wz := by rw [HZ.out]; exact Go.below_setRow HBa.out (Nat.le_refl _) _
  exact bodyPost_ret (v := .agg (bcells f).toArray) (R.result Tryd.results74 _ rfl _ Tryd.underlying25 rfl (by rw [bcells_len, HF.out]; exact I73.out)) rfl ⟨rfl, hB⟩
end Go.Proofs.YtaklbofbhanjgaaDoor
