import Derived.Test.YtnflgkobedbemaaGreatDoorProg
import Derived.WalkKit
import Derived.WalkSpells
import Derived.WalkLawsBesides
import Derived.BigQuiet
import Derived.Deep.QuietTactic
import Derived.Deep.LoopGhost
import Derived.Deep.Draws
import Derived.RegionTactic
import Derived.Deep.Cut
import Derived.LoopN
import Derived.Laws.ResultCell
import Derived.Laws.BitsAllLaws
import Derived.Deep.MidRow
import Derived.Deep.WholeRow
import Derived.Deep.RegionWith
import Derived.BigRegion
import Derived.Laws.CopyRow
import Derived.Lib.MinMax
import Derived.StillTailTactics
import Derived.Deep.RegionHeld3
import Derived.Lib.QuietBelow
import Derived.Laws.IdiomStrings
import Derived.Laws.Strings
import Derived.Shelf.Abstract
import Derived.Maps.AppendAt
import Derived.WalkMore
import Derived.Laws.Closers25b
namespace Go.Proofs.YtnflgkobedbemaaGreatDoor.Snd
open Go.RowKit
set_option maxRecDepth 100000

/-- Block g holds the cells c. -/
structure Row (w : World) (g : Nat) (c : List Value) (t : TypeId) : Prop where
  at_ : w.heap[g]? = some (.cells c.toArray t (0, 0))
section
variable {w w' : World} {g : Nat} {c : List Value} {t : TypeId}
theorem Row.cell (h : Row w g c t) (j : Nat) (v : Value) (hv : c[j]? = some v) : w.cell? ⟨g, j, none⟩ = some v := by
  rw [cell_of_row w g j _ t (0, 0) h.at_]; simpa using hv
theorem Row.lt (h : Row w g c t) : g < w.heap.size := (Array.getElem?_eq_some_iff.1 h.at_).1
theorem Row.kept {B : Nat} (h : Row w g c t) (hb : Below B w w') (hg : g < B) : Row w' g c t := ⟨(hb.block g hg).trans h.at_⟩
theorem Row.new (w : World) (c : List Value) (t : TypeId) : Row (w.alloc (.cells c.toArray t)) w.heap.size c t := ⟨heap_alloc_last w _⟩
end

section
variable {S T : List Nat} {w w' w'' : World}
end
theorem hid {p : Prop} (h : p) : Hid p := h
end Go.Proofs.YtnflgkobedbemaaGreatDoor.Snd

namespace Go.Proofs.YtnflgkobedbemaaGreatDoor.Snd
open Go.RowKit
set_option maxRecDepth 100000

theorem cell_kept {w w' : World} (hb : Below w.heap.size w w') {ad : Addr} {v : Value} (h : w.cell? ad = some v) : w'.cell? ad = some v :=
  (hb.cell (World.block_lt_of_cell? w ad h)).trans h

end Go.Proofs.YtnflgkobedbemaaGreatDoor.Snd

namespace Go.Proofs.YtnflgkobedbemaaGreatDoor.Snd
open Go.RowKit
set_option maxRecDepth 100000

/-- A byte as the number that a cell holds. -/
def ub (x : BitVec 8) : Int := (x.toNat : Int)
/-- The bytes lie from address a on. -/
def BytesAt (w : World) (a : Option Addr) (bs : List (BitVec 8)) : Prop :=
  ∀ k (h : k < bs.length), ∃ g o, a = some ⟨g, o, none⟩ ∧ w.cell? ⟨g, o + k, none⟩ = some (.int .u8 (ub bs[k]))
theorem BytesAt.kept {w w' : World} {a : Option Addr} {bs : List (BitVec 8)} (h : BytesAt w a bs) (hb : Below w.heap.size w w') : BytesAt w' a bs :=
  fun k hk => by obtain ⟨g, o, e, c⟩ := h k hk; exact ⟨g, o, e, cell_kept hb c⟩
end Go.Proofs.YtnflgkobedbemaaGreatDoor.Snd

namespace Go.Proofs.YtnflgkobedbemaaGreatDoor.Snd
open Go.RowKit
set_option maxRecDepth 100000

section
variable {S T : Nat → Prop} {w w' w'' : World}
end
theorem cell_drewN {w : World} {m : Nat} {ad : Addr} {v : Value} (h : w.cell? ad = some v) : (w.drewN m).cell? ad = some v := h

/-- A chunk: its place, its bytes and where they lie. -/
structure Ck where
  off : Int
  bs : List (BitVec 8)
  a : Option Addr
  cap : Nat
  fin : Bool
  on : Int
  out : Bool
  held : Bool
instance : Inhabited Ck := ⟨⟨0, [], none, 0, false, 0, false, false⟩⟩
def Ck.cells (c : Ck) : List Value := [.int .u64 c.off, .slice c.a c.bs.length c.cap, .bool c.fin, .int .u8 c.on, .bool c.out, .bool c.held]
def Ck.behind (c : Ck) : Int := if c.fin = true then c.off + 1 else c.off + c.bs.length
/-- The chunks of a list. -/
def CksAt (w : World) (a : Option Addr) (L : List Ck) : Prop := ∀ k (h : k < L.length), ∃ g o, a = some ⟨g, o, none⟩ ∧ ∀ j v, L[k].cells[j]? = some v → w.cell? ⟨g, o + k * 6 + j, none⟩ = some v
theorem CksAt.kept {w w' : World} {a : Option Addr} {L : List Ck} (h : CksAt w a L) (hb : Below w.heap.size w w') : CksAt w' a L := fun i hi => by
  obtain ⟨g, o, e, h1⟩ := h i hi
  exact ⟨g, o, e, fun j v hv => cell_kept hb (h1 j v hv)⟩
structure Sb where
  room : Int
  mss : Int
  acked : Int
  high : Int
  end_ : Int
  edge : Int
  closed : Bool
  L : List Ck
def Sb.cells (F : Sb) (v : Value) : List Value := [.int .i64 F.room, .int .i64 F.mss, .int .u64 F.acked, .int .u64 F.high, .int .u64 F.end_, .int .u64 F.edge, .bool F.closed, v]
/-- What holds of a chunk. -/
structure CkOk (F : Sb) (c : Ck) : Prop where
  o0 : 0 ≤ c.off
  ol : c.off + c.bs.length ≤ F.end_
  on0 : 0 ≤ c.on
  on1 : c.on ≤ 255
  cap : c.bs.length ≤ c.cap
  capm : c.cap ≤ 65536
  fin : c.fin = true → c.bs = [] ∧ c.off = F.end_
  few : c.fin = false → c.bs ≠ []
/-- The chunks lie side by side. -/
structure Sb.Ok (F : Sb) : Prop where
  r0 : 1 ≤ F.room
  r1 : F.room ≤ 65536
  m0 : 1 ≤ F.mss
  m1 : F.mss ≤ 1024
  a0 : 0 ≤ F.acked
  a1 : F.acked ≤ F.end_ + 1
  h0 : 0 ≤ F.high
  h1 : F.high ≤ F.end_
  e1 : F.end_ ≤ 4611686018427387904
  fr : F.end_ - F.room ≤ F.acked
  g0 : 0 ≤ F.edge
  g1 : F.edge ≤ 18446744073709551615
  ck : ∀ c ∈ F.L, CkOk F c
  so : F.L.Pairwise (fun c d => c.off < d.off)
  nl : F.L.length ≤ 65537
  cl : F.closed = false → ∀ c ∈ F.L, c.fin = false
  ak : ∀ c ∈ F.L, F.acked < c.behind
  ch : ∀ i (h : i + 1 < F.L.length), (F.L[i]'(by omega)).off + (F.L[i]'(by omega)).bs.length = F.L[i + 1].off
  la : ∀ c, F.L.getLast? = some c → c.off + c.bs.length = F.end_
def Sb.free (F : Sb) : Int := F.room - (F.end_ - min F.acked F.end_)
def Sb.done (F : Sb) : Bool := F.closed && decide (F.end_ < F.acked)
/-- A buffer, for reading. -/
structure SbR (w : World) (p : Nat) (F : Sb) (a : Option Addr) (cap : Nat) : Prop where
  row : Row w p (F.cells (.slice a F.L.length cap)) 169
  ck : CksAt w a F.L
  by_ : ∀ c ∈ F.L, BytesAt w c.a c.bs
  ok : F.Ok
  lc : F.L.length ≤ cap
  cm : cap ≤ maxLen
theorem SbR.kept {w w' : World} {p : Nat} {F : Sb} {a : Option Addr} {cap : Nat} (h : SbR w p F a cap) (hb : Below w.heap.size w w') : SbR w' p F a cap :=
  ⟨h.row.kept hb h.row.lt, h.ck.kept hb, fun c hc => (h.by_ c hc).kept hb, h.ok, h.lc, h.cm⟩
section
variable {w : World} {p : Nat} {F : Sb} {a : Option Addr} {cap : Nat}
set_option maxHeartbeats 400000 in
theorem end_any (h : SbR w p F a cap) : Calls Tryz.prog 81 #[.pointer (some ⟨p, 0, none⟩)] w fun e w' => e = .returned (.int .u64 F.end_) ∧ w' = w := by
  have c := h.row.cell 4 _ rfl
  clear h
  go_enter Tryz.func81, Tryz.ntmps81
  go_wp2
  go_ret
  exact ⟨rfl, rfl⟩
set_option maxHeartbeats 400000 in
theorem high_any (h : SbR w p F a cap) : Calls Tryz.prog 80 #[.pointer (some ⟨p, 0, none⟩)] w fun e w' => e = .returned (.int .u64 F.high) ∧ w' = w := by
  have c := h.row.cell 3 _ rfl
  clear h
  go_enter Tryz.func80, Tryz.ntmps80
  go_wp2
  go_ret
  exact ⟨rfl, rfl⟩
set_option maxHeartbeats 400000 in
theorem acked_any (h : SbR w p F a cap) : Calls Tryz.prog 79 #[.pointer (some ⟨p, 0, none⟩)] w fun e w' => e = .returned (.int .u64 F.acked) ∧ w' = w := by
  have c := h.row.cell 2 _ rfl
  clear h
  go_enter Tryz.func79, Tryz.ntmps79
  go_wp2
  go_ret
  exact ⟨rfl, rfl⟩
set_option maxHeartbeats 400000 in
theorem edge_any (h : SbR w p F a cap) : Calls Tryz.prog 82 #[.pointer (some ⟨p, 0, none⟩)] w fun e w' => e = .returned (.int .u64 F.edge) ∧ w' = w := by
  have c := h.row.cell 5 _ rfl
  clear h
  go_enter Tryz.func82, Tryz.ntmps82
  go_wp2
  go_ret
  exact ⟨rfl, rfl⟩
set_option maxHeartbeats 400000 in
theorem closed_any (h : SbR w p F a cap) : Calls Tryz.prog 78 #[.pointer (some ⟨p, 0, none⟩)] w fun e w' => e = .returned (.bool F.closed) ∧ w' = w := by
  have c := h.row.cell 6 _ rfl
  clear h
  go_enter Tryz.func78, Tryz.ntmps78
  go_wp2
  go_ret
  exact ⟨rfl, rfl⟩
set_option maxHeartbeats 1000000 in
theorem done_t (h : SbR w p F a cap) (hc : F.closed = true) : Calls Tryz.prog 98 #[.pointer (some ⟨p, 0, none⟩)] w fun e w' => e = .returned (.bool (decide (F.end_ < F.acked))) ∧ ∃ q, w' = w.drewN q := by
  have c6 : ∀ q, (w.drewN q).cell? ⟨p, 6, none⟩ = some (.bool true) := fun q => by rw [← hc]; exact cell_drewN (h.row.cell 6 _ rfl)
  have c2 : ∀ q, (w.drewN q).cell? ⟨p, 2, none⟩ = some (.int .u64 F.acked) := fun q => cell_drewN (h.row.cell 2 _ rfl)
  have c4 : ∀ q, (w.drewN q).cell? ⟨p, 4, none⟩ = some (.int .u64 F.end_) := fun q => cell_drewN (h.row.cell 4 _ rfl)
  clear h hc
  go_enter Tryz.func98, Tryz.ntmps98
  go_upto_region 1 with (fail)
  refine wp_region_quiet_lit (by kernel_rfl) (by kernel_rfl) ?_
  repeat (quiet_step (fail))
  refine wpQuiet_nil ?_
  intro w1 hw'
  obtain ⟨nq, rfl⟩ := hw'
  go_wp2_with fail
  go_ret
  exact ⟨by first | rfl | simp, nq, rfl⟩
set_option maxHeartbeats 1000000 in
theorem done_f (h : SbR w p F a cap) (hc : F.closed = false) : Calls Tryz.prog 98 #[.pointer (some ⟨p, 0, none⟩)] w fun e w' => e = .returned (.bool false) ∧ ∃ q, w' = w.drewN q := by
  obtain ⟨E, hE⟩ : ∃ E : Bool, E = false := ⟨_, rfl⟩
  have c6 : ∀ q, (w.drewN q).cell? ⟨p, 6, none⟩ = some (.bool E) := fun q => by rw [hE, ← hc]; exact cell_drewN (h.row.cell 6 _ rfl)
  have HN : Hid (¬ E = true) := by show ¬ _; rw [hE]; simp
  clear h hc hE
  go_enter Tryz.func98, Tryz.ntmps98
  go_upto_region 1 with (fail)
  refine wp_region_quiet_lit (by kernel_rfl) (by kernel_rfl) ?_
  iterate 5 (quiet_step (fail))
  iterate 10 (refine wpQuiet_step (fun K hK => ?_); go_simp; rw [if_neg HN.out]; refine hK _ ?_; clear hK K)
  quiet_step (fail)
  refine wpQuiet_nil ?_
  intro w1 hw'
  obtain ⟨nq, rfl⟩ := hw'
  go_wp2_with fail
  go_ret
  exact ⟨rfl, nq, rfl⟩
theorem done_any (h : SbR w p F a cap) : Calls Tryz.prog 98 #[.pointer (some ⟨p, 0, none⟩)] w fun e w' => e = .returned (.bool F.done) ∧ ∃ q, w' = w.drewN q := by
  unfold Sb.done
  cases hE : F.closed with
  | false => exact done_f h hE
  | true =>
    refine (done_t h hE).mono ?_
    rintro e w' ⟨rfl, hb⟩
    exact ⟨by simp, hb⟩
set_option maxHeartbeats 1000000 in
theorem free_any (h : SbR w p F a cap) : Calls Tryz.prog 83 #[.pointer (some ⟨p, 0, none⟩)] w fun e w' => e = .returned (.int .i64 F.free) ∧ ∃ q, w' = w.drewN q := by
  have c0 : ∀ q, (w.drewN q).cell? ⟨p, 0, none⟩ = some (.int .i64 F.room) := fun q => cell_drewN (h.row.cell 0 _ rfl)
  have c2 : ∀ q, (w.drewN q).cell? ⟨p, 2, none⟩ = some (.int .u64 F.acked) := fun q => cell_drewN (h.row.cell 2 _ rfl)
  have c4 : ∀ q, (w.drewN q).cell? ⟨p, 4, none⟩ = some (.int .u64 F.end_) := fun q => cell_drewN (h.row.cell 4 _ rfl)
  have k1 := h.ok.a0
  have k2 := h.ok.fr
  have k3 := h.ok.r1
  have k4 := h.ok.r0
  have k5 := h.ok.e1
  have k6 := h.ok.h0
  have k7 := h.ok.h1
  have k8 : 0 ≤ F.end_ - min F.acked F.end_ := by omega
  have k9 : F.end_ - min F.acked F.end_ ≤ F.room := by omega
  unfold Sb.free
  clear h
  go_enter Tryz.func83, Tryz.ntmps83
  go_upto_region 1 with (fail)
  refine wp_region_quiet_lit (by kernel_rfl) (by kernel_rfl) ?_
  repeat (quiet_step (fail))
  refine wpQuiet_nil ?_
  intro w1 hw'
  obtain ⟨nq, rfl⟩ := hw'
  go_wp2_with fail
  go_ret
  have e1 : IntKind.u64.wrap (F.end_ - min F.acked F.end_) = F.end_ - min F.acked F.end_ := by rw [IntKind.wrap_u64]; omega
  have e2 : IntKind.i64.wrap (F.end_ - min F.acked F.end_) = F.end_ - min F.acked F.end_ := by rw [IntKind.wrap_i64]; omega
  have e3 : IntKind.i64.wrap (F.room - (F.end_ - min F.acked F.end_)) = F.room - (F.end_ - min F.acked F.end_) := by rw [IntKind.wrap_i64]; omega
  exact ⟨by rw [e1, e2, e3]; rfl, nq, rfl⟩
end
set_option maxHeartbeats 1000000 in
theorem between_any (w : World) (n l m : Int) : Calls Tryz.prog 110 #[.int .i64 n, .int .i64 l, .int .i64 m] w fun e w' => e = .returned (.int .i64 (max l (min n m))) ∧ w' = w := by
  go_enter Tryz.func110, Tryz.ntmps110
  go_wp2
  go_ret
  exact ⟨by first | rfl | simp, rfl⟩
end Go.Proofs.YtnflgkobedbemaaGreatDoor.Snd

namespace Go.Proofs.YtnflgkobedbemaaGreatDoor.Snd
open Go.RowKit Go.Maps Go.Sort
set_option maxRecDepth 100000

/-- A buffer with its memory. -/
structure SbW (w : World) (p : Nat) (F : Sb) (a : Option Addr) (cap : Nat) : Prop where
  r : SbR w p F a cap
  own : cap = 0 ∨ ∃ g o arr, a = some ⟨g, o, none⟩ ∧ w.heap[g]? = some (.cells arr 186 (0, 0)) ∧ o + cap * 6 = arr.size
  ap : ∀ c ∈ F.L, ∀ g o, c.a = some ⟨g, o, none⟩ → g ≠ p ∧ ∀ g' o', a = some ⟨g', o', none⟩ → g ≠ g'
theorem SbW.kept {w w' : World} {p : Nat} {F : Sb} {a : Option Addr} {cap : Nat} (h : SbW w p F a cap) (hb : Below w.heap.size w w') : SbW w' p F a cap := by
  refine ⟨h.r.kept hb, ?_, h.ap⟩
  rcases h.own with e | ⟨g, o, arr, e, hg, hs⟩
  · exact .inl e
  · exact .inr ⟨g, o, arr, e, (hb.block g (Array.getElem?_eq_some_iff.1 hg).1).trans hg, hs⟩
end Go.Proofs.YtnflgkobedbemaaGreatDoor.Snd

namespace Go.Proofs.YtnflgkobedbemaaGreatDoor.Snd
open Go.RowKit Go.Maps Go.Sort
set_option maxRecDepth 100000

/-- A buffer with nothing in it. -/
def Sb.mk1 (b r m e : Int) : Sb := ⟨r, m, b, b, b, e, false, []⟩
theorem Sb.mk1_ok {b r m e : Int} (b0 : 0 ≤ b) (b1 : b ≤ 4611686018427387904) (r0 : 1 ≤ r) (r1 : r ≤ 65536) (m0 : 1 ≤ m) (m1 : m ≤ 1024) (h1 : 0 ≤ e) (h2 : e ≤ 18446744073709551615) : (Sb.mk1 b r m e).Ok :=
  ⟨r0, r1, m0, m1, b0, by show b ≤ b + 1; omega, b0, Int.le_refl b, b1, by show b - r ≤ b; omega, h1, h2, (fun c hc => by cases hc), List.Pairwise.nil, Nat.zero_le _, (fun _ c hc => by cases hc), (fun c hc => by cases hc), (fun i h => by cases h), fun c hc => by cases hc⟩
set_option maxHeartbeats 2000000 in
theorem new_any (w : World) {base room mss edge b r m : Int} (h0 : 0 ≤ base) (h1 : 0 ≤ edge) (h2 : edge ≤ 18446744073709551615) (hb : min base 4611686018427387904 = b) (hr : max 1 (min room 65536) = r) (hm : max 1 (min mss 1024) = m) :
    Calls Tryz.prog 73 #[.int .u64 base, .int .i64 room, .int .i64 mss, .int .u64 edge] w fun e w' => ∃ p, e = .returned (.pointer (some ⟨p, 0, none⟩)) ∧ SbW w' p (Sb.mk1 b r m edge) none 0 ∧ Below w.heap.size w w' ∧ w.heap.size ≤ p := by
  have HBW := fun w n l m => hid (between_any w n l m)
  have HK := hid (Sb.mk1_ok (b := b) (r := r) (m := m) (e := edge) (by omega) (by omega) (by omega) (by omega) (by omega) (by omega) h1 h2)
  have HRR := hid hr
  have HMM := hid hm
  clear hr hm
  go_enter Tryz.func73, Tryz.ntmps73
  go_wp2_with (go_at_call 110; refine (HBW _ _ _ _).out.mono ?_; rintro e w1 ⟨rfl, rfl⟩)
  go_ret
  rw [HRR.out, HMM.out]
  have hrow : Row (w1.alloc (.cells #[.int .i64 r, .int .i64 m, .int .u64 b, .int .u64 b, .int .u64 b, .int .u64 edge, .bool false, .slice none 0 0] 169)) w1.heap.size [.int .i64 r, .int .i64 m, .int .u64 b, .int .u64 b, .int .u64 b, .int .u64 edge, .bool false, .slice none 0 0] 169 := Row.new w1 _ _
  exact ⟨w1.heap.size, rfl, ⟨⟨hrow, fun k hk => (by cases hk), fun c hc => (by cases hc), HK.out, Nat.le_refl _, Nat.zero_le _⟩, .inl rfl, fun c hc => (by cases hc)⟩, (Below.refl _ _).alloc (Nat.le_refl _) _, Nat.le_refl _⟩
end Go.Proofs.YtnflgkobedbemaaGreatDoor.Snd
