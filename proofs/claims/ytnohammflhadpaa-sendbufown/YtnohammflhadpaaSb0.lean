import Derived.Test.YtnohammflhadpaaBy0
namespace Go.Proofs.Ytnohammflhadpaa
open Go.RowKit
set_option maxRecDepth 100000

/-- Nothing but what S says is another one. -/
structure Fr (S : Nat → Prop) (w w' : World) : Prop where
  os : w'.os = w.os
  tape : w'.tape = w.tape
  output : w'.output = w.output
  size : w.heap.size ≤ w'.heap.size
  block : ∀ k, k < w.heap.size → ¬ S k → w'.heap[k]? = w.heap[k]?
section
variable {S T : Nat → Prop} {w w' w'' : World}
theorem Fr.refl (S : Nat → Prop) (w : World) : Fr S w w := ⟨rfl, rfl, rfl, Nat.le_refl _, fun _ _ _ => rfl⟩
theorem Fr.of_below {B : Nat} (h : Below B w w') (hB : w.heap.size ≤ B) : Fr S w w' := ⟨h.os, h.tape, h.output, h.size, fun k hk _ => h.block k (by omega)⟩
theorem Fr.trans (h : Fr S w w') (k : Fr T w' w'') (hT : ∀ x, T x → S x ∨ w.heap.size ≤ x) : Fr S w w'' :=
  ⟨k.os.trans h.os, k.tape.trans h.tape, k.output.trans h.output, Nat.le_trans h.size k.size, fun x hx hS => (k.block x (Nat.lt_of_lt_of_le hx h.size) (fun ht => by rcases hT x ht with e | e; exact hS e; omega)).trans (h.block x hx hS)⟩
theorem Fr.wider (h : Fr S w w') (hT : ∀ x, S x → T x) : Fr T w w' := ⟨h.os, h.tape, h.output, h.size, fun k hk hp => h.block k hk (fun hm => hp (hT k hm))⟩
theorem Fr.of_grown {r : Option Nat} (h : w.grownBy w' r) (hr : ∀ k, r = some k → S k ∨ w.heap.size ≤ k) : Fr S w w' :=
  ⟨h.os, h.tape, h.output, h.size, fun k hk hS => h.block k hk (fun e => by rcases hr k e.symm with e | e; exact hS e; omega)⟩
theorem Fr.cell (h : Fr S w w') {a : Addr} {v : Value} (hc : w.cell? a = some v) (hS : ¬ S a.block) : w'.cell? a = some v := by
  have hl := World.block_lt_of_cell? w a hc
  rw [← hc]
  unfold World.cell?
  rw [h.block a.block hl hS]
theorem Fr.row (h : Fr S w w') {g : Nat} {c : List Value} {t : TypeId} (hr : Row w g c t) (hS : ¬ S g) : Row w' g c t := ⟨(h.block g hr.lt hS).trans hr.at_⟩
theorem Fr.below {B : Nat} (h : Fr S w w') (hS : ∀ x, S x → B ≤ x) (hB : B ≤ w.heap.size) : Below B w w' :=
  ⟨h.os, h.tape, h.output, h.size, fun k hk => h.block k (by omega) (fun e => by have := hS k e; omega)⟩
theorem Fr.grown (h : Fr S w w') {g : Nat} (hS : ∀ x, S x → x = g ∨ w.heap.size ≤ x) : w.grownBy w' (some g) :=
  ⟨h.os, h.tape, h.output, h.size, fun k hk e => h.block k hk (fun hs => by rcases hS k hs with e' | e'; exact e (by rw [e']); omega)⟩
theorem Fr.drewN (h : Fr S w w') (q : Nat) : Fr S w (w'.drewN q) := ⟨h.os, h.tape, h.output, h.size, h.block⟩
end
theorem cell_drewN {w : World} {m : Nat} {ad : Addr} {v : Value} (h : w.cell? ad = some v) : (w.drewN m).cell? ad = some v := h

/-- A chunk: its place, its bytes and where they lie. -/
structure Ck where
  off : Int
  bs : List (BitVec 8)
  a : Option Addr
  cap : Nat
  fin : Bool
  on : Int
  out : Bool
  held : Bool
instance : Inhabited Ck := ⟨⟨0, [], none, 0, false, 0, false, false⟩⟩
def Ck.cells (c : Ck) : List Value := [.int .u64 c.off, .slice c.a c.bs.length c.cap, .bool c.fin, .int .u8 c.on, .bool c.out, .bool c.held]
def Ck.behind (c : Ck) : Int := if c.fin = true then c.off + 1 else c.off + c.bs.length
/-- The chunks of a list. -/
def CksAt (w : World) (a : Option Addr) (L : List Ck) : Prop := ∀ k (h : k < L.length), ∃ g o, a = some ⟨g, o, none⟩ ∧ ∀ j v, L[k].cells[j]? = some v → w.cell? ⟨g, o + k * 6 + j, none⟩ = some v
theorem CksAt.kept {w w' : World} {a : Option Addr} {L : List Ck} (h : CksAt w a L) (hb : Below w.heap.size w w') : CksAt w' a L := fun i hi => by
  obtain ⟨g, o, e, h1⟩ := h i hi
  exact ⟨g, o, e, fun j v hv => cell_kept hb (h1 j v hv)⟩
structure Sb where
  room : Int
  mss : Int
  acked : Int
  high : Int
  end_ : Int
  edge : Int
  closed : Bool
  L : List Ck
def Sb.cells (F : Sb) (v : Value) : List Value := [.int .i64 F.room, .int .i64 F.mss, .int .u64 F.acked, .int .u64 F.high, .int .u64 F.end_, .int .u64 F.edge, .bool F.closed, v]
/-- What holds of a chunk. -/
structure CkOk (F : Sb) (c : Ck) : Prop where
  o0 : 0 ≤ c.off
  ol : c.off + c.bs.length ≤ F.end_
  on0 : 0 ≤ c.on
  on1 : c.on ≤ 255
  cap : c.bs.length ≤ c.cap
  capm : c.cap ≤ 65536
  fin : c.fin = true → c.bs = [] ∧ c.off = F.end_
  few : c.fin = false → c.bs ≠ []
/-- The chunks lie side by side. -/
structure Sb.Ok (F : Sb) : Prop where
  r0 : 1 ≤ F.room
  r1 : F.room ≤ 65536
  m0 : 1 ≤ F.mss
  m1 : F.mss ≤ 1024
  a0 : 0 ≤ F.acked
  a1 : F.acked ≤ F.end_ + 1
  h0 : 0 ≤ F.high
  h1 : F.high ≤ F.end_
  e1 : F.end_ ≤ 4611686018427387904
  fr : F.end_ - F.room ≤ F.acked
  g0 : 0 ≤ F.edge
  g1 : F.edge ≤ 18446744073709551615
  ck : ∀ c ∈ F.L, CkOk F c
  so : F.L.Pairwise (fun c d => c.off < d.off)
  nl : F.L.length ≤ 65537
  cl : F.closed = false → ∀ c ∈ F.L, c.fin = false
  ak : ∀ c ∈ F.L, F.acked < c.behind
  ch : ∀ i (h : i + 1 < F.L.length), (F.L[i]'(by omega)).off + (F.L[i]'(by omega)).bs.length = F.L[i + 1].off
  la : ∀ c, F.L.getLast? = some c → c.off + c.bs.length = F.end_
def Sb.free (F : Sb) : Int := F.room - (F.end_ - min F.acked F.end_)
def Sb.done (F : Sb) : Bool := F.closed && decide (F.end_ < F.acked)
/-- A buffer, for reading. -/
structure SbR (w : World) (p : Nat) (F : Sb) (a : Option Addr) (cap : Nat) : Prop where
  row : Row w p (F.cells (.slice a F.L.length cap)) 74
  ck : CksAt w a F.L
  by_ : ∀ c ∈ F.L, BytesAt w c.a c.bs
  ok : F.Ok
  lc : F.L.length ≤ cap
  cm : cap ≤ maxLen
theorem SbR.kept {w w' : World} {p : Nat} {F : Sb} {a : Option Addr} {cap : Nat} (h : SbR w p F a cap) (hb : Below w.heap.size w w') : SbR w' p F a cap :=
  ⟨h.row.kept hb h.row.lt, h.ck.kept hb, fun c hc => (h.by_ c hc).kept hb, h.ok, h.lc, h.cm⟩
section
variable {w : World} {p : Nat} {F : Sb} {a : Option Addr} {cap : Nat}
set_option maxHeartbeats 400000 in
theorem end_any (h : SbR w p F a cap) : Calls Try.prog 15 #[.pointer (some ⟨p, 0, none⟩)] w fun e w' => e = .returned (.int .u64 F.end_) ∧ w' = w := by
  have c := h.row.cell 4 _ rfl
  clear h
  go_enter Try.func15, Try.ntmps15
  go_wp2
  go_ret
  exact ⟨rfl, rfl⟩
set_option maxHeartbeats 400000 in
theorem high_any (h : SbR w p F a cap) : Calls Try.prog 16 #[.pointer (some ⟨p, 0, none⟩)] w fun e w' => e = .returned (.int .u64 F.high) ∧ w' = w := by
  have c := h.row.cell 3 _ rfl
  clear h
  go_enter Try.func16, Try.ntmps16
  go_wp2
  go_ret
  exact ⟨rfl, rfl⟩
set_option maxHeartbeats 400000 in
theorem acked_any (h : SbR w p F a cap) : Calls Try.prog 20 #[.pointer (some ⟨p, 0, none⟩)] w fun e w' => e = .returned (.int .u64 F.acked) ∧ w' = w := by
  have c := h.row.cell 2 _ rfl
  clear h
  go_enter Try.func20, Try.ntmps20
  go_wp2
  go_ret
  exact ⟨rfl, rfl⟩
set_option maxHeartbeats 400000 in
theorem edge_any (h : SbR w p F a cap) : Calls Try.prog 22 #[.pointer (some ⟨p, 0, none⟩)] w fun e w' => e = .returned (.int .u64 F.edge) ∧ w' = w := by
  have c := h.row.cell 5 _ rfl
  clear h
  go_enter Try.func22, Try.ntmps22
  go_wp2
  go_ret
  exact ⟨rfl, rfl⟩
set_option maxHeartbeats 400000 in
theorem closed_any (h : SbR w p F a cap) : Calls Try.prog 31 #[.pointer (some ⟨p, 0, none⟩)] w fun e w' => e = .returned (.bool F.closed) ∧ w' = w := by
  have c := h.row.cell 6 _ rfl
  clear h
  go_enter Try.func31, Try.ntmps31
  go_wp2
  go_ret
  exact ⟨rfl, rfl⟩
set_option maxHeartbeats 1000000 in
theorem done_t (h : SbR w p F a cap) (hc : F.closed = true) : Calls Try.prog 13 #[.pointer (some ⟨p, 0, none⟩)] w fun e w' => e = .returned (.bool (decide (F.end_ < F.acked))) ∧ ∃ q, w' = w.drewN q := by
  have c6 : ∀ q, (w.drewN q).cell? ⟨p, 6, none⟩ = some (.bool true) := fun q => by rw [← hc]; exact cell_drewN (h.row.cell 6 _ rfl)
  have c2 : ∀ q, (w.drewN q).cell? ⟨p, 2, none⟩ = some (.int .u64 F.acked) := fun q => cell_drewN (h.row.cell 2 _ rfl)
  have c4 : ∀ q, (w.drewN q).cell? ⟨p, 4, none⟩ = some (.int .u64 F.end_) := fun q => cell_drewN (h.row.cell 4 _ rfl)
  clear h hc
  go_enter Try.func13, Try.ntmps13
  go_upto_region 1 with (fail)
  refine wp_region_quiet_lit (by kernel_rfl) (by kernel_rfl) ?_
  repeat (quiet_step (fail))
  refine wpQuiet_nil ?_
  intro w1 hw'
  obtain ⟨nq, rfl⟩ := hw'
  go_wp2_with fail
  go_ret
  exact ⟨by first | rfl | simp, nq, rfl⟩
set_option maxHeartbeats 1000000 in
theorem done_f (h : SbR w p F a cap) (hc : F.closed = false) : Calls Try.prog 13 #[.pointer (some ⟨p, 0, none⟩)] w fun e w' => e = .returned (.bool false) ∧ ∃ q, w' = w.drewN q := by
  obtain ⟨E, hE⟩ : ∃ E : Bool, E = false := ⟨_, rfl⟩
  have c6 : ∀ q, (w.drewN q).cell? ⟨p, 6, none⟩ = some (.bool E) := fun q => by rw [hE, ← hc]; exact cell_drewN (h.row.cell 6 _ rfl)
  have HN : Hid (¬ E = true) := by show ¬ _; rw [hE]; simp
  clear h hc hE
  go_enter Try.func13, Try.ntmps13
  go_upto_region 1 with (fail)
  refine wp_region_quiet_lit (by kernel_rfl) (by kernel_rfl) ?_
  iterate 5 (quiet_step (fail))
  iterate 10 (refine wpQuiet_step (fun K hK => ?_); go_simp; rw [if_neg HN.out]; refine hK _ ?_; clear hK K)
  quiet_step (fail)
  refine wpQuiet_nil ?_
  intro w1 hw'
  obtain ⟨nq, rfl⟩ := hw'
  go_wp2_with fail
  go_ret
  exact ⟨rfl, nq, rfl⟩
theorem done_any (h : SbR w p F a cap) : Calls Try.prog 13 #[.pointer (some ⟨p, 0, none⟩)] w fun e w' => e = .returned (.bool F.done) ∧ ∃ q, w' = w.drewN q := by
  unfold Sb.done
  cases hE : F.closed with
  | false => exact done_f h hE
  | true =>
    refine (done_t h hE).mono ?_
    rintro e w' ⟨rfl, hb⟩
    exact ⟨by simp, hb⟩
set_option maxHeartbeats 1000000 in
theorem free_any (h : SbR w p F a cap) : Calls Try.prog 30 #[.pointer (some ⟨p, 0, none⟩)] w fun e w' => e = .returned (.int .i64 F.free) ∧ ∃ q, w' = w.drewN q := by
  have c0 : ∀ q, (w.drewN q).cell? ⟨p, 0, none⟩ = some (.int .i64 F.room) := fun q => cell_drewN (h.row.cell 0 _ rfl)
  have c2 : ∀ q, (w.drewN q).cell? ⟨p, 2, none⟩ = some (.int .u64 F.acked) := fun q => cell_drewN (h.row.cell 2 _ rfl)
  have c4 : ∀ q, (w.drewN q).cell? ⟨p, 4, none⟩ = some (.int .u64 F.end_) := fun q => cell_drewN (h.row.cell 4 _ rfl)
  have k1 := h.ok.a0
  have k2 := h.ok.fr
  have k3 := h.ok.r1
  have k4 := h.ok.r0
  have k5 := h.ok.e1
  have k6 := h.ok.h0
  have k7 := h.ok.h1
  have k8 : 0 ≤ F.end_ - min F.acked F.end_ := by omega
  have k9 : F.end_ - min F.acked F.end_ ≤ F.room := by omega
  unfold Sb.free
  clear h
  go_enter Try.func30, Try.ntmps30
  go_upto_region 1 with (fail)
  refine wp_region_quiet_lit (by kernel_rfl) (by kernel_rfl) ?_
  repeat (quiet_step (fail))
  refine wpQuiet_nil ?_
  intro w1 hw'
  obtain ⟨nq, rfl⟩ := hw'
  go_wp2_with fail
  go_ret
  have e1 : IntKind.u64.wrap (F.end_ - min F.acked F.end_) = F.end_ - min F.acked F.end_ := by rw [IntKind.wrap_u64]; omega
  have e2 : IntKind.i64.wrap (F.end_ - min F.acked F.end_) = F.end_ - min F.acked F.end_ := by rw [IntKind.wrap_i64]; omega
  have e3 : IntKind.i64.wrap (F.room - (F.end_ - min F.acked F.end_)) = F.room - (F.end_ - min F.acked F.end_) := by rw [IntKind.wrap_i64]; omega
  exact ⟨by rw [e1, e2, e3]; rfl, nq, rfl⟩
end
set_option maxHeartbeats 1000000 in
theorem between_any (w : World) (n l m : Int) : Calls Try.prog 36 #[.int .i64 n, .int .i64 l, .int .i64 m] w fun e w' => e = .returned (.int .i64 (max l (min n m))) ∧ w' = w := by
  go_enter Try.func36, Try.ntmps36
  go_wp2
  go_ret
  exact ⟨by first | rfl | simp, rfl⟩
end Go.Proofs.Ytnohammflhadpaa
