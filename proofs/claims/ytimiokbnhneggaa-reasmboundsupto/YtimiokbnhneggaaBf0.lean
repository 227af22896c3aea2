import Derived.Test.YtimiokbnhneggaaNew0
import Derived.Test.YtimiokbnhneggaaSto3
import Derived.Test.YtimiokbnhneggaaBvRemove
import Derived.Test.YtimiokbnhneggaaIvMiss
import Derived.Test.YtimiokbnhneggaaIvWith
namespace Go.Proofs.Ytimiokbnhneggaa
open Go.RowKit Go.Maps
set_option maxRecDepth 100000

/-- What a buffer says: its numbers, and the stretches that have come. -/
structure Bf where
  base : Int
  room : Int
  gaps : Int
  read : Int
  fin : Int
  ends : Bool
  L : List Rg
def Bf.cells (b : Nat) (F : Bf) : List Value := [.map (some b), .int .u64 F.base, .int .i64 F.room, .int .i64 F.gaps, .int .u64 F.read, .int .u64 F.fin, .bool F.ends]
def Bf.gap (F : Bf) : Int := gapOf F.L F.read
def Bf.edge (F : Bf) : Int := F.read + F.room
/-- How many stretches lie apart. -/
def Bf.apart (F : Bf) : Int := (F.L.length : Int) - (if F.gap ≠ F.read then 1 else 0)
structure Bf.Ok (F : Bf) : Prop where
  fit : Fit F.L
  b0 : 0 ≤ F.base
  b1 : F.base ≤ 4611686018427387904
  r0 : 1 ≤ F.room
  r1 : F.room ≤ 1073741824
  g0 : 1 ≤ F.gaps
  g1 : F.gaps ≤ 64
  rd : F.base ≤ F.read
  rm : F.read ≤ 9223372036854775807
  rm2 : F.read ≤ F.base + 2305843009213693952
  inn : ∀ r ∈ F.L, F.read ≤ r.1 ∧ r.2 ≤ F.read + F.room
  few : F.apart ≤ F.gaps
  fin0 : 0 ≤ F.fin
  fin1 : F.fin ≤ F.read + F.room
  fin2 : F.ends = false → F.fin = 0
  fin3 : F.ends = true → F.read ≤ F.fin ∧ ∀ r ∈ F.L, r.2 ≤ F.fin
theorem Bf.Ok.len {F : Bf} (h : F.Ok) : F.L.length ≤ 65 := by
  have h1 := h.few
  have h2 := h.g1
  unfold Bf.apart at h1
  split at h1 <;> omega
/-- The buffer at p as reading calls see it. -/
structure BufR (w : World) (p : Nat) (v : Value) (b : Nat) (F : Bf) : Prop where
  set : BvAt w p v (F.cells b) F.L
  ok : F.Ok
theorem BufR.row {w : World} {p b : Nat} {v : Value} {F : Bf} (h : BufR w p v b F) : Row w p (v :: F.cells b) 57 := ⟨h.set.hp⟩
theorem BufR.kept {w w' : World} {p b : Nat} {v : Value} {F : Bf} (h : BufR w p v b F) (hb : Below w.heap.size w w') : BufR w' p v b F := ⟨h.set.kept hb, h.ok⟩
theorem BufR.view {w : World} {p b : Nat} {v : Value} {F : Bf} (h : BufR w p v b F) : ∃ a cap, v = .slice a F.L.length cap ∧ View w p a cap F.L := h.set.view (by have := h.ok.len; omega)
set_option maxHeartbeats 1000000 in
theorem none_no {w : World} {p b : Nat} {v : Value} {F : Bf} (h : BufR w p v b F) : Calls Try.prog 27 #[.pointer (some ⟨p, 0, none⟩)] w fun e w' => e = .returned (.bool false) ∧ w' = w := by
  have c3 := h.row.cell 3 _ rfl
  have hr := h.ok.r0
  have he : (F.room == 0) = false := by simp; omega
  clear h
  go_enter Try.func27, Try.ntmps27
  go_wp2
  go_ret
  exact ⟨by simp, rfl⟩
set_option maxHeartbeats 1000000 in
theorem edge_any {w : World} {p b : Nat} {v : Value} {F : Bf} (h : BufR w p v b F) : Calls Try.prog 17 #[.pointer (some ⟨p, 0, none⟩)] w fun e w' => e = .returned (.int .u64 F.edge) ∧ ∃ q, w' = w.drewN q := by
  have hn := none_no h
  have c3 := h.row.cell 3 _ rfl
  have c5 := h.row.cell 5 _ rfl
  have h1 := h.ok.rm
  have h2 := h.ok.r0
  have h3 := h.ok.r1
  have h4 := h.ok.rd
  have h5 := h.ok.b0
  clear h
  unfold Bf.edge
  go_enter Try.func17, Try.ntmps17
  go_wp2_with (go_at_call 27; refine hn.mono ?_; rintro e w1 ⟨rfl, rfl⟩)
  go_quiet (fail)
  go_wp2
  go_ret
  exact ⟨rfl, nq, rfl⟩
end Go.Proofs.Ytimiokbnhneggaa
