import Derived.Test.YtimiokbnhneggaaBy0
import Derived.Maps.Own
import Derived.Maps.OwnOps
import Derived.Maps.OwnSet
import Derived.Maps.Views
namespace Go.Proofs.Ytimiokbnhneggaa
open Go.RowKit Go.Maps
set_option maxRecDepth 100000

abbrev DM := DataW Nat
abbrev kw (n : Int) : Lit := .int .u64 n
/-- A block of bytes as the map's value: where it lies. -/
def readB (v : Value) : Option (DM × List MemPlace) :=
  match v with
  | .slice none 0 0 => some (.nil, [])
  | .slice (some ⟨g, 0, none⟩) 1024 1024 => some (.held g, [])
  | _ => none
theorem readB_nil {v : Value} {ps : List MemPlace} (h : readB v = some (.nil, ps)) : v = .slice none 0 0 := by
  unfold readB at h
  split at h
  · rfl
  · cases h
  · cases h
theorem readB_held {v : Value} {g : Nat} {ps : List MemPlace} (h : readB v = some (.held g, ps)) : v = .slice (some ⟨g, 0, none⟩) 1024 1024 := by
  unfold readB at h
  split at h
  · cases h
  · simp only [Option.some.injEq, Prod.mk.injEq, DataW.held.injEq] at h
    rw [h.1]
  · cases h
theorem readB_cases {v : Value} {d : DM} {ps : List MemPlace} (h : readB v = some (d, ps)) : d = .nil ∨ ∃ g, d = .held g := by
  unfold readB at h
  split at h
  · left; cases h; rfl
  · right; cases h; exact ⟨_, rfl⟩
  · cases h
theorem law28 : Keyed Try.prog 28 := int_keyed Try.underlying28
theorem key28 {n : Int} (h0 : 0 ≤ n) (h1 : n ≤ 18446744073709551615) : keyOf Try.prog 28 (.int .u64 n) = some (kw n) :=
  keyOf_int_mk Try.underlying28 (by simp [Lit.wf, show IntKind.u64.min = 0 by decide, show IntKind.u64.max = 18446744073709551615 by decide]; omega)
theorem zero22 (w : World) : (zeroValue 22).run Try.prog w = .ok (.slice none 0 0) w := by kernel_rfl
abbrev OwnS (w : World) (b n : Nat) (D : DM) : Prop := w.ownsMap Try.prog 28 readB b n D
/-- Which block holds the bytes of a key. -/
def blk (D : DM) (k : Int) : Option Nat := match D.atKey (kw k) .nil with | .held g => some g | _ => none
theorem kw_ne {a b : Int} (h : a ≠ b) : kw a ≠ kw b := fun e => h (by injection e)
theorem keyLit (j : Int) : WideAt.IsKeyLit (kw j) := trivial
theorem blk_put_same {D : DM} (h : IsMap D) (k : Int) (g : Nat) : blk (D.put (kw k) (.held g)) k = some g := by
  unfold blk; rw [atKey_put_same h (keyLit _)]
theorem blk_put_other {D : DM} {k k' : Int} (h : k' ≠ k) (g : Nat) : blk (D.put (kw k) (.held g)) k' = blk D k' := by
  unfold blk; rw [atKey_put_other (kw_ne h)]
theorem blk_del_same {D : DM} (k : Int) : blk (D.del (kw k)) k = none := by
  unfold blk; rw [atKey_del_same]
theorem blk_del_other {D : DM} {k k' : Int} (h : k' ≠ k) : blk (D.del (kw k)) k' = blk D k' := by
  unfold blk; rw [atKey_del_other (kw_ne h)]
theorem blk_empty (k : Int) : blk (.map []) k = none := by unfold blk; rfl
/-- What a look-up in the map gives. -/
theorem look_some {w : World} {b n : Nat} {D : DM} (h : OwnS w b n D) {k : Int} (h0 : 0 ≤ k) (h1 : k ≤ 18446744073709551615) {g : Nat} (hg : blk D k = some g) :
    (Instr.lookup 55 (.map (some b)) (.int .u64 k) false).run Try.prog w = .ok (.slice (some ⟨g, 0, none⟩) 1024 1024) w := by
  obtain ⟨v, ps, hr, hv⟩ := h.lookup law28 Try.underlying55 (zero22 w) (zd := .nil) (zp := []) rfl (key28 h0 h1)
  unfold blk at hg
  rcases readB_cases hv with e | ⟨g', e⟩
  · rw [e] at hg; cases hg
  · rw [e] at hg hv
    simp only [Option.some.injEq] at hg
    subst hg
    rw [readB_held hv] at hr
    exact hr
theorem look_none {w : World} {b n : Nat} {D : DM} (h : OwnS w b n D) {k : Int} (h0 : 0 ≤ k) (h1 : k ≤ 18446744073709551615) (hg : blk D k = none) :
    (Instr.lookup 55 (.map (some b)) (.int .u64 k) false).run Try.prog w = .ok (.slice none 0 0) w := by
  obtain ⟨v, ps, hr, hv⟩ := h.lookup law28 Try.underlying55 (zero22 w) (zd := .nil) (zp := []) rfl (key28 h0 h1)
  unfold blk at hg
  rcases readB_cases hv with e | ⟨g', e⟩
  · rw [e] at hv
    rw [readB_nil hv] at hr
    exact hr
  · rw [e] at hg; cases hg
/-- The blocks of bytes, by their keys, each in a block of its own. -/
structure Sto (w : World) (b n : Nat) (D : DM) : Prop where
  own : OwnS w b n D
  row : ∀ k g, blk D k = some g → ∃ l : List (BitVec 8), l.length = 1024 ∧ Row w g (bcells l) 5
  inj : ∀ k k' g, blk D k = some g → blk D k' = some g → k = k'
/-- The byte at an offset. -/
def At (w : World) (D : DM) (x : Int) (c : BitVec 8) : Prop := ∃ g, blk D (x / 1024) = some g ∧ w.cell? ⟨g, (x % 1024).toNat, none⟩ = some (.int .u8 (ub c))
/-- Nothing but what S says is another one. -/
structure Fr (S : Nat → Prop) (w w' : World) : Prop where
  os : w'.os = w.os
  tape : w'.tape = w.tape
  output : w'.output = w.output
  size : w.heap.size ≤ w'.heap.size
  block : ∀ k, k < w.heap.size → ¬ S k → w'.heap[k]? = w.heap[k]?
section
variable {S T : Nat → Prop} {w w' w'' : World}
theorem Fr.refl (S : Nat → Prop) (w : World) : Fr S w w := ⟨rfl, rfl, rfl, Nat.le_refl _, fun _ _ _ => rfl⟩
theorem Fr.of_below {B : Nat} (h : Below B w w') (hB : w.heap.size ≤ B) : Fr S w w' := ⟨h.os, h.tape, h.output, h.size, fun k hk _ => h.block k (by omega)⟩
theorem Fr.trans (h : Fr S w w') (k : Fr T w' w'') (hT : ∀ x, T x → S x ∨ w.heap.size ≤ x) : Fr S w w'' :=
  ⟨k.os.trans h.os, k.tape.trans h.tape, k.output.trans h.output, Nat.le_trans h.size k.size, fun x hx hS => (k.block x (Nat.lt_of_lt_of_le hx h.size) (fun ht => by rcases hT x ht with e | e; exact hS e; omega)).trans (h.block x hx hS)⟩
theorem Fr.wider (h : Fr S w w') (hT : ∀ x, S x → T x) : Fr T w w' := ⟨h.os, h.tape, h.output, h.size, fun k hk hp => h.block k hk (fun hm => hp (hT k hm))⟩
theorem Fr.of_grown {r : Option Nat} (h : w.grownBy w' r) (hr : ∀ k, r = some k → S k ∨ w.heap.size ≤ k) : Fr S w w' :=
  ⟨h.os, h.tape, h.output, h.size, fun k hk hS => h.block k hk (fun e => by rcases hr k e.symm with e | e; exact hS e; omega)⟩
theorem Fr.cell (h : Fr S w w') {a : Addr} {v : Value} (hc : w.cell? a = some v) (hS : ¬ S a.block) : w'.cell? a = some v := by
  have hl := World.block_lt_of_cell? w a hc
  rw [← hc]
  unfold World.cell?
  rw [h.block a.block hl hS]
theorem Fr.row (h : Fr S w w') {g : Nat} {c : List Value} {t : TypeId} (hr : Row w g c t) (hS : ¬ S g) : Row w' g c t := ⟨(h.block g hr.lt hS).trans hr.at_⟩
theorem Fr.below {B : Nat} (h : Fr S w w') (hS : ∀ x, S x → B ≤ x) (hB : B ≤ w.heap.size) : Below B w w' :=
  ⟨h.os, h.tape, h.output, h.size, fun k hk => h.block k (by omega) (fun e => by have := hS k e; omega)⟩
theorem Fr.grown (h : Fr S w w') {g : Nat} (hS : ∀ x, S x → x = g ∨ w.heap.size ≤ x) : w.grownBy w' (some g) :=
  ⟨h.os, h.tape, h.output, h.size, fun k hk e => h.block k hk (fun hs => by rcases hS k hs with e' | e'; exact e (by rw [e']); omega)⟩
theorem Fr.drewN (h : Fr S w w') (q : Nat) : Fr S w (w'.drewN q) := ⟨h.os, h.tape, h.output, h.size, h.block⟩
end
/-- The map's block, and its blocks of bytes. -/
def SB (b : Nat) (D : DM) (k : Nat) : Prop := k = b ∨ ∃ x, blk D x = some k
theorem own_of_block {w w' : World} {b n : Nat} {D : DM} (h : OwnS w b n D) (e : w'.heap[b]? = w.heap[b]?) : OwnS w' b n D := by
  obtain ⟨es, clock, hb, F, hs, hD⟩ := h
  exact ⟨es, clock, e.trans hb, F, hs, hD⟩
theorem Sto.kept {w w' : World} {b n : Nat} {D : DM} (h : Sto w b n D) {S : Nat → Prop} (hf : Fr S w w') (hS : ∀ k, SB b D k → ¬ S k) : Sto w' b n D :=
  ⟨own_of_block h.own (hf.block b h.own.lt (hS b (.inl rfl))), fun k g hg => by
    obtain ⟨l, h1, h2⟩ := h.row k g hg
    exact ⟨l, h1, hf.row h2 (hS g (.inr ⟨k, hg⟩))⟩, h.inj⟩
theorem Sto.lt {w : World} {b n : Nat} {D : DM} (h : Sto w b n D) {k : Nat} (hk : SB b D k) : k < w.heap.size := by
  rcases hk with rfl | ⟨x, hx⟩
  · exact h.own.lt
  · obtain ⟨l, _, h2⟩ := h.row x k hx
    exact h2.lt
/-- Another block is none of the store's, if it holds cells of another type. -/
theorem Sto.not_of_cells {w : World} {b n : Nat} {D : DM} (h : Sto w b n D) {k : Nat} {c : Array Value} {t : TypeId} {q : Nat × Nat} (hk : w.heap[k]? = some (.cells c t q)) (ht : t ≠ 5) : ¬ SB b D k := by
  rintro (rfl | ⟨x, hx⟩)
  · obtain ⟨es, clock, hb, _⟩ := h.own
    rw [hb] at hk
    cases hk
  · obtain ⟨l, _, h2⟩ := h.row x k hx
    rw [h2.at_] at hk
    injection hk with hk
    injection hk with _ hk
    exact ht hk.symm
theorem Sto.kept_below {w w' : World} {b n : Nat} {D : DM} (h : Sto w b n D) (hb : Below w.heap.size w w') : Sto w' b n D :=
  h.kept (S := fun _ => False) (Fr.of_below hb (Nat.le_refl _)) (fun _ _ h => h)
theorem At.kept {w w' : World} {D : DM} {x : Int} {c : BitVec 8} (h : At w D x c) {S : Nat → Prop} (hf : Fr S w w') {b : Nat} (hS : ∀ k, SB b D k → ¬ S k) : At w' D x c := by
  obtain ⟨g, h1, h2⟩ := h
  exact ⟨g, h1, hf.cell h2 (hS g (.inr ⟨_, h1⟩))⟩
theorem At.kept_below {w w' : World} {D : DM} {x : Int} {c : BitVec 8} (h : At w D x c) (hb : Below w.heap.size w w') : At w' D x c :=
  h.kept (S := fun _ => False) (b := 0) (Fr.of_below hb (Nat.le_refl _)) (fun _ _ h => h)
end Go.Proofs.Ytimiokbnhneggaa
