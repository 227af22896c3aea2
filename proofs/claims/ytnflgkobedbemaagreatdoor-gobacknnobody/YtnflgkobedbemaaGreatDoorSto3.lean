import Derived.Test.YtnflgkobedbemaaGreatDoorBy0
import Derived.Maps.Own
import Derived.Maps.OwnOps
import Derived.Maps.OwnSet
import Derived.Maps.Views
namespace Go.Proofs.YtnflgkobedbemaaGreatDoor
open Go.RowKit Go.Maps
set_option maxRecDepth 100000

abbrev DM := DataW Nat
abbrev kw (n : Int) : Lit := .int .u64 n
/-- A block of bytes as the map's value: where it lies. -/
def readB (v : Value) : Option (DM × List MemPlace) :=
  match v with
  | .slice none 0 0 => some (.nil, [])
  | .slice (some ⟨g, 0, none⟩) 1024 1024 => some (.held g, [])
  | _ => none
abbrev OwnS (w : World) (b n : Nat) (D : DM) : Prop := w.ownsMap Tryz.prog 23 readB b n D
/-- Which block holds the bytes of a key. -/
def blk (D : DM) (k : Int) : Option Nat := match D.atKey (kw k) .nil with | .held g => some g | _ => none
theorem blk_empty (k : Int) : blk (.map []) k = none := by unfold blk; rfl
/-- The blocks of bytes, by their keys, each in a block of its own. -/
structure Sto (w : World) (b n : Nat) (D : DM) : Prop where
  own : OwnS w b n D
  row : ∀ k g, blk D k = some g → ∃ l : List (BitVec 8), l.length = 1024 ∧ Row w g (bcells l) 5
  inj : ∀ k k' g, blk D k = some g → blk D k' = some g → k = k'
/-- The byte at an offset. -/
def At (w : World) (D : DM) (x : Int) (c : BitVec 8) : Prop := ∃ g, blk D (x / 1024) = some g ∧ w.cell? ⟨g, (x % 1024).toNat, none⟩ = some (.int .u8 (ub c))
/-- Nothing but what S says is another one. -/
structure Fr (S : Nat → Prop) (w w' : World) : Prop where
  os : w'.os = w.os
  tape : w'.tape = w.tape
  output : w'.output = w.output
  size : w.heap.size ≤ w'.heap.size
  block : ∀ k, k < w.heap.size → ¬ S k → w'.heap[k]? = w.heap[k]?
section
variable {S T : Nat → Prop} {w w' w'' : World}
theorem Fr.refl (S : Nat → Prop) (w : World) : Fr S w w := ⟨rfl, rfl, rfl, Nat.le_refl _, fun _ _ _ => rfl⟩
theorem Fr.of_below {B : Nat} (h : Below B w w') (hB : w.heap.size ≤ B) : Fr S w w' := ⟨h.os, h.tape, h.output, h.size, fun k hk _ => h.block k (by omega)⟩
theorem Fr.trans (h : Fr S w w') (k : Fr T w' w'') (hT : ∀ x, T x → S x ∨ w.heap.size ≤ x) : Fr S w w'' :=
  ⟨k.os.trans h.os, k.tape.trans h.tape, k.output.trans h.output, Nat.le_trans h.size k.size, fun x hx hS => (k.block x (Nat.lt_of_lt_of_le hx h.size) (fun ht => by rcases hT x ht with e | e; exact hS e; omega)).trans (h.block x hx hS)⟩
theorem Fr.of_grown {r : Option Nat} (h : w.grownBy w' r) (hr : ∀ k, r = some k → S k ∨ w.heap.size ≤ k) : Fr S w w' :=
  ⟨h.os, h.tape, h.output, h.size, fun k hk hS => h.block k hk (fun e => by rcases hr k e.symm with e | e; exact hS e; omega)⟩
theorem Fr.cell (h : Fr S w w') {a : Addr} {v : Value} (hc : w.cell? a = some v) (hS : ¬ S a.block) : w'.cell? a = some v := by
  have hl := World.block_lt_of_cell? w a hc
  rw [← hc]
  unfold World.cell?
  rw [h.block a.block hl hS]
theorem Fr.row (h : Fr S w w') {g : Nat} {c : List Value} {t : TypeId} (hr : Row w g c t) (hS : ¬ S g) : Row w' g c t := ⟨(h.block g hr.lt hS).trans hr.at_⟩
theorem Fr.below {B : Nat} (h : Fr S w w') (hS : ∀ x, S x → B ≤ x) (hB : B ≤ w.heap.size) : Below B w w' :=
  ⟨h.os, h.tape, h.output, h.size, fun k hk => h.block k (by omega) (fun e => by have := hS k e; omega)⟩
theorem Fr.drewN (h : Fr S w w') (q : Nat) : Fr S w (w'.drewN q) := ⟨h.os, h.tape, h.output, h.size, h.block⟩
end
/-- The map's block, and its blocks of bytes. -/
def SB (b : Nat) (D : DM) (k : Nat) : Prop := k = b ∨ ∃ x, blk D x = some k
theorem own_of_block {w w' : World} {b n : Nat} {D : DM} (h : OwnS w b n D) (e : w'.heap[b]? = w.heap[b]?) : OwnS w' b n D := by
  obtain ⟨es, clock, hb, F, hs, hD⟩ := h
  exact ⟨es, clock, e.trans hb, F, hs, hD⟩
theorem Sto.kept {w w' : World} {b n : Nat} {D : DM} (h : Sto w b n D) {S : Nat → Prop} (hf : Fr S w w') (hS : ∀ k, SB b D k → ¬ S k) : Sto w' b n D :=
  ⟨own_of_block h.own (hf.block b h.own.lt (hS b (.inl rfl))), fun k g hg => by
    obtain ⟨l, h1, h2⟩ := h.row k g hg
    exact ⟨l, h1, hf.row h2 (hS g (.inr ⟨k, hg⟩))⟩, h.inj⟩
theorem Sto.lt {w : World} {b n : Nat} {D : DM} (h : Sto w b n D) {k : Nat} (hk : SB b D k) : k < w.heap.size := by
  rcases hk with rfl | ⟨x, hx⟩
  · exact h.own.lt
  · obtain ⟨l, _, h2⟩ := h.row x k hx
    exact h2.lt
/-- Another block is none of the store's, if it holds cells of another type. -/
theorem Sto.not_of_cells {w : World} {b n : Nat} {D : DM} (h : Sto w b n D) {k : Nat} {c : Array Value} {t : TypeId} {q : Nat × Nat} (hk : w.heap[k]? = some (.cells c t q)) (ht : t ≠ 5) : ¬ SB b D k := by
  rintro (rfl | ⟨x, hx⟩)
  · obtain ⟨es, clock, hb, _⟩ := h.own
    rw [hb] at hk
    cases hk
  · obtain ⟨l, _, h2⟩ := h.row x k hx
    rw [h2.at_] at hk
    injection hk with hk
    injection hk with _ hk
    exact ht hk.symm
theorem At.kept {w w' : World} {D : DM} {x : Int} {c : BitVec 8} (h : At w D x c) {S : Nat → Prop} (hf : Fr S w w') {b : Nat} (hS : ∀ k, SB b D k → ¬ S k) : At w' D x c := by
  obtain ⟨g, h1, h2⟩ := h
  exact ⟨g, h1, hf.cell h2 (hS g (.inr ⟨_, h1⟩))⟩
end Go.Proofs.YtnflgkobedbemaaGreatDoor

namespace Go.Proofs.YtnflgkobedbemaaGreatDoor
open Go.RowKit Go.Maps
set_option maxRecDepth 100000

/-- Bytes are laid into a block. -/
theorem sto_laid {w w2 : World} {b n : Nat} {D : DM} (h : Sto w b n D) {x : Int} {g : Nat} (hg : blk D (x / 1024) = some g) {l d : List (BitVec 8)} (hl : l.length = 1024) (k : Nat)
    (hk : (k : Int) ≤ 1024 - x % 1024) (hd : k ≤ d.length) (hrow : Row w g (bcells l) 5)
    (hr : Row w2 g ((bcells l).take (x % 1024).toNat ++ bcells (d.take k) ++ (bcells l).drop ((x % 1024).toNat + k)) 5) (hf : w.grownBy w2 (some g)) :
    Sto w2 b n D ∧ Fr (SB b D) w w2 ∧ (∀ y c, At w D y c → y < x ∨ x + k ≤ y → At w2 D y c) ∧ (∀ i (hi : i < k), At w2 D (x + i) (d[i]'(by omega))) := by
  obtain ⟨m, hm⟩ : ∃ m : Nat, (m : Int) = x % 1024 := ⟨(x % 1024).toNat, by omega⟩
  have hmt : (x % 1024).toNat = m := by omega
  rw [hmt] at hr
  have hnb : g ≠ b := fun e => by
    obtain ⟨es, clock, hb, _⟩ := h.own
    rw [← e, hrow.at_] at hb
    cases hb
  have e1 : (bcells l).take m ++ bcells (d.take k) ++ (bcells l).drop (m + k) = bcells (l.take m ++ d.take k ++ l.drop (m + k)) := by simp [bcells]
  rw [e1] at hr
  have hlen : (l.take m ++ d.take k ++ l.drop (m + k)).length = 1024 := by simp; omega
  refine ⟨⟨own_of_block h.own (hf.block b h.own.lt (by simp; exact fun e => hnb e.symm)), fun k' g' hk' => ?_, h.inj⟩, Fr.of_grown hf (fun j e => .inl (.inr ⟨x / 1024, by rw [hg]; exact e⟩)), fun y c hy hyx => ?_, fun i hi => ?_⟩
  · by_cases e : g' = g
    · subst e; exact ⟨_, hlen, hr⟩
    · obtain ⟨l', h1, h2⟩ := h.row k' g' hk'
      exact ⟨l', h1, h2.of_block (hf.block g' h2.lt (by simp; exact e))⟩
  · obtain ⟨g', h1, h2⟩ := hy
    refine ⟨g', h1, ?_⟩
    by_cases e : g' = g
    · subst e
      have hq := h.inj _ _ _ h1 hg
      obtain ⟨j, hj⟩ : ∃ j : Nat, (j : Int) = y % 1024 := ⟨(y % 1024).toNat, by omega⟩
      have hjt : (y % 1024).toNat = j := by omega
      rw [hjt] at h2 ⊢
      have hj' : j < m ∨ m + k ≤ j := by omega
      have hj1 : j < 1024 := by omega
      have hc : w.cell? ⟨g', j, none⟩ = some (.int .u8 (ub (l[j]'(by omega)))) := hrow.cell j _ (bcells_get (by omega))
      rw [h2] at hc
      rw [hc]
      refine hr.cell j _ ?_
      rw [bcells_get (by omega)]
      congr 3
      rcases hj' with hj' | hj'
      · rw [List.getElem_append_left (by simp; omega), List.getElem_append_left (by simp; omega), List.getElem_take]
      · rw [List.getElem_append_right (by simp; omega), List.getElem_drop]
        congr 1
        simp
        omega
    · have hlt := World.block_lt_of_cell? w _ h2
      rw [World.cell?_of_block (w := w) (hf.block g' hlt (by simp; exact e))]
      exact h2
  · refine ⟨g, by rw [show (x + i) / 1024 = x / 1024 by omega]; exact hg, ?_⟩
    rw [show ((x + i) % 1024).toNat = m + i by omega]
    refine hr.cell _ _ ?_
    rw [bcells_get (by omega)]
    congr 3
    rw [List.getElem_append_left (by simp; omega), List.getElem_append_right (by simp; omega), List.getElem_take]
    congr 1
    simp
    omega
end Go.Proofs.YtnflgkobedbemaaGreatDoor

namespace Go.Proofs.YtnflgkobedbemaaGreatDoor
open Go.RowKit Go.Maps
set_option maxRecDepth 100000

/-- What stands when j of the bytes are laid down. -/
structure PutAt (w wr : World) (b n : Nat) (D D' : DM) (x : Int) (d : List (BitVec 8)) (j n' : Nat) : Prop where
  sto : Sto wr b n' D'
  few : n' ≤ n + j
  fr : Fr (SB b D) w wr
  sub : ∀ k, SB b D' k → SB b D k ∨ w.heap.size ≤ k
  old : ∀ y c, At w D y c → y < x ∨ x + j ≤ y → At wr D' y c
  new : ∀ i, i < j → ∀ (hd : i < d.length), At wr D' (x + i) d[i]
theorem PutAt.start {w : World} {b n : Nat} {D : DM} (h : Sto w b n D) (x : Int) (d : List (BitVec 8)) : PutAt w w b n D D x d 0 n :=
  ⟨h, Nat.le_refl _, Fr.refl _ _, fun _ h => .inl h, fun _ _ h _ => h, fun i hi => absurd hi (by omega)⟩
/-- Behind the copy of k bytes. -/
theorem PutAt.laid {w w1 w2 : World} {b n : Nat} {D D' : DM} {x : Int} {d : List (BitVec 8)} {j n' : Nat} (s : Sto w1 b n' D') (hn : n' ≤ n + j + 1) (fr : Fr (SB b D) w w1) (sub : ∀ k, SB b D' k → SB b D k ∨ w.heap.size ≤ k)
    (old : ∀ y c, At w D y c → y < x ∨ x + j ≤ y → At w1 D' y c) (new : ∀ i, i < j → ∀ (hd : i < d.length), At w1 D' (x + i) d[i])
    {g : Nat} (hg : blk D' ((x + j) / 1024) = some g) {l : List (BitVec 8)} (hl : l.length = 1024) (k : Nat) (h1 : 1 ≤ k) (hk : (k : Int) ≤ 1024 - (x + j) % 1024) (hd : j + k ≤ d.length) (hrow : Row w1 g (bcells l) 5)
    (hr : w2 = w1.setRow g ((bcells l).take ((x + j) % 1024).toNat ++ bcells ((d.drop j).take k) ++ (bcells l).drop (((x + j) % 1024).toNat + k)).toArray) : PutAt w w2 b n D D' x d (j + k) n' := by
  have hf : w1.grownBy w2 (some g) := by rw [hr]; exact ⟨rfl, rfl, rfl, by rw [setRow_size]; exact Nat.le_refl _, fun k' _ hk' => setRow_other w1 g k' _ (fun e => hk' (by rw [e]))⟩
  obtain ⟨t1, t2, t3, t4⟩ := sto_laid s hg hl (d := d.drop j) k hk (by simp; omega) hrow (by rw [hr]; exact hrow.row _) hf
  refine ⟨t1, by omega, fr.trans t2 sub, sub, fun y c hy hx => t3 y c (old y c hy (by omega)) (by omega), fun i hi hdl => ?_⟩
  by_cases e : i < j
  · exact t3 _ _ (new i e hdl) (.inl (by omega))
  · have := t4 (i - j) (by omega)
    rw [List.getElem_drop] at this
    have e1 : x + ↑j + ↑(i - j) = x + (i : Int) := by omega
    have e2 : d[j + (i - j)]'(by omega) = d[i] := by congr 1; omega
    rw [e1, e2] at this
    exact this
end Go.Proofs.YtnflgkobedbemaaGreatDoor

namespace Go.Proofs.YtnflgkobedbemaaGreatDoor
open Go.RowKit Go.Maps
set_option maxRecDepth 100000

/-- What stands when the keys from q0 up to q are gone. -/
structure LessAt (w wr : World) (b n : Nat) (D D' : DM) (q0 q : Int) : Prop where
  sto : Sto wr b n D'
  fr : Fr (fun k => k = b) w wr
  bl : ∀ k, blk D' k = if q0 ≤ k ∧ k < q then none else blk D k
theorem Sto.not_b {w : World} {b n : Nat} {D : DM} (h : Sto w b n D) {k : Int} {g : Nat} (hk : blk D k = some g) : g ≠ b := fun e => by
  obtain ⟨l, _, hr⟩ := h.row k g hk
  obtain ⟨es, clock, hb, _⟩ := h.own
  subst e
  rw [hr.at_] at hb
  cases hb
theorem LessAt.at_ {w wr : World} {b n : Nat} {D D' : DM} {q0 q : Int} (h : LessAt w wr b n D D' q0 q) (hs : Sto w b n D) {y : Int} {c : BitVec 8} (hy : At w D y c) (hq : ¬ (q0 ≤ y / 1024 ∧ y / 1024 < q)) : At wr D' y c := by
  obtain ⟨g, h1, h2⟩ := hy
  exact ⟨g, by rw [h.bl, if_neg hq]; exact h1, h.fr.cell h2 (hs.not_b h1)⟩
end Go.Proofs.YtnflgkobedbemaaGreatDoor
