import Derived.Test.YtjhkoanjocdboaaDoorKeyed1
namespace Go.Proofs.YtjhkoanjocdboaaDoor
open Go.RowKit
set_option maxRecDepth 100000

/-- A block under a mask, its first k bytes laid. -/
def pm (b : List (BitVec 8)) (m : BitVec 8) (k : Nat) : List (BitVec 8) := (List.range 64).map fun i => if i < k then b.getD i 0 ^^^ m else 0#8
theorem pm_len (b : List (BitVec 8)) (m : BitVec 8) (k : Nat) : (pm b m k).length = 64 := by simp [pm]
theorem pm_zero (b : List (BitVec 8)) (m : BitVec 8) : pm b m 0 = List.replicate 64 0#8 := by
  apply List.ext_getElem?
  intro i
  simp only [pm, List.getElem?_map, List.getElem?_replicate, Nat.not_lt_zero, if_false]
  by_cases h : i < 64
  · simp [h]
  · simp [h]
theorem pm_set (b : List (BitVec 8)) (m : BitVec 8) (k : Nat) (hk : k < 64) : (pm b m k).set k (b.getD k 0 ^^^ m) = pm b m (k + 1) := by
  apply List.ext_getElem?
  intro i
  rw [List.getElem?_set, pm_len]
  by_cases e : k = i
  · subst e
    simp [pm, hk]
  · rw [if_neg e]
    simp only [pm, List.getElem?_map]
    by_cases h : i < 64
    · have : (i < k) ↔ (i < k + 1) := by omega
      simp [h, this]
    · simp [h]
theorem pm_full (b : List (BitVec 8)) (m : BitVec 8) (hb : b.length = 64) : pm b m 64 = maskL b m := by
  apply List.ext_getElem?
  intro i
  simp only [pm, maskL, List.getElem?_map]
  by_cases h : i < 64
  · have : i < b.length := by omega
    simp [h, this]
  · have : b.length ≤ i := by omega
    simp [h, List.getElem?_eq_none this]

theorem cell_set_other {w : World} {g j : Nat} {v : Value} (a : Addr) (x : Value) (hne : g ≠ a.block) (h : w.cell? ⟨g, j, none⟩ = some v) : (w.setCell a x).cell? ⟨g, j, none⟩ = some v := by
  have : (w.setCell a x).heap[g]? = w.heap[g]? := Below.heap_setCell w a x g hne
  rw [← h]
  simp only [World.cell?, this]
/-- copy(k, key), k a block of 64 zeros. -/
theorem wpCopyKey {ops : Array Oper} {rest : List Oper} {o : Oper} {a : Act} {w : World} {Q : Exit → Act → World → Prop} (d s : Operand) (hgd : o.guard = none) (ho : o.op = .call { callee := .builtin .copy, args := #[d, s], argTypes := #[24, 24] }) {kb : Nat} (R : Row w kb (bcells z64) 5) (hd : a.eval d = .slice (some ⟨kb, 0, none⟩) 64 64)
    {ad : Option Addr} {c : Nat} {bs : List (BitVec 8)} (hs : a.eval s = .slice ad bs.length c) (hB : BytesAt w ad bs) (hl : bs.length ≤ 64)
    (h : ∀ w', Hid (Row w' kb (bcells (keyL bs)) 5) → Hid (Below kb w w') → wpList Tryd.prog ops Q rest (a.put o.dst (.int .i64 (bs.length : Int))) w') : wpList Tryd.prog ops Q (o :: rest) a w := by
  cases ad with
  | none =>
    cases bs with
    | cons b bs => obtain ⟨_, _, e, _⟩ := hB 0 (by simp); cases e
    | nil => exact wpList_copy_nothing hgd d s 24 24 ho 5 Tryd.underlying24 (by kernel_rfl) _ _ _ _ _ _ hd hs rfl (h w R (Below.refl _ _))
  | some ad =>
    refine wpList_copyB d s hgd ho R 0 64 64 hd ad bs.length c hs (bcells bs) (by rw [bcells_len]; exact (Nat.min_eq_left hl).symm) ?_ (by rw [bcells_len, bcells_len]; show 0 + bs.length ≤ 64; omega) (bcells_one _) bs.length (bcells_len _) ?_
    · intro j v hv
      have hj : j < bs.length := by
        have := (List.getElem?_eq_some_iff.1 hv).1
        rwa [bcells_len] at this
      obtain ⟨g2, o2, e2, c2⟩ := hB j hj
      cases e2
      rw [bcells_get hj] at hv
      rw [Addr.add_mid, c2]
      exact hv
    · intro w' HC
      have e := HC.out
      rw [laid_front bs, ← keyL_short hl] at e
      exact h w' (by show Row _ _ _ _; rw [e]; exact R.row _) (by show Below _ _ _; rw [e]; exact Go.below_setRow (Below.refl _ _) (Nat.le_refl _) _)
def PtC (v : Value) (X : List (BitVec 8)) (w : World) : Prop := ∃ g, v = .slice (some ⟨g, 0, none⟩) 1 1 ∧ PartsC w (some ⟨g, 0, none⟩) [X]
def PtD (v : Value) (X Y : List (BitVec 8)) (w : World) : Prop := ∃ g, v = .slice (some ⟨g, 0, none⟩) 2 2 ∧ PartsC w (some ⟨g, 0, none⟩) [X, Y]
theorem PartsC.kept' {w w' : World} {a : Option Addr} {ps : List (List (BitVec 8))} (h : PartsC w a ps) (hb : Below w.heap.size w w') : PartsC w' a ps :=
  fun k hk => by obtain ⟨g, o, ad, cap, e, c, b, l, m⟩ := h k hk; exact ⟨g, o, ad, cap, e, cell_kept hb c, b.kept hb, l, m⟩
def KSpec (KV TV OV SV : Value) (M : Value) (t O S : List (BitVec 8)) : Nat → Value → World → Prop
  | 0, v, _ => v = .bool true
  | 1, v, _ => v = .bool true
  | 2, v, _ => v = KV
  | 3, v, _ => v = TV
  | 4, v, w => PtC v t w
  | 5, v, _ => v = M
  | 6, v, _ => v = OV
  | 7, v, _ => v = SV
  | 8, v, w => PtD v O S w
  | 9, v, _ => v = M
  | 10, v, _ => v = .bool true
  | 11, v, _ => v = .bool true
  | 12, v, _ => v = .bool true
  | _, _, _ => True
theorem KSpec_mono {KV TV OV SV M : Value} {t O S : List (BitVec 8)} {w w' : World} (hb : Below w.heap.size w w') (j : Nat) (v : Value) (h : KSpec KV TV OV SV M t O S j v w) : KSpec KV TV OV SV M t O S j v w' := by
  by_cases h13 : j < 13
  · rcases (show j = 0 ∨ j = 1 ∨ j = 2 ∨ j = 3 ∨ j = 4 ∨ j = 5 ∨ j = 6 ∨ j = 7 ∨ j = 8 ∨ j = 9 ∨ j = 10 ∨ j = 11 ∨ j = 12 by omega) with rfl | rfl | rfl | rfl | rfl | rfl | rfl | rfl | rfl | rfl | rfl | rfl | rfl
    all_goals first
      | exact h
      | (obtain ⟨g, e, p⟩ := h; exact ⟨g, e, PartsC.kept' p hb⟩)
  · obtain ⟨k, rfl⟩ : ∃ k, j = k + 13 := ⟨j - 13, by omega⟩
    exact trivial
section
variable {ops : Array Oper} {o : Oper} {a : Act} {w : World} {K : Act → World → Prop} {Q : Exit → Act → World → Prop}
theorem step_slice44 {x : Operand} {g : Nat} (ho : o.op = .slice 44 x none none none) (hx : a.eval x = .pointer (some ⟨g, 0, none⟩)) (h : K (a.put o.dst (.slice (some ⟨g, 0, none⟩) 32 32)) w) : Oper.wp Tryd.prog o a w K Q :=
  step_value (w' := w) (by generalize a.eval = r at *; simp [execOp, ho, hx, go_sem]) h
theorem step_build22two {x y : Operand} {ad ae : Option Addr} {len cap len' cap' : Nat} (ho : o.op = .buildSlice 22 2 #[(0, x), (1, y)]) (hx : a.eval x = .slice ad len cap) (hy : a.eval y = .slice ae len' cap') (h : K (a.put o.dst (.slice (some ⟨w.heap.size, 0, none⟩) 2 2)) (w.alloc (.cells #[.slice ad len cap, .slice ae len' cap'] 24))) : Oper.wp Tryd.prog o a w K Q :=
  step_value (w' := w.alloc (.cells #[.slice ad len cap, .slice ae len' cap'] 24)) (by generalize a.eval = r at *; simp [execOp, ho, hx, hy, go_sem]) h
theorem step_call22 {x y : Operand} {vx vy v : Value} {G : World → Prop} (ho : o.op = .call { callee := .value (.func 22), args := #[x, y], argTypes := #[24, 22] }) (hx : a.eval x = vx) (hy : a.eval y = vy)
    (hc : Calls Tryd.prog 22 #[vx, vy] w fun e w' => e = .returned v ∧ G w') (h : ∀ w', G w' → K (a.put o.dst v) w') : Oper.wp Tryd.prog o a w K Q :=
  step_callf (by subst hx hy; simp [execOp, ho, resolve, invoke, go_sem]) hc h
theorem step_call21 {x : Operand} {vx v : Value} {G : World → Prop} (ho : o.op = .call { callee := .value (.func 21), args := #[x], argTypes := #[22] }) (hx : a.eval x = vx)
    (hc : Calls Tryd.prog 21 #[vx] w fun e w' => e = .returned v ∧ G w') (h : ∀ w', G w' → K (a.put o.dst v) w') : Oper.wp Tryd.prog o a w K Q :=
  step_callf (by subst hx; simp [execOp, ho, resolve, invoke, go_sem]) hc h
theorem step_eql44 {x y : Operand} {E : List (BitVec 8)} (hE : E.length = 32) (ho : o.op = .binOp .eql 44 x y 44) (hx : a.eval x = .agg (bcells E).toArray) (hy : a.eval y = .agg (bcells E).toArray) (h : K (a.put o.dst (.bool true)) w) : Oper.wp Tryd.prog o a w K Q :=
  step_value (w' := w) (by have heq := same44 hE; generalize a.eval = r at *; simp [execOp, ho, hx, hy, heq, go_sem]) h
end
end Go.Proofs.YtjhkoanjocdboaaDoor
