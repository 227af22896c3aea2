import Derived.Test.YtnohammflhadpaaSb11
import Derived.Deep.AppendSrc
import Derived.Deep.DeepAppendWide
namespace Go.Proofs.Ytnohammflhadpaa
open Go.RowKit Go.Maps Go.Sort
set_option maxRecDepth 100000

/-- A row behind a run of stores. -/
theorem row_setCells (g : Nat) (t : TypeId) : ∀ (vs : List Value) (o : Nat) (w : World) (arr : Array Value), w.heap[g]? = some (.cells arr t (0, 0)) → o + vs.length ≤ arr.size →
    ∃ arr', (w.setCells g o vs).heap[g]? = some (.cells arr' t (0, 0)) ∧ arr'.size = arr.size ∧ (∀ j v, vs[j]? = some v → arr'[o + j]? = some v) ∧ (∀ i, i < o ∨ o + vs.length ≤ i → arr'[i]? = arr[i]?) ∧ Fr (fun x => x = g) w (w.setCells g o vs)
  | [], o, w, arr, hg, _ => ⟨arr, hg, rfl, fun j v h => by simp at h, fun i _ => rfl, Fr.refl _ _⟩
  | v :: vs, o, w, arr, hg, hs => by
    have hg1 : (w.setCell ⟨g, o, none⟩ v).heap[g]? = some (.cells (arr.setIfInBounds o v) t (0, 0)) := by
      rw [setCell_eq_setRow w g _ arr t (0, 0) v hg, setRow_heap w g _ _ t (0, 0) hg]
    have hfr : Fr (fun x => x = g) w (w.setCell ⟨g, o, none⟩ v) := ⟨rfl, rfl, rfl, by simp [World.setCell], fun x hx hn => Below.heap_setCell w _ v x hn⟩
    simp only [List.length_cons] at hs
    obtain ⟨arr', h1, h2, h3, h4, h5⟩ := row_setCells g t vs (o + 1) (w.setCell ⟨g, o, none⟩ v) (arr.setIfInBounds o v) hg1 (by simp; omega)
    refine ⟨arr', h1, by rw [h2]; simp, fun j u hu => ?_, fun i hi => ?_, hfr.trans h5 (fun x hx => .inl hx)⟩
    · cases j with
      | zero =>
        simp at hu
        subst hu
        rw [Nat.add_zero, h4 o (.inl (by omega)), Array.getElem?_setIfInBounds_self_of_lt (by omega)]
      | succ j =>
        have := h3 j u (by simpa using hu)
        rw [show o + (j + 1) = o + 1 + j by omega]
        exact this
    · simp only [List.length_cons] at hi
      rw [h4 i (by omega), Array.getElem?_setIfInBounds_ne (by omega)]
theorem cells_one (c : Ck) : ∀ u ∈ c.cells, u.oneCell' = true := by
  intro u hu
  simp [Ck.cells] at hu
  rcases hu with rfl | rfl | rfl | rfl | rfl | rfl <;> rfl
theorem info78 : ∃ i : TypeInfo, Try.prog.info? 78 = some i ∧ i.zero = some (.agg #[.int .u64 0, .slice none 0 0, .bool false, .int .u8 0, .bool false, .bool false]) ∧ i.size = 6 ∧ i.bytes = 40 := by
  have h : (Try.prog.info? 78).map (fun i => (i.zero, i.size, i.bytes)) = some (some (.agg #[.int .u64 0, .slice none 0 0, .bool false, .int .u8 0, .bool false, .bool false]), 6, 40) := by kernel_rfl
  cases hq : Try.prog.info? 78 with
  | none => rw [hq] at h; cases h
  | some i => rw [hq] at h; simp at h; exact ⟨i, rfl, h.1, h.2.1, h.2.2⟩
theorem flat_at : ∀ (L : List Ck) (j : Nat) (u : Value), (L.flatMap Ck.cells)[j]? = some u → ∃ (k : Nat) (h : k < L.length) (r : Nat), j = k * 6 + r ∧ r < 6 ∧ L[k].cells[r]? = some u
  | [], j, u, h => by simp at h
  | c :: L, j, u, h => by
    rw [List.flatMap_cons] at h
    by_cases hj : j < 6
    · rw [List.getElem?_append_left (by exact hj)] at h
      exact ⟨0, by simp, j, by omega, hj, h⟩
    · rw [List.getElem?_append_right (by show 6 ≤ j; omega)] at h
      obtain ⟨k, hk, r, e, hr, hc⟩ := flat_at L (j - 6) u h
      exact ⟨k + 1, by simpa using hk, r, by omega, hr, hc⟩
theorem at_flat : ∀ (L : List Ck) (k : Nat) (h : k < L.length) (r : Nat) (u : Value), L[k].cells[r]? = some u → (L.flatMap Ck.cells)[k * 6 + r]? = some u
  | c :: L, 0, h, r, u, hu => by
    have hr : r < 6 := (List.getElem?_eq_some_iff.1 hu).1
    rw [List.flatMap_cons, List.getElem?_append_left (by show 0 * 6 + r < 6; omega), Nat.zero_mul, Nat.zero_add]
    exact hu
  | c :: L, k + 1, h, r, u, hu => by
    rw [List.flatMap_cons, List.getElem?_append_right (by show 6 ≤ (k + 1) * 6 + r; omega)]
    have := at_flat L k (by simpa using h) r u hu
    rw [show (k + 1) * 6 + r - c.cells.length = k * 6 + r by show (k + 1) * 6 + r - 6 = _; omega]
    exact this
theorem flat_len (L : List Ck) : (L.flatMap Ck.cells).length = L.length * 6 := by
  induction L with
  | nil => rfl
  | cons c L ih => rw [List.flatMap_cons, List.length_append, ih]; show 6 + _ = _; simp; omega
/-- The chunks' row. -/
def CkOwn (w : World) (a : Option Addr) (cap : Nat) : Prop := cap = 0 ∨ ∃ g o arr, a = some ⟨g, o, none⟩ ∧ w.heap[g]? = some (.cells arr 78 (0, 0)) ∧ o + cap * 6 = arr.size
/-- 'append' of one chunk. -/
theorem run_app {w : World} {a : Option Addr} {cap N : Nat} {L : List Ck} (hL : L.length = N) (hA : CksAt w a L) (hO : CkOwn w a cap) (hlc : N ≤ cap) (hN : N ≤ 65536) (hcm : cap ≤ maxLen) (hz : a = none → N = 0 ∧ cap = 0) (c : Ck) {bx : Nat} (hbx : Row w bx c.cells 78) (ty : TypeId) :
    ∃ a' cap' w', (Builtin.append_ #[72, 72] ty #[.slice a N cap, .slice (some ⟨bx, 0, none⟩) 1 1]).run Try.prog w = .ok (.slice a' (N + 1) cap') w' ∧ CksAt w' a' (L ++ [c]) ∧ CkOwn w' a' cap' ∧ N + 1 ≤ cap' ∧ cap' ≤ maxLen ∧
      ((a' = a ∧ cap' = cap ∧ ∃ g o, a = some ⟨g, o, none⟩ ∧ Fr (fun x => x = g) w w') ∨ (a' = some ⟨w.heap.size, 0, none⟩ ∧ Below w.heap.size w w')) := by
  obtain ⟨i0, hi, hz0, hz1, hz2⟩ := info78
  have hS : Src Try.prog i0.size 72 (.slice (some ⟨bx, 0, none⟩) 1 1) 1 c.cells w := by
    rw [hz1]
    exact Src.ofSlice w Try.underlying72 ⟨bx, 0, none⟩ 1 1 c.cells rfl (fun j u hu => by rw [Addr.add_lit, Nat.zero_add]; exact hbx.cell j u hu) (cells_one c)
  by_cases hr : N + 1 ≤ cap
  · rcases hO with e | ⟨g, o, arr, e, hg, hs⟩
    · omega
    · subst e
      obtain ⟨arr', r1, r2, r3, r4, r5⟩ := row_setCells g 78 c.cells (o + N * 6) w arr hg (by simp [Ck.cells]; omega)
      have hrun := run_append_room_src (P := Try.prog) w 72 72 ty 78 i0 Try.underlying72 hi g o N cap _ 1 c.cells hS hr (fun j hj => by
          have hj' : j < 6 := hj
          rw [hz1, cell_of_row w g _ _ 78 (0, 0) hg]
          simp
          omega) (fun j hj => frozen_row hg _)
      rw [hz1] at hrun
      refine ⟨_, _, _, hrun, fun k hk => ⟨g, o, rfl, fun j v hv => ?_⟩, .inr ⟨g, o, arr', rfl, r1, by omega⟩, hr, hcm, .inl ⟨rfl, rfl, g, o, rfl, r5⟩⟩
      rw [cell_of_row _ g _ _ 78 (0, 0) r1]
      have hj : j < 6 := by have := (List.getElem?_eq_some_iff.1 hv).1; simpa [Ck.cells] using this
      by_cases hk2 : k < N
      · rw [List.getElem_append_left (by omega)] at hv
        obtain ⟨g', o', e', q⟩ := hA k (by omega)
        cases e'
        have := q j v hv
        rw [cell_of_row w g _ _ 78 (0, 0) hg] at this
        rw [r4 _ (.inl (by omega))]
        exact this
      · have hkN : k = N := by simp at hk; omega
        subst hkN
        have e1 : (L ++ [c])[k] = c := by rw [List.getElem_append_right (by omega)]; simp
        rw [e1] at hv
        exact r3 j v hv
  · have hcN : cap = N := by omega
    have hold : (Builtin.firstCells i0.size N (.slice a N cap)).run Try.prog w.drew = .ok (L.flatMap Ck.cells).toArray w.drew := by
      rw [hz1]
      cases a with
      | none =>
        have hl0 : L = [] := List.eq_nil_of_length_eq_zero (by have := (hz rfl).1; omega)
        subst hl0
        exact run_firstCells_none w.drew 6 N N cap
      | some ad =>
        refine run_firstCells_some w.drew 6 N ad N cap _ (by rw [flat_len, hL]) (fun j u hj => ?_)
        obtain ⟨k, hk, r, rfl, hr6, hc⟩ := flat_at L j u hj
        obtain ⟨g, o, e, q⟩ := hA k hk
        cases e
        rw [Addr.add_lit, ← Nat.add_assoc]
        exact q r u hc
    have hrun := run_append_grow_src (P := Try.prog) w 72 72 ty 78 i0 _ Try.underlying72 hi hz0 a N cap (L.flatMap Ck.cells) hold _ 1 c.cells hS (by omega) (by omega) (by
      rw [hz2]
      exact growslice_fits_wide (by omega) (by omega))
    obtain ⟨cp, hcp⟩ : ∃ cp, grownCap w (N + 1) cap 78 = cp := ⟨_, rfl⟩
    have h1 := grownCap_ge w (N + 1) cap 78
    have h2 := grownCap_le_maxLen w (N + 1) cap 78 (by unfold maxLen; omega)
    rw [hcp] at hrun h1 h2
    have hfl : L.flatMap Ck.cells ++ c.cells = (L ++ [c]).flatMap Ck.cells := by simp
    rw [hfl] at hrun
    have hgg : (w.drew.alloc (.cells (((L ++ [c]).flatMap Ck.cells).toArray ++ Builtin.zeroCells (Value.agg #[.int .u64 0, .slice none 0 0, .bool false, .int .u8 0, .bool false, .bool false]).cells (cp - (N + 1))) 78)).heap[w.heap.size]? = some (.cells (((L ++ [c]).flatMap Ck.cells).toArray ++ Builtin.zeroCells (Value.agg #[.int .u64 0, .slice none 0 0, .bool false, .int .u8 0, .bool false, .bool false]).cells (cp - (N + 1))) 78 (0, 0)) := heap_alloc_last w.drew _
    refine ⟨_, _, _, hrun, fun k hk => ⟨_, _, rfl, fun j v hv => ?_⟩, .inr ⟨_, _, _, rfl, hgg, ?_⟩, h1, h2, .inr ⟨rfl, ?_⟩⟩
    · rw [cell_of_row _ _ _ _ 78 (0, 0) hgg, Nat.zero_add]
      have h3 := at_flat (L ++ [c]) k hk j v hv
      have h4 := (List.getElem?_eq_some_iff.1 h3).1
      rw [Array.getElem?_append_left (by simpa using h4)]
      simpa using h3
    · rw [Array.size_append, size_zeroCells]
      have h5 := flat_len (L ++ [c])
      rw [List.length_append, hL] at h5
      have h6 : (Value.agg #[.int .u64 0, .slice none 0 0, .bool false, .int .u8 0, .bool false, .bool false]).cells.size = 6 := rfl
      rw [h6, List.size_toArray, h5]
      show 0 + cp * 6 = (N + 1) * 6 + (cp - (N + 1)) * 6
      omega
    · have hbd : Below w.heap.size w w.drew := ⟨rfl, rfl, rfl, Nat.le_refl _, fun _ _ => rfl⟩
      exact hbd.alloc (Nat.le_refl _) _
theorem wpApp {w : World} {ops : Array Oper} {rest : List Oper} {o : Oper} {act : Act} {Q : Exit → Act → World → Prop} (hgd : o.guard = none) (d x : Operand) (ho : o.op = .call { callee := .builtin .append, args := #[d, x], argTypes := #[72, 72] })
    {a : Option Addr} {cap N : Nat} (hd : act.eval d = .slice a N cap) {L : List Ck} (hL : L.length = N) (hA : CksAt w a L) (hO : CkOwn w a cap) (hlc : N ≤ cap) (hN : N ≤ 65536) (hcm : cap ≤ maxLen) (hz : a = none → N = 0 ∧ cap = 0) (c : Ck) {bx : Nat} (hx : act.eval x = .slice (some ⟨bx, 0, none⟩) 1 1) (hbx : Row w bx c.cells 78)
    (h : ∀ a' cap' w', CksAt w' a' (L ++ [c]) → CkOwn w' a' cap' → N + 1 ≤ cap' → cap' ≤ maxLen → ((a' = a ∧ cap' = cap ∧ ∃ g o, a = some ⟨g, o, none⟩ ∧ Fr (fun x => x = g) w w') ∨ (a' = some ⟨w.heap.size, 0, none⟩ ∧ Below w.heap.size w w')) → wpList Try.prog ops Q rest (act.put o.dst (.slice a' (N + 1) cap')) w') :
    wpList Try.prog ops Q (o :: rest) act w := by
  obtain ⟨a', cap', w', hrun, h1, h2, h3, h4, h5⟩ := run_app hL hA hO hlc hN hcm hz c hbx o.type
  refine wpList_plain hgd fun K hK => ?_
  unfold Oper.wp
  simp [execOp, ho, resolve, invoke, builtin, hd, hx, hrun, Result.andThen]
  exact hK _ _ (h a' cap' w' h1 h2 h3 h4 h5)
end Go.Proofs.Ytnohammflhadpaa
