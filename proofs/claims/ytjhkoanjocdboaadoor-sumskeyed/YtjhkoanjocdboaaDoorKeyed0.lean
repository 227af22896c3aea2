import Derived.Test.YtjhkoanjocdboaaDoorMac4
import Derived.Test.YtjhkoanjocdboaaDoorLin1
import Derived.ChangeKeysEq
import Derived.Lib.AppendZeros
import Derived.Lib.AppendZerosOnto
import Derived.Laws.AppendOwn
namespace Go.Proofs.YtjhkoanjocdboaaDoor
open Go.RowKit
set_option maxRecDepth 100000

/-! Two long sums that are the same are found so. -/
theorem items_same {xs : Array Value} {N : Nat} (h : ∀ i, i < N → ∃ x, xs[i]? = some (.int .u8 x)) (w : World) : ∀ is : List Nat, (∀ i ∈ is, i < N) → (Op.eqItems 9999 5 1 xs xs is).run Tryd.prog w = .ok true w
  | [], _ => by simp [Op.eqItems]
  | i :: is, hi => by
    obtain ⟨x, hx⟩ := h i (hi i (by simp))
    have hp : (part 5 xs i).run Tryd.prog w = .ok (.int .u8 x) w := run_part_plain w (by kernel_rfl) hx
    have he : (Op.equalIn 9999 5 (.int .u8 x) (.int .u8 x)).run Tryd.prog w = .ok (x == x) w := run_equalIn_int w 9998 5 .u8 .u8 x x Tryd.underlying5
    have ih := items_same h w is (fun j hj => hi j (by simp [hj]))
    simp only [Op.eqItems, Nat.mul_one, Sem.run_bind, hp, Result.andThen_ok, he, beq_self_eq_true, Bool.not_true, Bool.false_eq_true, if_false, ih]
theorem same44 {E : List (BitVec 8)} (hE : E.length = 32) (w : World) : (Op.equalIn 10000 44 (.agg (bcells E).toArray) (.agg (bcells E).toArray)).run Tryd.prog w = .ok true w := by
  obtain ⟨i, h1, _, _, _⟩ := info5
  rw [run_equalIn_array w 9999 (i := i) (bcells E).toArray (bcells E).toArray Tryd.underlying44 h1, show Tryd.prog.cellsOf 5 = 1 by kernel_rfl]
  exact items_same (N := 32) (fun j hj => ⟨ub (E[j]'(by omega)), by rw [List.getElem?_toArray]; exact bcells_get (by omega)⟩) w _ (fun j hj => by simpa using hj)

/-! A key's block. -/
theorem keyL_sha {bs : List (BitVec 8)} (h : 64 < bs.length) : keyL (sha bs) = keyL bs := by
  unfold keyL
  rw [if_pos h, if_neg (by rw [sha_len]; decide), sha_len]
theorem keyL_zeros {bs : List (BitVec 8)} {z : Nat} (h : bs.length + z ≤ 64) : keyL (bs ++ List.replicate z 0#8) = keyL bs := by
  unfold keyL
  rw [if_neg (by rw [List.length_append, List.length_replicate]; omega), if_neg (by omega), List.append_assoc, List.replicate_append_replicate, List.length_append, List.length_replicate]
  congr 2
  omega
theorem macL_sha {bs c : List (BitVec 8)} (h : 64 < bs.length) : macL (sha bs) c = macL bs c := by unfold macL; rw [keyL_sha h]
theorem macL_zeros {bs c : List (BitVec 8)} {z : Nat} (h : bs.length + z ≤ 64) : macL (bs ++ List.replicate z 0#8) c = macL bs c := by unfold macL; rw [keyL_zeros h]

/-! append(long, make([]byte, z)...) -/
theorem zeros_cells (z : Nat) : Builtin.zeroCells (Value.int .u8 0).cells z = (bcells (List.replicate z 0#8)).toArray := by
  apply Array.ext_getElem?
  intro j
  by_cases h : j < z
  · simp [Builtin.zeroCells, Value.cells, bcells, h, Nat.mod_one, bv]; rfl
  · simp [Builtin.zeroCells, Value.cells, bcells, h]
theorem next_small {n c : Nat} (hn : n ≤ 64) (hc : c < n) : Builtin.nextslicecap n c ≤ 128 := by
  unfold Builtin.nextslicecap
  split
  · omega
  · rw [if_pos (by omega)]; omega
theorem bytes_row {w : World} {g : Nat} {bs : List (BitVec 8)} {cur : Array Value} {t : TypeId} (h : w.heap[g]? = some (.cells cur t (0, 0))) (ht : cur.toList.take bs.length = bcells bs) : BytesAt w (some ⟨g, 0, none⟩) bs := by
  intro k hk
  refine ⟨g, 0, rfl, ?_⟩
  rw [Nat.zero_add, cell_of_row w g k cur t (0, 0) h, ← bcells_get hk, ← ht, List.getElem?_take, if_pos hk]
  simp
theorem wrap00 : IntKind.i64.wrap 0 = 0 := by decide
theorem append_zeros {w : World} {B : Nat} {v : Value} {bs : List (BitVec 8)} {z : Nat} (ty : TypeId) (hown : w.ownsRow B 5 1 v bs.length (bcells bs)) (hn : bs.length + z ≤ 64) (hB : B ≤ w.heap.size) :
    ∃ ad cap w', (Builtin.append_ #[24, 3] ty #[v, .int .i64 (z : Int)]).run Tryd.prog w = .ok (.slice ad (bs.length + z) cap) w' ∧ BytesAt w' ad (bs ++ List.replicate z 0#8) ∧ bs.length + z ≤ cap ∧ (∀ d, ad = some d → d.spot = none) ∧ Below B w w' := by
  obtain ⟨i, h1, h2, h3, h4⟩ := info5
  have hw : IntKind.i64.wrap (z : Int) = z := by rw [IntKind.wrap_i64]; omega
  have hneg : ¬ ((z : Int) < 0) := by omega
  have h48 : ¬ (281474976710656 < (z : Int) * (i.bytes : Int)) := by rw [h4]; omega
  obtain ⟨_, ⟨rfl, h0⟩ | ⟨g, cap, cur, rfl, hg, hh, hnc, _, hcs, htk⟩⟩ := hown
  · have e0 : bs = [] := List.eq_nil_of_length_eq_zero h0
    subst e0
    by_cases hz : z = 0
    · subst hz
      refine ⟨none, 0, w, ?_, fun k hk => (by simp at hk), (by simp), fun d e => (by cases e), Below.refl _ _⟩
      simp [Builtin.append_, run_underlying Tryd.underlying24, run_underlying Tryd.underlying3, sizeOf, typeInfo, h1, asInt, asIntOf, wrap00]
    · have hr := Lib.run_append_nil_zeros (P := Tryd.prog) w 24 3 ty 5 i (.int .u8 0) .i64 .i64 Tryd.underlying24 Tryd.underlying3 h1 h2 z (by omega) (by omega) (by omega) (by rw [h4]; simp at hn; omega)
      simp only [List.length_nil, Nat.zero_add, List.nil_append]
      refine ⟨_, _, _, hr, ?_, grownCap_ge _ _ _ _, fun d e => (by cases e; rfl), (show Below B w w.drew from below_drawn (Below.refl _ _) _).alloc hB _⟩
      refine bytes_row (heap_alloc_last _ _) ?_
      rw [zeros_cells, zeros_cells, List.length_replicate]
      simp [bcells]
  · rw [Nat.mul_one] at htk hcs
    by_cases hz : z = 0
    · subst hz
      simp only [List.replicate_zero, List.append_nil, Nat.add_zero]
      refine ⟨_, _, w, ?_, bytes_row hh htk, hnc, fun d e => (by cases e; rfl), Below.refl _ _⟩
      simp [Builtin.append_, run_underlying Tryd.underlying24, run_underlying Tryd.underlying3, sizeOf, typeInfo, h1, asInt, asIntOf, wrap00, hnc, storeCells]
    · by_cases hroom : bs.length + z ≤ cap
      · have hst := run_storeCells_at (P := Tryd.prog) g bs.length 5 (bcells (List.replicate z 0#8)) 0 cur w hh (by rw [bcells_len, List.length_replicate]; omega) (bcells_one _)
        refine ⟨some ⟨g, 0, none⟩, cap, w.setRow g (cur.toList.take bs.length ++ bcells (List.replicate z 0#8) ++ cur.toList.drop (bs.length + z)).toArray, ?_, ?_, hroom, fun d e => (by cases e; rfl), Go.below_setRow (Below.refl _ _) hg _⟩
        · rw [bcells_len, List.length_replicate, Nat.add_zero] at hst
          have hzs : ¬ (z * i.size = 0) := by rw [h3]; omega
          have ha : (⟨g, 0, none⟩ : Addr).add (bs.length * i.size) = ⟨g, bs.length, none⟩ := by rw [h3, Nat.mul_one, Addr.add_lit, Nat.zero_add]
          simp [Builtin.append_, run_underlying Tryd.underlying24, run_underlying Tryd.underlying3, sizeOf, typeInfo, zeroValue, h1, h2, asInt, asIntOf, hw, hneg, h48, hroom, hzs, zeros_cells, ha, hst]
        · refine bytes_row (setRow_heap w g cur _ 5 (0, 0) hh) ?_
          rw [htk, List.length_append, List.length_replicate]
          rw [List.append_assoc, ← List.append_assoc]
          rw [List.take_append_of_le_length (by simp [bcells_len])]
          rw [List.take_of_length_le (by simp [bcells_len])]
          simp [bcells]
      · have hold : (Builtin.firstCells i.size bs.length (.slice (some ⟨g, 0, none⟩) bs.length cap)).run Tryd.prog w.drew = .ok (bcells bs).toArray w.drew := by
          refine run_firstCells_some _ _ _ _ _ _ _ (by rw [bcells_len, h3, Nat.mul_one]) fun j u hu => ?_
          have hj : j < bs.length := by
            have := (List.getElem?_eq_some_iff.1 hu).1
            rwa [bcells_len] at this
          obtain ⟨g', o', e', c'⟩ := bytes_row hh htk j hj
          cases e'
          rw [bcells_get hj] at hu
          rw [Addr.add_lit, ← hu]
          exact c'
        have hr := Lib.run_append_grow_zeros (P := Tryd.prog) w 24 3 ty 5 i (.int .u8 0) .i64 .i64 Tryd.underlying24 Tryd.underlying3 h1 h2 (some ⟨g, 0, none⟩) bs.length cap (bcells bs) hold z (by omega) (by omega) (by omega) (by omega) (by rw [h4]; omega) (by rw [h4]; have := next_small hn (show cap < bs.length + z by omega); omega)
        refine ⟨_, _, _, hr, ?_, grownCap_ge _ _ _ _, fun d e => (by cases e; rfl), (show Below B w w.drew from below_drawn (Below.refl _ _) _).alloc hB _⟩
        refine bytes_row (heap_alloc_last _ _) ?_
        rw [zeros_cells, zeros_cells, List.length_append, List.length_replicate, show bcells (bs ++ List.replicate z 0#8) = bcells bs ++ bcells (List.replicate z 0#8) by simp [bcells]]
        simp only [Array.toList_append]
        exact List.take_left' (by rw [List.length_append, bcells_len, bcells_len, List.length_replicate])
theorem wpAppendZ {ops : Array Oper} {rest : List Oper} {o : Oper} {a : Act} {w : World} {Q : Exit → Act → World → Prop} (s x : Operand) (hgd : o.guard = none) (ho : o.op = .call { callee := .builtin .append, args := #[s, x], argTypes := #[24, 3] })
    {B : Nat} {v : Value} {bs : List (BitVec 8)} {z : Nat} (hs : a.eval s = v) (hx : a.eval x = .int .i64 (z : Int)) (hown : w.ownsRow B 5 1 v bs.length (bcells bs)) (hn : bs.length + z ≤ 64) (hB : B ≤ w.heap.size)
    (h : ∀ w' ad cap, Hid (BytesAt w' ad (bs ++ List.replicate z 0#8)) → Hid (bs.length + z ≤ cap) → Hid (∀ d, ad = some d → d.spot = none) → Hid (Below B w w') → wpList Tryd.prog ops Q rest (a.put o.dst (.slice ad (bs.length + z) cap)) w') : wpList Tryd.prog ops Q (o :: rest) a w := by
  obtain ⟨ad, cap, w', hr, h1, h2, h3, h4⟩ := append_zeros o.type hown hn hB
  refine wpList_plain hgd fun K hK => ?_
  unfold Oper.wp execOp
  simp only [ho, resolve, invoke, builtin, Sem.run_bind, Sem.run_pure, Result.andThen_ok, List.map_toArray, List.map_cons, List.map_nil, hs, hx, hr]
  exact hK _ _ (h w' ad cap h1 h2 h3 h4)
/-- append(nil, key...) -/
theorem wpAppendK {ops : Array Oper} {rest : List Oper} {o : Oper} {a : Act} {w : World} {Q : Exit → Act → World → Prop} (s x : Operand) (hgd : o.guard = none) (ho : o.op = .call { callee := .builtin .append, args := #[s, x], argTypes := #[24, 24] })
    (hs : a.eval s = .slice none 0 0) {ad : Option Addr} {c : Nat} {bs : List (BitVec 8)} (hx : a.eval x = .slice ad bs.length c) (hB : BytesAt w ad bs) (hl : bs.length ≤ 140737488355328)
    (h : ∀ w' v, Hid (w'.ownsRow w.heap.size 5 1 v bs.length (bcells bs)) → Hid (Below w.heap.size w w') → wpList Tryd.prog ops Q rest (a.put o.dst v) w') : wpList Tryd.prog ops Q (o :: rest) a w := by
  obtain ⟨i, h1, h2, h3, h4⟩ := info5
  cases ad with
  | none =>
    cases bs with
    | cons b bs => obtain ⟨_, _, e, _⟩ := hB 0 (by simp); cases e
    | nil =>
      refine wpList_plain hgd fun K hK => ?_
      have hr : (Builtin.append_ #[24, 24] o.type #[.slice none 0 0, .slice none 0 c]).run Tryd.prog w = .ok (.slice none 0 0) w := by
        simp [Builtin.append_, run_underlying Tryd.underlying24, sizeOf, typeInfo, h1, Builtin.lenOf, Builtin.firstCells]
      unfold Oper.wp execOp
      simp only [ho, resolve, invoke, builtin, Sem.run_bind, Sem.run_pure, Result.andThen_ok, List.map_toArray, List.map_cons, List.map_nil, hs, hx, List.length_nil, hr]
      exact hK _ _ (h w _ ⟨rfl, .inl ⟨rfl, rfl⟩⟩ (Below.refl _ _))
  | some d =>
    refine wpList_append_own w hgd s x 24 ho w.heap.size 5 i (.int .u8 0) 1 1 Tryd.underlying24 h1 h2 h3 h4 rfl (by decide) _ 0 [] hs ⟨rfl, .inl ⟨rfl, rfl⟩⟩ d bs.length c (bcells bs) hx (by rw [bcells_len]; omega) ?_ (bcells_one _) (by unfold maxLen; omega) (by omega) (Nat.le_refl _) ?_
    · intro j v hv
      have hj : j < bs.length := by
        have := (List.getElem?_eq_some_iff.1 hv).1
        rwa [bcells_len] at this
      obtain ⟨g2, o2, e2, c2⟩ := hB j hj
      cases e2
      rw [bcells_get hj] at hv
      rw [Addr.add_mid, c2]
      exact hv
    · intro v' w' hown hgrow _
      rw [Nat.zero_add, List.nil_append] at hown
      exact h w' v' hown ((Below.refl _ _).grown hgrow (Nat.le_refl _) (fun k e => by cases e))
end Go.Proofs.YtjhkoanjocdboaaDoor
