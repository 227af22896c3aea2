import Derived.Test.YtgkfnbbgohdalaaDoorBack
namespace Go.Proofs.YtgkfnbbgohdalaaDoor
open Go.RowKit
set_option maxRecDepth 100000

theorem byte_take (b : List (BitVec 8)) (k i : Nat) (h : i < k) : byte (b.take k) i = byte b i := by
  unfold byte; rw [List.getD_eq_getElem?_getD, List.getD_eq_getElem?_getD, List.getElem?_take, if_pos h]
theorem cut_take (b : List (BitVec 8)) (k i n : Nat) (h : i + n ≤ k) : cut (b.take k) i n = cut b i n := by
  unfold cut; rw [List.drop_take, List.take_take, Nat.min_eq_left (by omega)]
theorem byte_app (b m : List (BitVec 8)) (i : Nat) (h : i < b.length) : byte (b ++ m) i = byte b i := by
  unfold byte; rw [List.getD_eq_getElem?_getD, List.getD_eq_getElem?_getD, List.getElem?_append_left h]
theorem cut_app (b m : List (BitVec 8)) (i n : Nat) (h : i + n ≤ b.length) : cut (b ++ m) i n = cut b i n := by
  unfold cut; rw [List.drop_append_of_le_length (by omega), List.take_append_of_le_length (by rw [List.length_drop]; omega)]
/-- How many bytes must stand there hangs on the front alone. -/
theorem size_same {b c : List (BitVec 8)} (h0 : byte c 0 = byte b 0) (h2 : byte c 2 = byte b 2) (h18 : byte b 0 = 1#8 → (24 ≤ c.length ↔ 24 ≤ b.length) ∧ (24 ≤ b.length → cut c 18 2 = cut b 18 2)) : sizeB c = sizeB b := by
  unfold sizeB
  rw [h0, h2]
  by_cases e : byte b 0 = 1#8
  · rw [if_pos e, if_pos e]
    obtain ⟨ha, hb⟩ := h18 e
    by_cases hl : b.length < 24
    · rw [if_pos hl, if_pos (by omega)]
    · rw [if_neg hl, if_neg (by omega), hb (by omega)]
  · rw [if_neg e, if_neg e]
/-- No shorter beginning of a fit frame's bytes is taken. -/
theorem decE_prefix {f : Fr} (hf : fit f) (hn : NumsOk f) {k : Nat} (hk : k < (enc f).length) : decE ((enc f).take k) ≠ 0 := by
  intro h
  obtain ⟨h7, _, _, _, hs, _⟩ := decE_zero h
  have hB := back_any hf hn
  generalize enc f = b at *
  have hl : (b.take k).length = k := by rw [List.length_take]; omega
  rw [hl] at h7 hs
  have h0 := byte_take b k 0 (by omega)
  by_cases h24 : byte b 0 = 1#8 ∧ k < 24
  · have : sizeB (b.take k) = 24 := by
      unfold sizeB; rw [h0, if_pos h24.1, if_pos (by rw [hl]; exact h24.2)]
    omega
  · have : sizeB (b.take k) = sizeB b := size_same h0 (byte_take b k 2 (by omega)) (fun e => by
      have hk24 : 24 ≤ k := by
        by_cases x : k < 24
        · exact absurd ⟨e, x⟩ h24
        · omega
      exact ⟨by rw [hl]; omega, fun _ => cut_take b k 18 2 (by omega)⟩)
    rw [this, ← hB.size] at hs
    omega
/-- Nor are they with anything behind them. -/
theorem decE_more {f : Fr} (hf : fit f) (hn : NumsOk f) {m : List (BitVec 8)} (hm : m ≠ []) : decE (enc f ++ m) ≠ 0 := by
  intro h
  obtain ⟨_, _, _, _, hs, _⟩ := decE_zero h
  have hB := back_any hf hn
  have hl := enc_len hf
  have hz := sizeF_bd hf
  have hmp := List.length_pos_iff.2 hm
  generalize enc f = b at *
  have h24 : byte b 0 = 1#8 → 24 ≤ b.length := fun e => by
    have := hB.size
    unfold sizeB at this
    rw [if_pos e] at this
    split at this <;> omega
  have : sizeB (b ++ m) = sizeB b := size_same (byte_app b m 0 (by omega)) (byte_app b m 2 (by omega)) (fun e => by
    have := h24 e
    exact ⟨by rw [List.length_append]; omega, fun _ => cut_app b m 18 2 (by omega)⟩)
  rw [this, ← hB.size, List.length_append] at hs
  omega

/-- append of bytes to a row that the call made, whatever the other's address. -/
theorem wpAppendA {ops : Array Oper} {rest : List Oper} {o : Oper} {a : Act} {w : World} {Q : Exit → Act → World → Prop} (s x : Operand) (hgd : o.guard = none) (ho : o.op = .call { callee := .builtin .append, args := #[s, x], argTypes := #[23, 23] })
    {base k : Nat} {v : Value} {old : List (BitVec 8)} (hs : a.eval s = v) (hown : w.ownsRow base 5 1 v k (bcells old)) (hbase : base ≤ w.heap.size) (hfr : ∀ g, v.ownBlock = some g → base ≤ g)
    {ad : Addr} {n c : Nat} {bs : List (BitVec 8)} (hx : a.eval x = .slice (some ad) n c) (hn : bs.length = n) (hB : BytesAt w (some ad) bs) (hl : k + n ≤ 140737488355328)
    (h : ∀ w' v', Hid (w'.ownsRow base 5 1 v' (k + n) (bcells (old ++ bs))) → Hid (Below base w w') → wpList Tryd.prog ops Q rest (a.put o.dst v') w') : wpList Tryd.prog ops Q (o :: rest) a w := by
  obtain ⟨i, h1, h2, h3, h4⟩ := info5
  subst hn
  refine wpList_append_own w hgd s x 23 ho base 5 i (.int .u8 0) 1 1 Tryd.underlying23 h1 h2 h3 h4 rfl (by decide) v k (bcells old) hs hown ad bs.length c (bcells bs) hx (by rw [bcells_len]; omega) ?_ (bcells_one _) (by unfold maxLen; omega) (by omega) hbase ?_
  · intro j u hv
    have hj : j < bs.length := by
      have := (List.getElem?_eq_some_iff.1 hv).1
      rwa [bcells_len] at this
    obtain ⟨g2, o2, e2, c2⟩ := hB j hj
    cases e2
    rw [bcells_get hj] at hv
    rw [Addr.add_mid, c2]
    exact hv
  · intro v' w' hown' hgrow _
    refine h w' v' ?_ ?_
    · show World.ownsRow _ _ _ _ _ _ _
      rw [show bcells (old ++ bs) = bcells old ++ bcells bs by simp [bcells]]; exact hown'
    · exact ((Below.refl _ _).grown hgrow hbase hfr)
theorem owned_block {w : World} {base n : Nat} {v : Value} {xs : List Value} (h : w.ownsRow base 5 1 v n xs) : ∀ g, v.ownBlock = some g → base ≤ g := by
  intro g hg
  obtain ⟨_, ⟨rfl, _⟩ | ⟨g2, cap, cur, rfl, hb, _⟩⟩ := h
  · cases hg
  · cases hg; exact hb
theorem owned_cap {w : World} {base n : Nat} {v : Value} {bs : List (BitVec 8)} (h : w.ownsRow base 5 1 v n (bcells bs)) (hn : bs.length = n) : ∃ a cap, v = .slice a n cap ∧ BytesAt w a bs ∧ n ≤ cap := by
  obtain ⟨a, cap, e, hB, _⟩ := owned_bytes h hn
  refine ⟨a, cap, e, hB, ?_⟩
  obtain ⟨_, ⟨e2, h0⟩ | ⟨g, cap2, cur, e2, _, _, hnc, _⟩⟩ := h
  · rw [e] at e2; cases e2; omega
  · rw [e] at e2; cases e2; exact hnc
/-- append of nothing. -/
theorem append_none (w : World) (ty : TypeId) (ad : Option Addr) (n c : Nat) (hnc : n ≤ c) : (Builtin.append_ #[23, 23] ty #[.slice ad n c, .slice none 0 0]).run Tryd.prog w = .ok (.slice ad n c) w := by
  obtain ⟨i, h1, h2, h3, h4⟩ := info5
  cases ad <;> simp [Builtin.append_, run_underlying Tryd.underlying23, sizeOf, typeInfo, h1, hnc, Builtin.lenOf, Builtin.firstCells, storeCells]
theorem wpAppendNone {ops : Array Oper} {rest : List Oper} {o : Oper} {a : Act} {w : World} {Q : Exit → Act → World → Prop} (s x : Operand) (hgd : o.guard = none) (ho : o.op = .call { callee := .builtin .append, args := #[s, x], argTypes := #[23, 23] })
    {ad : Option Addr} {n c : Nat} (hs : a.eval s = .slice ad n c) (hnc : n ≤ c) (hx : a.eval x = .slice none 0 0) (h : wpList Tryd.prog ops Q rest (a.put o.dst (.slice ad n c)) w) : wpList Tryd.prog ops Q (o :: rest) a w := by
  refine wpList_plain hgd fun K hK => ?_
  have hr := append_none w o.type ad n c hnc
  unfold Oper.wp execOp
  simp only [ho, resolve, invoke, builtin, Sem.run_bind, Sem.run_pure, Result.andThen_ok, List.map_toArray, List.map_cons, List.map_nil, hs, hx, hr]
  exact hK _ _ h

set_option maxHeartbeats 1000000 in
theorem copy_any {w : World} {g o n cap : Nat} {bs : List (BitVec 8)} (hB : BytesAt w (some ⟨g, o, none⟩) bs) (hn : bs.length = n) (hl : n ≤ 1048576) :
    Calls Tryd.prog 16 #[.slice (some ⟨g, o, none⟩) n cap] w fun e w' => ∃ v, e = .returned v ∧ w'.ownsRow w.heap.size 5 1 v n (bcells bs) ∧ Below w.heap.size w w' := by
  have HB : Hid (BytesAt w (some ⟨g, o, none⟩) bs) := hB
  have HN : Hid _ := hn
  have HL : Hid _ := hl
  clear hB hn hl
  go_enter Tryd.func16, Tryd.ntmps16
  go_wp2_with (at_builtin; refine wpAppendA (.tmp 4) (.tmp 5) rfl rfl (base := w.heap.size) (old := []) rfl ⟨rfl, .inl ⟨rfl, rfl⟩⟩ (Nat.le_refl _) (fun g h => by cases h) rfl HN.out HB.out (by have := HL.out; omega) ?_; intro w' v' hO hb)
  go_ret
  have hO2 := hO.out
  rw [List.nil_append, Nat.zero_add] at hO2
  exact ⟨v', rfl, hO2, hb.out⟩
end Go.Proofs.YtgkfnbbgohdalaaDoor
