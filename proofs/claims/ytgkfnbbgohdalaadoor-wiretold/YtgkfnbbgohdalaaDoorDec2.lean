import Derived.Test.YtgkfnbbgohdalaaDoorDec0
import Derived.Test.YtgkfnbbgohdalaaDoorFr0
import Derived.Laws.AppendOwn
namespace Go.Proofs.YtgkfnbbgohdalaaDoor
open Go.RowKit
set_option maxRecDepth 100000

theorem info5 : ∃ i : TypeInfo, Tryd.prog.info? 5 = some i ∧ i.zero = some (.int .u8 0) ∧ i.size = 1 ∧ i.bytes = 1 := by
  have h : (Tryd.prog.info? 5).map (fun i => (i.zero, i.size, i.bytes)) = some (some (.int .u8 0), 1, 1) := by kernel_rfl
  cases hq : Tryd.prog.info? 5 with
  | none => rw [hq] at h; cases h
  | some i =>
    rw [hq] at h
    simp only [Option.map_some, Option.some.injEq, Prod.mk.injEq] at h
    exact ⟨i, rfl, h.1, h.2.1, h.2.2⟩

/-- What a list of bytes that a call made is. -/
theorem owned_bytes {w : World} {base n : Nat} {v : Value} {bs : List (BitVec 8)} (h : w.ownsRow base 5 1 v n (bcells bs)) (hn : bs.length = n) : ∃ a cap, v = .slice a n cap ∧ BytesAt w a bs ∧ (∀ ad, a = some ad → base ≤ ad.block) := by
  subst hn
  obtain ⟨_, ⟨rfl, h0⟩ | ⟨g, cap, cur, rfl, hg, hh, hnc, hcm, hcs, htk⟩⟩ := h
  · exact ⟨none, 0, by rw [h0], fun k hk => by omega, fun _ h => by cases h⟩
  · refine ⟨_, _, rfl, fun k hk => ⟨g, 0, rfl, ?_⟩, fun _ h => by cases h; exact hg⟩
    rw [Nat.zero_add, cell_of_row w g k _ 5 (0, 0) hh]
    have e : (bcells bs)[k]? = cur.toList[k]? := by
      rw [← htk, List.getElem?_take, if_pos (by omega)]
    have e2 := bcells_get hk
    rw [e] at e2
    simpa using e2

/-- append of bytes to a row that the call made. -/
theorem wpAppendB {ops : Array Oper} {rest : List Oper} {o : Oper} {a : Act} {w : World} {Q : Exit → Act → World → Prop} (s x : Operand) (hgd : o.guard = none) (ho : o.op = .call { callee := .builtin .append, args := #[s, x], argTypes := #[23, 23] })
    {base k : Nat} {v : Value} {old : List (BitVec 8)} (hs : a.eval s = v) (hown : w.ownsRow base 5 1 v k (bcells old)) (hbase : base ≤ w.heap.size) (hfr : ∀ g, v.ownBlock = some g → base ≤ g)
    {g0 o0 n c : Nat} {bs : List (BitVec 8)} (hx : a.eval x = .slice (some ⟨g0, o0, none⟩) n c) (hn : bs.length = n) (hB : BytesAt w (some ⟨g0, o0, none⟩) bs) (hl : k + n ≤ 140737488355328)
    (h : ∀ w' v', Hid (w'.ownsRow base 5 1 v' (k + n) (bcells (old ++ bs))) → Hid (Below base w w') → wpList Tryd.prog ops Q rest (a.put o.dst v') w') : wpList Tryd.prog ops Q (o :: rest) a w := by
  obtain ⟨i, h1, h2, h3, h4⟩ := info5
  subst hn
  refine wpList_append_own w hgd s x 23 ho base 5 i (.int .u8 0) 1 1 Tryd.underlying23 h1 h2 h3 h4 rfl (by decide) v k (bcells old) hs hown ⟨g0, o0, none⟩ bs.length c (bcells bs) hx (by rw [bcells_len]; omega) ?_ (bcells_one _) (by unfold maxLen; omega) (by omega) hbase ?_
  · intro j u hv
    have hj : j < bs.length := by
      have := (List.getElem?_eq_some_iff.1 hv).1
      rwa [bcells_len] at this
    obtain ⟨g2, o2, e2, c2⟩ := hB j hj
    cases e2
    rw [bcells_get hj] at hv
    rw [Addr.add_mid, c2]
    exact hv
  · intro v' w' hown' hgrow _
    refine h w' v' ?_ ?_
    · show World.ownsRow _ _ _ _ _ _ _
      rw [show bcells (old ++ bs) = bcells old ++ bcells bs by simp [bcells]]; exact hown'
    · exact ((Below.refl _ _).grown hgrow hbase hfr)

set_option maxHeartbeats 1000000 in
theorem clone_any {w : World} {g o n cap : Nat} {bs : List (BitVec 8)} (hB : BytesAt w (some ⟨g, o, none⟩) bs) (hn : bs.length = n) (hl : n ≤ 1048576) :
    Calls Tryd.prog 43 #[.slice (some ⟨g, o, none⟩) n cap] w fun e w' => ∃ a' c', e = .returned (.slice a' n c') ∧ BytesAt w' a' bs ∧ (∀ ad, a' = some ad → w.heap.size ≤ ad.block) ∧ Below w.heap.size w w' := by
  have HB : Hid (BytesAt w (some ⟨g, o, none⟩) bs) := hB
  have HN : Hid _ := hn
  have HL : Hid _ := hl
  clear hB hn hl
  have he : ∀ w : World, (binOp .eql 23 (.slice (some ⟨g, o, none⟩) n cap) (.slice none 0 0)).run Tryd.prog w = .ok (.bool false) w := fun _ => rfl
  go_enter Tryd.func43, Tryd.ntmps43
  go_wp2_with (at_builtin; refine wpAppendB (.tmp 5) (.tmp 6) rfl rfl (base := w.heap.size) (old := []) rfl ⟨rfl, .inr ⟨w.heap.size, 0, #[], rfl, Nat.le_refl _, heap_alloc_last w _, Nat.le_refl _, by decide, rfl, rfl⟩⟩ (by simp) (fun g h => by cases h; exact Nat.le_refl _) rfl HN.out (HB.out.kept ((Below.refl _ _).alloc (Nat.le_refl _) _)) (by have := HL.out; omega) ?_; intro w' v' hO hb)
  go_ret
  have hb2 : Below w.heap.size w w' := ((Below.refl _ _).alloc (Nat.le_refl _) _).trans hb.out
  have hO2 := hO.out
  rw [List.nil_append, Nat.zero_add] at hO2
  obtain ⟨a', c', rfl, hA, hg⟩ := owned_bytes hO2 HN.out
  exact ⟨a', c', rfl, hA, hg, hb2⟩
end Go.Proofs.YtgkfnbbgohdalaaDoor
