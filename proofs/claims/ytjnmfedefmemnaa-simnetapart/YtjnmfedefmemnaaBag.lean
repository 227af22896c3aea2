import Derived.Test.YtjnmfedefmemnaaClone
import Derived.ArgAppend
namespace Go.Proofs.Ytjnmfedefmemnaa
open Go.RowKit
set_option maxRecDepth 100000

def ptr (q : Nat) : Value := .pointer (some ⟨q, 0, none⟩)
def pcells (qs : List Nat) : List Value := qs.map ptr
theorem pcells_len (qs : List Nat) : (pcells qs).length = qs.length := by simp [pcells]
theorem pcells_one (qs : List Nat) : ∀ v ∈ pcells qs, v.oneCell' = true := by
  intro v hv; obtain ⟨x, _, rfl⟩ := List.mem_map.1 hv; rfl
/-- The block of a slice. -/
def blk : Value → List Nat
  | .slice (some a) _ _ => [a.block]
  | _ => []
/-- A bag: the frames' blocks, in their order. -/
def BagAt (w : World) (v : Value) (qs : List Nat) : Prop :=
  (v = .slice none 0 0 ∧ qs = []) ∨ ∃ gb o cap c, v = .slice (some ⟨gb, o, none⟩) qs.length cap ∧ Row w gb c 73 ∧ qs.length ≤ cap ∧ o + cap = c.length ∧ (c.drop o).take qs.length = pcells qs
theorem BagAt.shape {w : World} {v : Value} {qs : List Nat} (h : BagAt w v qs) : ∃ a cap, v = .slice a qs.length cap := by
  rcases h with ⟨rfl, rfl⟩ | ⟨gb, o, cap, c, rfl, _⟩
  · exact ⟨none, 0, rfl⟩
  · exact ⟨_, _, rfl⟩
theorem BagAt.blkRow {w : World} {v : Value} {qs : List Nat} (h : BagAt w v qs) : ∀ x ∈ blk v, ∃ c, Row w x c 73 := by
  rcases h with ⟨rfl, rfl⟩ | ⟨gb, o, cap, c, rfl, R, _⟩
  · intro x hx; cases hx
  · intro x hx
    simp only [blk, List.mem_singleton] at hx
    subst hx
    exact ⟨c, R⟩
theorem BagAt.kept {w w' : World} {v : Value} {qs : List Nat} (h : BagAt w v qs) (hb : Below w.heap.size w w') : BagAt w' v qs := by
  rcases h with h | ⟨gb, o, cap, c, h1, R, h2⟩
  · exact .inl h
  · exact .inr ⟨gb, o, cap, c, h1, R.kept hb R.lt, h2⟩
theorem BagAt.only {S : List Nat} {w w' : World} {v : Value} {qs : List Nat} (h : BagAt w v qs) (ho : Only S w w') (hd : ∀ x ∈ blk v, x ∉ S) : BagAt w' v qs := by
  rcases h with h | ⟨gb, o, cap, c, rfl, R, h2⟩
  · exact .inl h
  · exact .inr ⟨gb, o, cap, c, rfl, ho.row R (hd gb (by simp [blk])), h2⟩
theorem BagAt.cell {w : World} {v : Value} {qs : List Nat} (h : BagAt w v qs) (j : Nat) (hj : j < qs.length) : ∃ gb o cap, v = .slice (some ⟨gb, o, none⟩) qs.length cap ∧ w.cell? ⟨gb, o + j, none⟩ = some (ptr qs[j]) := by
  rcases h with ⟨rfl, rfl⟩ | ⟨gb, o, cap, c, rfl, R, _, _, h2⟩
  · simp at hj
  · refine ⟨gb, o, cap, rfl, R.cell _ _ ?_⟩
    have e : ((c.drop o).take qs.length)[j]? = (pcells qs)[j]? := by rw [h2]
    rw [List.getElem?_take_of_lt hj, List.getElem?_drop] at e
    rw [e]
    simp [pcells, hj]
theorem info73 : ∃ i : TypeInfo, Try.prog.info? 73 = some i ∧ i.zero = some (.pointer none) ∧ i.size = 1 ∧ i.bytes = 8 := by
  have h : (Try.prog.info? 73).map (fun i => (i.zero, i.size, i.bytes)) = some (some (.pointer none), 1, 8) := by kernel_rfl
  cases hq : Try.prog.info? 73 with
  | none => rw [hq] at h; cases h
  | some i => rw [hq] at h; simp at h; exact ⟨i, rfl, h.1, h.2.1, h.2.2⟩
theorem bag_of_owns {w : World} {base : Nat} {v : Value} {qs : List Nat} (hq : qs ≠ []) (h : w.ownsRow base 73 1 v qs.length (pcells qs)) : BagAt w v qs ∧ ∀ x ∈ blk v, base ≤ x := by
  obtain ⟨_, ⟨_, h0⟩ | ⟨g, cap, cur, rfl, hb, hh, hc, _, hs, ht⟩⟩ := h
  · exact absurd (List.length_eq_zero_iff.1 h0) hq
  · refine ⟨.inr ⟨g, 0, cap, cur.toList, rfl, ⟨by simpa using hh⟩, hc, by simpa using hs.symm, by simpa using ht⟩, ?_⟩
    intro x hx
    simp only [blk, List.mem_singleton] at hx
    subst hx
    exact hb
theorem seg_push (c : List Value) (o n : Nat) (hl : o + n + 1 ≤ c.length) (x : Value) : ((c.take (o + n) ++ [x] ++ c.drop (o + n + 1)).drop o).take (n + 1) = (c.drop o).take n ++ [x] := by
  have h1 : ((c.drop o).take n).length = n := by simp; omega
  rw [List.append_assoc, List.drop_append_of_le_length (by simp; omega), List.drop_take, Nat.add_sub_cancel_left, List.take_append, h1, Nat.add_sub_cancel_left, List.take_of_length_le (by omega)]
  simp
/-- A frame's pointer is laid behind the others. -/
theorem append_bag {w : World} {v : Value} {qs : List Nat} (h : BagAt w v qs) (q nb : Nat) (ty : TypeId) (hq : w.cell? ⟨nb, 0, none⟩ = some (ptr q)) (hl : qs.length ≤ 1073741824) :
    ∃ v' w', (Builtin.append_ #[64, 64] ty #[v, .slice (some ⟨nb, 0, none⟩) 1 1]).run Try.prog w = .ok v' w' ∧ BagAt w' v' (qs ++ [q]) ∧ Only (blk v) w w' ∧ ∀ x ∈ blk v', x ∈ blk v ∨ w.heap.size ≤ x := by
  obtain ⟨i, i1, i2, i3, i4⟩ := info73
  have hnew : ∀ j u, [ptr q][j]? = some u → w.cell? ((⟨nb, 0, none⟩ : Addr).add j) = some u := by
    intro j u hu
    match j, hu with
    | 0, hu => simp at hu; subst hu; simpa [Addr.add_mid] using hq
  have hone : ∀ u ∈ [ptr q], u.oneCell' = true := by simp [ptr, Value.oneCell']
  have hpc : pcells qs ++ [ptr q] = pcells (qs ++ [q]) := by simp [pcells]
  rcases h with ⟨rfl, rfl⟩ | ⟨gb, o, cap, c, rfl, R, hle, hoc, ht⟩
  · obtain ⟨v', w', hr, ho, hg, _⟩ := run_append_own (P := Try.prog) w w.heap.size 64 ty 73 i (.pointer none) 1 8 Try.underlying64 i1 i2 i3 i4 rfl (by decide) (.slice none 0 0) 0 [] ⟨rfl, .inl ⟨rfl, rfl⟩⟩ ⟨nb, 0, none⟩ 1 1 [ptr q] rfl hnew hone (by unfold maxLen; omega) (by omega) (Nat.le_refl _)
    have hb := bag_of_owns (qs := [q]) (by simp) ho
    exact ⟨v', w', hr, hb.1, ⟨hg.os, hg.tape, hg.output, hg.size, fun k hk _ => hg.block k hk (by simp [Value.ownBlock])⟩, fun x hx => .inr (hb.2 x hx)⟩
  · by_cases hroom : qs.length + 1 ≤ cap
    · have hr := run_append_room_cells (P := Try.prog) w 64 ty 73 i Try.underlying64 i1 gb o qs.length cap ⟨nb, 0, none⟩ 1 1 [ptr q] (by simp [i3]) hnew hone hroom
        (fun j hj => by
          have e : j = 0 := by simpa using hj
          subst e
          rw [R.cell _ _ (List.getElem?_eq_getElem (show o + qs.length * i.size + 0 < c.length by rw [i3]; omega))]
          rfl) (fun j _ => R.frozen _)
      rw [i3, Nat.mul_one] at hr
      refine ⟨_, _, hr, .inr ⟨gb, o, cap, _, by rw [List.length_append]; rfl, R.setCells [ptr q] (o + qs.length) (by simp; omega), by simp; omega, by simp; omega, ?_⟩, Only.setCells _ _ (Only.refl _ _) (.inl (by simp [blk])), fun x hx => .inl hx⟩
      have e := seg_push c o qs.length (by omega) (ptr q)
      rw [ht, hpc] at e
      rw [List.length_append]
      exact e
    · obtain ⟨v', w', hr, ho, hg⟩ := run_append_arg_grows (P := Try.prog) w 64 ty 73 i (.pointer none) 1 8 Try.underlying64 i1 i2 i3 i4 rfl (by decide) ⟨gb, o, none⟩ qs.length cap (pcells qs) (by rw [pcells_len]; omega) (fun j u hu => by
        rw [Addr.add_mid]
        refine R.cell _ _ ?_
        have hj : j < qs.length := by have := (List.getElem?_eq_some_iff.1 hu).1; rwa [pcells_len] at this
        rw [← ht, List.getElem?_take_of_lt hj, List.getElem?_drop] at hu
        exact hu) ⟨nb, 0, none⟩ 1 1 [ptr q] rfl hnew (by omega) (by unfold maxLen; omega) (by omega)
      rw [hpc] at ho
      have ho' : w'.ownsRow w.heap.size 73 1 v' (qs ++ [q]).length (pcells (qs ++ [q])) := by rw [List.length_append]; exact ho
      have hb := bag_of_owns (qs := qs ++ [q]) (by simp) ho'
      exact ⟨v', w', hr, hb.1, ⟨hg.os, hg.tape, hg.output, hg.size, fun k hk _ => hg.block k hk (by simp)⟩, fun x hx => .inr (hb.2 x hx)⟩
end Go.Proofs.Ytjnmfedefmemnaa
