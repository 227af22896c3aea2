import Derived.Test.YtoeldomhkeancaaHqi
namespace Go.Proofs.Ytoeldomhkeancaa
open Go.RowKit Go.Maps
set_option maxRecDepth 100000

theorem inf3_i : ∃ i : TypeInfo, Try.prog.info? 87 = some i ∧ i.zero = some (.agg #[.int .u64 0, .int .u64 0, .int .i64 0]) ∧ i.size = 3 ∧ i.bytes = 24 := by
  have h : (Try.prog.info? 87).map (fun i => (i.zero, i.size, i.bytes)) = some (some (.agg #[.int .u64 0, .int .u64 0, .int .i64 0]), 3, 24) := by kernel_rfl
  cases hq : Try.prog.info? 87 with
  | none => rw [hq] at h; cases h
  | some i => rw [hq] at h; simp at h; exact ⟨i, rfl, h.1, h.2.1, h.2.2⟩
/-- An item behind an own row of them. -/
theorem push_run_i {w : World} {p o : Nat} {c : List Value} {v : Value} {L : List (It Value)} (h : HMi w p o c v L) {x : It Value} (hx : x.what.oneCell' = true) {bx : Nat} (hl : L.length ≤ 2932031007402) (hb : Row w bx (icells x) 87) (ty : TypeId) :
    ∃ v' w', (Builtin.append_ #[31, 31] ty #[v, .slice (some ⟨bx, 0, none⟩) 1 1]).run Try.prog w = .ok v' w' ∧ HMi (w'.setCell ⟨p, o, none⟩ v') p o (c.set o v') v' (L ++ [x]) ∧ Fr (fun k => v.ownBlock = some k) w w' ∧ Fr (fun k => k = p ∨ v.ownBlock = some k) w (w'.setCell ⟨p, o, none⟩ v') ∧ (∀ g, v'.ownBlock = some g → v.ownBlock = some g ∨ w.heap.size ≤ g) ∧ ∃ g cap, v' = .slice (some ⟨g, 0, none⟩) (L.length + 1) cap := by
  obtain ⟨i, h1, h2, h3, h4⟩ := inf3_i
  obtain ⟨v', w', hr, ho, hg, hnil, ha⟩ := run_append_own_at (P := Try.prog) w 0 31 ty 87 i (.agg #[.int .u64 0, .int .u64 0, .int .i64 0]) 3 24 Try.underlying31 h1 h2 h3 h4 rfl (by decide) v L.length (flatI L) h.own ⟨bx, 0, none⟩ 1 1 (flatI [x]) rfl (fun j u hu => by
    rw [Addr.add_mid]
    exact hb.cell _ _ (by simpa [flatI] using hu)) (fun u hu => icells_one hx u (by simpa [flatI] using hu)) (by unfold maxLen; omega) (by omega) (Nat.zero_le _)
  have hF : Fr (fun k => v.ownBlock = some k) w w' := Fr.of_grown hg (fun k e => .inl e)
  have hR := hF.row h.row h.ap
  have hlen : L.length + 1 = (L ++ [x]).length := by simp
  rw [← flatI_app, hlen] at ho
  have hn : ∀ g, v'.ownBlock = some g → v.ownBlock = some g ∨ w.heap.size ≤ g := fun g e => by
    rcases ha with e' | e'
    · exact .inl (e' ▸ e)
    · rw [e'] at e
      injection e with e
      exact .inr (Nat.le_of_eq e)
  have hne : v'.ownBlock ≠ some p := fun e => by
    rcases hn p e with e | e
    · exact h.ap e
    · have := h.row.lt; omega
  have hol : o < c.length := (List.getElem?_eq_some_iff.1 h.get).1
  refine ⟨v', w', hr, ⟨hR.set o v', by rw [List.getElem?_set_self hol], (Fr.own (S := fun j => j = p) ((Fr.refl _ w').setCell p o v' (.inl rfl)) ho (fun g e e' => hne (e' ▸ e))), ?_⟩, hF, ((hF.wider (fun _ e => .inr e)).setCell p o v' (.inl (.inl rfl))), hn, ?_⟩
  · intro y hy
    rcases List.mem_append.1 hy with e | e
    · exact h.one y e
    · simp at e; rw [e]; exact hx
  · rcases ho.2 with ⟨rfl, e⟩ | ⟨g, cap, cur, rfl, _⟩
    · simp at e
    · exact ⟨g, cap, by rw [hlen]⟩
theorem bsl_i (w : World) (i j : Int) (u : Value) (hu : u.oneCell' = true) : (Instr.buildSlice 31 1 #[(0, .agg #[.int .u64 i, .int .u64 j, u])]).run Try.prog w = .ok (.slice (some ⟨w.heap.size, 0, none⟩) 1 1) (w.alloc (.cells #[.int .u64 i, .int .u64 j, u] 87)) := by
  cases u <;> first | kernel_rfl | (simp [Value.oneCell'] at hu)
/-- A store of an item. -/
theorem step_storeI_i {o : Oper} {a : Act} {w : World} {K : Act → World → Prop} {Q : Exit → Act → World → Prop} {x y : Operand} {b j : Nat} {it : It Value} (ho : o.op = .store 87 x y) (hx : a.eval x = .pointer (some ⟨b, j, none⟩)) (hy : a.eval y = .agg (icells it).toArray) (ht : w.there b j 3) (h1 : it.what.oneCell' = true)
    (h : K (a.put o.dst undef) (w.setCells b j (icells it))) : Oper.wp Try.prog o a w K Q :=
  wp_store_mid 87 x y ho b j (icells it).toArray hx hy ht info_i (all_oneCell_toArray (icells_one h1)) h
end Go.Proofs.Ytoeldomhkeancaa
