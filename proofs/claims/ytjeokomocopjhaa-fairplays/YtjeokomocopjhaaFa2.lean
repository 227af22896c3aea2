import Derived.Test.YtjeokomocopjhaaFa1
namespace Go.Proofs.Ytjeokomocopjhaa
open Go.RowKit Go.Maps
set_option maxRecDepth 100000

set_option maxHeartbeats 1000000 in
/-- slices.Index. -/
theorem index_hit {w : World} {v : Value} {A B : List Int} {x : Int} (h : OwnN w v (A ++ x :: B)) (hA : x ∉ A) (hl : (A ++ x :: B).length ≤ 1125899906842624) :
    Calls Try.prog 31 #[v, .int .u64 x] w fun e w' => e = .returned (.int .i64 A.length) ∧ w' = w := by
  obtain ⟨a, cap, rfl, hlc, _, _, hc⟩ := own_slice h
  have HC := hid2 hc
  have HX : Hid (∀ j (hj : j < (A ++ x :: B).length), j < A.length → (A ++ x :: B)[j] ≠ x) := fun j hj hjA e => hA (by rw [← e, List.getElem_append_left hjA]; exact List.getElem_mem _)
  have HY : Hid (∀ (hj : A.length < (A ++ x :: B).length), (A ++ x :: B)[A.length] = x) := fun hj => by simp
  have HZ : Hid (A.length < (A ++ x :: B).length) := by show _ < _; simp
  clear h hA hc hlc
  generalize A ++ x :: B = l at *
  have hli : (l.length : Int) ≤ 1125899906842624 := by omega
  clear hl
  go_enter Try.func31, Try.ntmps31
  go_wp2_with fail
  go_loopw [8] (fun s wr => ∃ k : Nat, k ≤ A.length ∧ s = .int .i64 k ∧ w = wr) (fun s _ => A.length + 1 - (intOf s).toNat)
  case atStart => exact ⟨0, Nat.zero_le _, rfl, rfl⟩
  case round =>
    obtain ⟨k, hk, rfl, rfl⟩ := hrel
    have hlt : k < l.length := Nat.lt_of_le_of_lt hk HZ.out
    have hki : (k : Int) < (l.length : Int) := by omega
    obtain ⟨g, rfl, hcell⟩ := HC.out k hlt
    by_cases e : k = A.length
    · subst e
      rw [HY.out hlt] at hcell
      go_wp2_with fail
      go_ret
      exact ⟨by first | rfl | simp, rfl⟩
    · have hne : ¬ x = l[k] := fun e1 => HX.out k hlt (by omega) e1.symm
      generalize l[k] = y at *
      go_wp2_with fail
      go_roundw
      case rel => exact ⟨k + 1, by omega, by go_num, by first | rfl | trivial⟩
      case measure => simp [intOf]; omega
set_option maxHeartbeats 1000000 in
theorem index_miss {w : World} {v : Value} {l : List Int} {x : Int} (h : OwnN w v l) (hA : x ∉ l) (hl : l.length ≤ 1125899906842624) :
    Calls Try.prog 31 #[v, .int .u64 x] w fun e w' => e = .returned (.int .i64 (-1)) ∧ w' = w := by
  obtain ⟨a, cap, rfl, hlc, _, _, hc⟩ := own_slice h
  have HC := hid2 hc
  have HX : Hid (∀ j (hj : j < l.length), l[j] ≠ x) := fun j hj e => hA (e ▸ List.getElem_mem hj)
  clear h hA hc hlc
  have hli : (l.length : Int) ≤ 1125899906842624 := by omega
  clear hl
  go_enter Try.func31, Try.ntmps31
  go_wp2_with fail
  go_loopw [8] (fun s wr => ∃ k : Nat, k ≤ l.length ∧ s = .int .i64 k ∧ w = wr) (fun s _ => l.length + 1 - (intOf s).toNat)
  case atStart => exact ⟨0, Nat.zero_le _, rfl, rfl⟩
  case round =>
    obtain ⟨k, hk, rfl, rfl⟩ := hrel
    by_cases hlt : k < l.length
    · have hki : (k : Int) < (l.length : Int) := by omega
      obtain ⟨g, rfl, hcell⟩ := HC.out k hlt
      have hne : ¬ x = l[k] := fun e1 => HX.out k hlt e1.symm
      generalize l[k] = y at *
      go_wp2_with fail
      go_roundw
      case rel => exact ⟨k + 1, by omega, by go_num, by first | rfl | trivial⟩
      case measure => simp [intOf]; omega
    · have e : k = l.length := by omega
      subst e
      have hki : ¬ (l.length : Int) < (l.length : Int) := by omega
      go_wp2_with fail
      go_ret
      exact ⟨by first | rfl | simp, rfl⟩

/-- append by its run. -/
theorem wp_append_by {P : Program} {w : World} {o : Oper} {a : Act} {K : Act → World → Prop} {Q : Exit → Act → World → Prop} (s x : Operand) (t : TypeId)
    (ho : o.op = .call { callee := .builtin .append, args := #[s, x], argTypes := #[t, t] }) {v u v' : Value} {w' : World} (hs : a.eval s = v) (hx : a.eval x = u)
    (hr : (Builtin.append_ #[t, t] o.type #[v, u]).run P w = .ok v' w') (h : K (a.put o.dst v') w') : o.wp P a w K Q := by
  unfold Oper.wp execOp
  simp only [ho, resolve, invoke, builtin, Sem.run_bind, Sem.run_pure, Result.andThen_ok, List.map_toArray, List.map_cons, List.map_nil, hs, hx, hr]
  exact h
theorem step_append_by {P : Program} {w : World} {ops : Array Oper} {o : Oper} {a : Act} {K : Act → World → Prop} {Q : Exit → Act → World → Prop} {E : Prop} (hgd : o.guard = none) (s x : Operand) (t : TypeId)
    (ho : o.op = .call { callee := .builtin .append, args := #[s, x], argTypes := #[t, t] }) {v u v' : Value} {w' : World} (hs : a.eval s = v) (hx : a.eval x = u)
    (hr : (Builtin.append_ #[t, t] o.type #[v, u]).run P w = .ok v' w') (h : K (a.put o.dst v') w') : if Region.wanted o (yielded ops a.tmps) = true then Oper.wp P o a w K Q else E := by
  have hw : Region.wanted o (yielded ops a.tmps) = true := by simp [Region.wanted, hgd]
  rw [if_pos hw]
  exact wp_append_by s x t ho hs hx hr h
/-- What the two steps of a Delete leave. -/
theorem del_runs {w : World} {g cap : Nat} {cur : Array Value} {A B : List Int} {x : Int} (hg : w.heap[g]? = some (.cells cur 26 (0, 0))) (hlc : (A ++ x :: B).length ≤ cap) (hcm : cap ≤ maxLen) (hcs : cur.size = cap) (htk : cur.toList.take (A ++ x :: B).length = ucells (A ++ x :: B)) (ty : TypeId) :
    ∃ W, (∀ a0 : Addr, (B = [] ∨ a0 = (⟨g, A.length + 1, none⟩ : Addr)) → ∀ c : Nat, (Builtin.append_ #[54, 54] ty #[.slice (some ⟨g, 0, none⟩) A.length cap, .slice (some a0) B.length c]).run Try.prog w = .ok (.slice (some ⟨g, 0, none⟩) (A.length + B.length) cap) W) ∧
      (∃ W2, (∀ ty2 c2, (Builtin.clear_ #[54] ty2 #[.slice (some ⟨g, A.length + B.length, none⟩) 1 c2]).run Try.prog W = .ok (.tuple #[]) W2) ∧ OwnN W2 (.slice (some ⟨g, 0, none⟩) (A.length + B.length) cap) (A ++ B) ∧ Fr (fun k => k = g) w W2) := by
  obtain ⟨i, h1, h2, h3, h4⟩ := info26
  have hn : (A ++ x :: B).length = A.length + B.length + 1 := by simp; omega
  have hl1 : (ucells B).length = B.length := ucells_len B
  have hfit : A.length * i.size + (ucells B).length ≤ cur.size := by rw [h3, hl1]; omega
  have hrun : ∀ a0 : Addr, (B = [] ∨ a0 = (⟨g, A.length + 1, none⟩ : Addr)) → ∀ c : Nat, _ := fun a0 ha c => run_append_room (P := Try.prog) w 54 ty 26 i Try.underlying54 h1 g A.length cap cur hg a0 B.length c (ucells B) (by rw [hl1, h3]; omega) (fun j u hu => by
    have hj : j < B.length := by have := (List.getElem?_eq_some_iff.1 hu).1; omega
    rcases ha with rfl | rfl
    · simp at hj
    · rw [Addr.add_mid, cell_of_row w g _ _ _ _ hg, ← Array.getElem?_toList, ← List.getElem?_take_of_lt (show A.length + 1 + j < (A ++ x :: B).length by omega), htk, ← hu]
      simp only [ucells, List.map_append, List.map_cons]
      rw [List.getElem?_append_right (by simp; omega)]
      simp only [List.length_map]
      rw [show A.length + 1 + j - A.length = j + 1 by omega, List.getElem?_cons_succ]) (ucells_one _) (by omega) hfit
  simp only [h3, Nat.mul_one, hl1] at hrun
  refine ⟨_, hrun, ?_⟩
  generalize hcur' : (cur.toList.take A.length ++ ucells B ++ cur.toList.drop (A.length + B.length)).toArray = cur'
  have hs' : cur'.size = cap := by
    rw [← hcur']
    simp only [List.size_toArray, List.length_append, List.length_take, List.length_drop, Array.length_toList, hl1]
    omega
  have htA : cur.toList.take A.length = ucells A := by
    have : (cur.toList.take (A ++ x :: B).length).take A.length = (ucells (A ++ x :: B)).take A.length := by rw [htk]
    rw [List.take_take, Nat.min_eq_left (by omega), ucells_app, List.take_left' (ucells_len A)] at this
    exact this
  have htk' : cur'.toList.take (A.length + B.length) = ucells (A ++ B) := by
    rw [← hcur', htA, ucells_app]
    exact List.take_left' (by simp [ucells])
  have hg' : (w.setRow g cur').heap[g]? = some (.cells cur' 26 (0, 0)) := setRow_heap w g cur cur' 26 (0, 0) hg
  have R : Row (w.setRow g cur') g cur'.toList 26 := ⟨by simpa using hg'⟩
  have hlt : A.length + B.length < cur'.toList.length := by have := cur'.length_toList; omega
  have hcl : ∀ ty2 c2, _ := fun ty2 c2 => Go.Lib.run_clear_slice (P := Try.prog) (w.setRow g cur') 54 26 ty2 (.int .u64 0) Try.underlying54 (fun w => by kernel_rfl) rfl rfl g (A.length + B.length) 1 c2 (by omega) (fun j hj => by
    obtain rfl : j = 0 := by omega
    rw [Nat.add_zero, R.cell _ _ (List.getElem?_eq_getElem hlt)]; rfl) (fun j _ => R.frozen _)
  refine ⟨_, hcl, ?_, ?_⟩
  · have R2 := R.set (A.length + B.length) (.int .u64 0)
    show World.ownsRow _ _ _ _ _ _ _
    rw [show (A ++ B).length = A.length + B.length by simp]
    refine ⟨by simp [ucells], .inr ⟨g, cap, _, rfl, Nat.zero_le _, R2.at_, by omega, hcm, by simp; omega, ?_⟩⟩
    rw [Nat.mul_one, ← htk', List.take_set_of_le (Nat.le_refl _)]
  · have h0 : Fr (fun k => k = g) w (w.setRow g cur') := ⟨rfl, rfl, rfl, by simp, fun k _ hk => setRow_other w g k _ hk⟩
    exact h0.setCell g _ _ (.inl rfl)
end Go.Proofs.Ytjeokomocopjhaa
