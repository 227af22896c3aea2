import Derived.Test.YtjbjaklbckhodabSort2
namespace Go.Proofs.Ytjbjaklbckhodab
open Go.RowKit
set_option maxRecDepth 100000

/-- The second list's type does not matter, as long as it is a slice too. -/
theorem append_two {w : World} {t u ty e : TypeId} {i : TypeInfo} (ht : Try.prog.underlying t = some (.slice e)) (hu : Try.prog.underlying u = some (.slice e)) (hi : Try.prog.info? e = some i) (b : Option Addr) (n c : Nat) (x : Value) :
    (Builtin.append_ #[t, u] ty #[.slice b n c, x]).run Try.prog w = (Builtin.append_ #[t, t] ty #[.slice b n c, x]).run Try.prog w := by
  simp [Builtin.append_, run_underlying ht, run_underlying hu, sizeOf, typeInfo, hi]
theorem append_nothing {w : World} {base : Nat} {t ty : TypeId} (ht : Try.prog.underlying t = some (.slice 25)) {v : Value} {A : List Rg} (hown : w.ownsRow base 25 2 v A.length (flat A)) (c : Nat) : (Builtin.append_ #[t, t] ty #[v, .slice none 0 c]).run Try.prog w = .ok v w := by
  obtain ⟨i0, hi, hz0, hz1, hz2⟩ := info_parts info29'
  rcases hown.2 with ⟨rfl, _⟩ | ⟨g, cap, cur, rfl, _, _, hc, _⟩
  · simp [Builtin.append_, run_underlying ht, sizeOf, typeInfo, hi, Builtin.lenOf, Builtin.firstCells]
  · simp [Builtin.append_, run_underlying ht, sizeOf, typeInfo, hi, Builtin.lenOf, Builtin.firstCells, storeCells, hc]
/-- A list of ranges behind an own row. -/
theorem wpAppendR {w : World} {ops : Array Oper} {rest : List Oper} {o : Oper} {a : Act} {Q : Exit → Act → World → Prop} (hgd : o.guard = none) (s x : Operand) {t u : TypeId} (ht : Try.prog.underlying t = some (.slice 25)) (hu : Try.prog.underlying u = some (.slice 25)) (ho : o.op = .call { callee := .builtin .append, args := #[s, x], argTypes := #[t, u] })
    {base : Nat} {v : Value} {A B : List Rg} {ax : Option Addr} {cx : Nat} (hs : a.eval s = v) (hown : w.ownsRow base 25 2 v A.length (flat A)) (hx : a.eval x = .slice ax B.length cx) (C : Cells w ax B) (hl : (A.length + B.length) * 16 ≤ 140737488355328) (hb : base ≤ w.heap.size)
    (h : ∀ v' w', w'.ownsRow base 25 2 v' (A ++ B).length (flat (A ++ B)) → w.grownBy w' v.ownBlock → (v'.ownBlock = v.ownBlock ∨ v'.ownBlock = some w.heap.size) → wpList Try.prog ops Q rest (a.put o.dst v') w') : wpList Try.prog ops Q (o :: rest) a w := by
  have key : ∃ v' w', (Builtin.append_ #[t, u] o.type #[v, .slice ax B.length cx]).run Try.prog w = .ok v' w' ∧ w'.ownsRow base 25 2 v' (A ++ B).length (flat (A ++ B)) ∧ w.grownBy w' v.ownBlock ∧ (v'.ownBlock = v.ownBlock ∨ v'.ownBlock = some w.heap.size) := by
    obtain ⟨i0, hi, hz0, hz1, hz2⟩ := info_parts info29'
    obtain ⟨va, vc, rfl, _⟩ := owns_shape hown
    rw [append_two ht hu hi]
    cases ax with
    | none =>
      have hB : B = [] := by
        by_cases e : B = []
        · exact e
        · obtain ⟨ad, e, _⟩ := C.row e; cases e
      subst hB
      refine ⟨_, w, append_nothing ht hown cx, by simpa using hown, ⟨rfl, rfl, rfl, Nat.le_refl _, fun _ _ _ => rfl⟩, .inl rfl⟩
    | some ad =>
      obtain ⟨v', w', hr, k1, k2, _, k3⟩ := run_append_own_at (P := Try.prog) w base t o.type 25 i0 (.agg #[.int .u64 0, .int .u64 0]) 2 16 ht hi hz0 hz1 hz2 rfl (by decide) _ A.length (flat A) hown ad B.length cx (flat B) (length_flat B) (fun j y hj => by
          obtain ⟨ad', e, hc⟩ := C.row (fun e => by subst e; simp [flat] at hj)
          simp only [Option.some.injEq] at e
          subst e
          exact hc j y hj) (flat_one B) (by unfold maxLen; omega) hl hb
      exact ⟨v', w', hr, by rw [List.length_append, flat_append]; exact k1, k2, k3⟩
  obtain ⟨v', w', hr, k1, k2, k3⟩ := key
  refine wpList_plain hgd fun K hK => ?_
  unfold Oper.wp execOp
  simp only [ho, resolve, invoke, builtin, Sem.run_bind, Sem.run_pure, Result.andThen_ok, List.map_toArray, List.map_cons, List.map_nil, hs, hx, hr]
  exact hK _ _ (h v' w' k1 k2 k3)

/-- Is a number there? -/
def hasB (L : List Rg) (x : Int) : Bool := L.any fun r => decide (r.1 ≤ x) && decide (x < r.2)
theorem hasB_iff (L : List Rg) (x : Int) : hasB L x = true ↔ mem L x := by
  unfold hasB mem
  simp [List.any_eq_true]
theorem hasB_snoc (L : List Rg) (k : Nat) (hk : k < L.length) (x : Int) : hasB (L.take (k + 1)) x = (hasB (L.take k) x || (decide (L[k].1 ≤ x) && decide (x < L[k].2))) := by
  unfold hasB
  rw [List.take_succ_eq_append_getElem hk, List.any_append]
  simp
theorem hasB_at (L : List Rg) (k : Nat) (hk : k < L.length) (x : Int) (h1 : L[k].1 ≤ x) (h2 : x < L[k].2) : hasB L x = true :=
  (hasB_iff L x).2 ⟨L[k], List.getElem_mem hk, h1, h2⟩

theorem own_cells {w : World} {B : Nat} {v : Value} {L : List Rg} (h : w.ownsRow B 25 2 v L.length (flat L)) : ∃ a cap, v = .slice a L.length cap ∧ Cells w a L := by
  rcases h.2 with ⟨rfl, hn⟩ | ⟨g, cap, cur, rfl, _, hg, hnc, hcm, hcs, htk⟩
  · exact ⟨none, 0, by rw [hn], ⟨fun e => absurd (List.eq_nil_of_length_eq_zero hn) e⟩⟩
  · refine ⟨some ⟨g, 0, none⟩, cap, rfl, ⟨fun _ => ⟨_, rfl, fun j v hj => ?_⟩⟩⟩
    have hjl : j < L.length * 2 := by rw [← length_flat L]; exact (List.getElem?_eq_some_iff.1 hj).1
    rw [Addr.add_lit, Nat.zero_add, cell_of_row w g _ _ _ _ hg]
    rw [← htk, List.getElem?_take_of_lt hjl] at hj
    simpa using hj
theorem of_is {L P : List Rg} (hw : ∀ r ∈ L, 0 ≤ r.1 ∧ r.2 ≤ 18446744073709551615) (hP : P.Perm (L.filter fun r => decide (r.1 < r.2))) (hp : P.Pairwise (fun a b => a.1 ≤ b.1)) : Fit (ofL P) ∧ ∀ y, mem (ofL P) y ↔ mem L y := by
  have h0 : ∀ r ∈ P, 0 ≤ r.1 ∧ r.1 < r.2 ∧ r.2 ≤ 18446744073709551615 := fun r hr => by
    have h := List.mem_filter.1 (hP.mem_iff.1 hr)
    have := hw r h.1
    have h2 := h.2
    simp only [decide_eq_true_eq] at h2
    omega
  have hs := of_so h0 hp P.length (Nat.le_refl _)
  rw [List.take_length] at hs
  refine ⟨hs.fit, fun y => (hs.is y).trans ?_⟩
  unfold mem
  constructor
  · rintro ⟨r, hr, h⟩
    exact ⟨r, (List.mem_filter.1 (hP.mem_iff.1 hr)).1, h⟩
  · rintro ⟨r, hr, h1, h2⟩
    exact ⟨r, hP.mem_iff.2 (List.mem_filter.2 ⟨hr, by simp; omega⟩), h1, h2⟩
theorem plus_is {L P : List Rg} {r : Rg} (F : Fit L) (h0 : 0 ≤ r.1) (h1 : r.2 ≤ 18446744073709551615) (hP : P.Perm ((L ++ [r]).filter fun r => decide (r.1 < r.2))) (hp : P.Pairwise (fun a b => a.1 ≤ b.1)) : ofL P = addL L r := by
  have h := of_is (fun t ht => by
    rcases List.mem_append.1 ht with ht | ht
    · have := F.1 t ht; omega
    · rw [List.mem_singleton.1 ht]; exact ⟨h0, h1⟩) hP hp
  refine fit_ext _ _ h.1 (addL_fit F r h0 h1) (fun y => (h.2 y).trans ?_)
  rw [addL_mem F]
  unfold mem
  constructor
  · rintro ⟨t, ht, h⟩
    rcases List.mem_append.1 ht with ht | ht
    · exact .inl ⟨t, ht, h⟩
    · rw [List.mem_singleton.1 ht] at h; exact .inr h
  · rintro (⟨t, ht, h⟩ | h)
    · exact ⟨t, List.mem_append_left _ ht, h⟩
    · exact ⟨r, List.mem_append_right _ (List.mem_singleton.2 rfl), h⟩

set_option maxHeartbeats 1000000 in
/-- The reference's Plus. -/
theorem rplus_any {w : World} {a : Option Addr} {cap : Nat} {L : List Rg} (C : Cells w a L) (F : Fit L) (hf : (L.length + 1) * 16 ≤ 140737488355328) (r : Rg) (h0 : 0 ≤ r.1) (h1 : r.2 ≤ 18446744073709551615) :
    Calls Try.prog 32 #[.slice a L.length cap, .agg #[.int .u64 r.1, .int .u64 r.2]] w fun e w' => ∃ v, e = .returned v ∧ w'.ownsRow w.heap.size 25 2 v (addL L r).length (flat (addL L r)) ∧ Below w.heap.size w w' := by
  obtain ⟨i0, hi, hz0, hz1, hz2⟩ := info_parts info29'
  have HPL := hid (fun P => plus_is (P := P) F h0 h1)
  have HWW : Hid (∀ t ∈ L ++ [r], 0 ≤ t.1 ∧ t.2 ≤ 18446744073709551615) := fun t ht => by
    rcases List.mem_append.1 ht with ht | ht
    · have := F.1 t ht; omega
    · rw [List.mem_singleton.1 ht]; exact ⟨h0, h1⟩
  have HC := hid C
  clear C F
  obtain ⟨rl, rh⟩ := r
  simp only at h0 h1 ⊢
  have HBX := hid (below_box w (.cells #[.int .u64 rl, .int .u64 rh] 25))
  have HC1 := hid (HC.out.kept HBX.out)
  have b0 := (box_cells w (.int .u64 rl) (.int .u64 rh)).1
  have b1 := (box_cells w (.int .u64 rl) (.int .u64 rh)).2
  go_enter Try.func32, Try.ntmps32
  go_upto_region 3 with (at_builtin; refine wpAppendR rfl _ _ Try.underlying22 Try.underlying30 rfl (base := w.heap.size) (A := []) (B := L) rfl (World.ownsRow_nil _ _ _ _) rfl HC1.out (by simp; omega) HBX.out.size ?_; intro v2 w2 ho2 hg2 _; have HO2 := hid ho2; have HG2 := hid hg2; clear ho2 hg2)
  have hg2 : (w.alloc (.cells #[.int .u64 rl, .int .u64 rh] 25)).grownBy w2 none := HG2.out
  have HB2 := hid (HBX.out.trans ((grown_below hg2).mono HBX.out.size))
  have d0 := cell_kept (grown_below hg2) b0
  have d1 := cell_kept (grown_below hg2) b1
  have HO : Hid (w2.ownsRow w.heap.size 25 2 v2 L.length (flat L)) := HO2.out
  clear hg2 HG2 HO2 b0 b1 HC1 HC HBX
  go_wp2_with (first | (at_builtin; refine wpList_append_own_at _ rfl _ _ 22 rfl w.heap.size 25 i0 (.agg #[.int .u64 0, .int .u64 0]) 2 16 Try.underlying22 hi hz0 hz1 hz2 rfl (by decide) v2 L.length (flat L) rfl (World.ownsRow.alloc HO.out _) ⟨w2.heap.size, 0, none⟩ 1 1 [.int .u64 rl, .int .u64 rh] rfl rfl (box_range w2 25 _) (pair_one rl rh) (by unfold maxLen; omega) (by omega) (by have := HB2.out.size; simp; omega) ?_; intro v3 w3 ho3 hg3 _ _; have HO3 := hid ho3; have HG3 := hid hg3; clear ho3 hg3) | fail)
  have ho3 : w3.ownsRow w.heap.size 25 2 v3 (L ++ [(rl, rh)]).length (flat (L ++ [(rl, rh)])) := by
    rw [List.length_append, flat_append, flat_cons]
    exact HO3.out
  have HB3 : Hid (Below w.heap.size w w3) := (HB2.out.trans ((below_box w2 _).mono HB2.out.size)).grown HG3.out (by have := HB2.out.size; simp; omega) (fun y e => own_ge HO.out e)
  obtain ⟨a3, c3, rfl, hC3⟩ := own_cells ho3
  refine (of_any sorted_said hC3 (by simp; omega) HWW.out).mono ?_
  rintro e w4 ⟨v4, P, rfl, hP, hp, ho4, hb4⟩
  have HE : Hid (w4.ownsRow w.heap.size 25 2 v4 (addL L (rl, rh)).length (flat (addL L (rl, rh)))) := by
    have e := HPL.out P hP hp
    rw [e] at ho4
    exact owns_mono ho4 HB3.out.size
  have HB4 := hid (HB3.out.trans (hb4.mono HB3.out.size))
  clear ho3 hC3 hP hp ho4 hb4 HO3 HG3 HPL HWW
  go_wp2_with fail
  go_ret
  exact ⟨_, rfl, HE.out, HB4.out⟩
end Go.Proofs.Ytjbjaklbckhodab
