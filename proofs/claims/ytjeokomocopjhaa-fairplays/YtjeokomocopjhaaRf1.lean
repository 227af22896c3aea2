import Derived.Test.YtjeokomocopjhaaRf0
import Derived.Test.YtjeokomocopjhaaFa13
namespace Go.Proofs.Ytjeokomocopjhaa
open Go.RowKit Go.Maps
set_option maxRecDepth 100000

theorem flatS_get {L : List Sm} {i j : Nat} (hi : i < L.length) (hj : j < 6) : (flatS L)[i * 6 + j]? = L[i].cells[j]? := by
  have e : L = L.take i ++ L[i] :: L.drop (i + 1) := by rw [← List.drop_eq_getElem_cons hi, List.take_append_drop]
  have hl : (L.take i).length = i := by simp; omega
  conv => lhs; rw [e]
  have := flatS_at (A := L.take i) (B := L.drop (i + 1)) (x := L[i]) hj
  rw [hl] at this
  exact this
set_option maxHeartbeats 1000000 in
theorem place_hit {w : World} {r : Nat} {vL : Value} {V : Nat → Value} {q : Int} {A B : List Sm} {x : Sm} {R : Nat → List Int} (h : RfAt w r vL V q (A ++ x :: B) R) (hA : ∀ a ∈ A, a.num ≠ x.num) (hl : (A ++ x :: B).length ≤ 2048) :
    Calls Try.prog 36 #[pt r 0, .int .u64 x.num] w fun e w' => e = .returned (.int .i64 A.length) ∧ w' = w := by
  have c1 := h.row.cell 1 _ rfl
  rcases lst_shape h.lst with ⟨_, e⟩ | ⟨g, cap, rfl, hlc, hcm, hgl, hcell, hfr⟩
  · simp at e
  have HC := hid2 hcell
  have HX : Hid (∀ j (hj : j < (A ++ x :: B).length), j < A.length → (A ++ x :: B)[j].num ≠ x.num) := fun j hj hjA => by rw [List.getElem_append_left hjA]; exact hA _ (List.getElem_mem _)
  have HY : Hid (∀ (hj : A.length < (A ++ x :: B).length), (A ++ x :: B)[A.length] = x) := fun hj => by simp
  have HZ : Hid (A.length < (A ++ x :: B).length) := by show _ < _; simp
  clear h hA hcell hfr hlc hcm hgl
  generalize A ++ x :: B = l at *
  have hli : (l.length : Int) ≤ 2048 := by omega
  clear hl
  go_enter Try.func36, Try.ntmps36
  go_wp2_with fail
  go_loopw [11] (fun s wr => ∃ k : Nat, k ≤ A.length ∧ s = .int .i64 k ∧ w = wr) (fun s _ => A.length + 1 - (intOf s).toNat)
  case atStart => exact ⟨0, Nat.zero_le _, rfl, rfl⟩
  case round =>
    obtain ⟨k, hk, rfl, rfl⟩ := hrel
    have hlt : k < l.length := Nat.lt_of_le_of_lt hk HZ.out
    have hki : (k : Int) < (l.length : Int) := by omega
    have hcl := HC.out (k * 6 + 0) _ (flatS_get hlt (by decide))
    rw [Nat.add_zero] at hcl
    by_cases e : k = A.length
    · subst e
      rw [HY.out hlt] at hcl
      go_wp2_with fail
      go_ret
      exact ⟨by first | rfl | simp, rfl⟩
    · have hne : ¬ l[k].num = x.num := HX.out k hlt (by omega)
      generalize l[k].num = y at *
      go_wp2_with fail
      go_roundw
      case rel => exact ⟨k + 1, by omega, by go_num, by first | rfl | trivial⟩
      case measure => simp [intOf]; omega
set_option maxHeartbeats 1000000 in
theorem place_miss {w : World} {r : Nat} {vL : Value} {V : Nat → Value} {q : Int} {l : List Sm} {R : Nat → List Int} (h : RfAt w r vL V q l R) {id : Int} (hA : ∀ a ∈ l, a.num ≠ id) (hl : l.length ≤ 2048) :
    Calls Try.prog 36 #[pt r 0, .int .u64 id] w fun e w' => e = .returned (.int .i64 (-1)) ∧ w' = w := by
  have c1 := h.row.cell 1 _ rfl
  have hli : (l.length : Int) ≤ 2048 := by omega
  rcases lst_shape h.lst with ⟨rfl, e⟩ | ⟨g, cap, rfl, hlc, hcm, hgl, hcell, hfr⟩
  · subst e
    clear h hA
    go_enter Try.func36, Try.ntmps36
    go_wp2_with fail
    refine wp_loop_rounds 1 ?_
    rw [rounds_succ]
    go_wp2_with fail
    go_ret
    exact ⟨by first | rfl | simp, rfl⟩
  have HC := hid2 hcell
  have HX : Hid (∀ j (hj : j < l.length), l[j].num ≠ id) := fun j hj => hA _ (List.getElem_mem _)
  clear h hA hcell hfr hlc hcm hgl hl
  go_enter Try.func36, Try.ntmps36
  go_wp2_with fail
  go_loopw [11] (fun s wr => ∃ k : Nat, k ≤ l.length ∧ s = .int .i64 k ∧ w = wr) (fun s _ => l.length + 1 - (intOf s).toNat)
  case atStart => exact ⟨0, Nat.zero_le _, rfl, rfl⟩
  case round =>
    obtain ⟨k, hk, rfl, rfl⟩ := hrel
    by_cases hlt : k < l.length
    · have hki : (k : Int) < (l.length : Int) := by omega
      have hcl := HC.out (k * 6 + 0) _ (flatS_get hlt (by decide))
      rw [Nat.add_zero] at hcl
      have hne : ¬ l[k].num = id := HX.out k hlt
      generalize l[k].num = y at *
      go_wp2_with fail
      go_roundw
      case rel => exact ⟨k + 1, by omega, by go_num, by first | rfl | trivial⟩
      case measure => simp [intOf]; omega
    · obtain rfl : k = l.length := by omega
      have hki : ¬ (l.length : Int) < (l.length : Int) := by omega
      go_wp2_with fail
      go_ret
      exact ⟨by first | rfl | simp, rfl⟩
theorem rbuild66 (w : World) (q : Int) : (Instr.build 66 #[(0, .int .i64 q)]).run Try.prog w = .ok (.agg #[.int .i64 q, .slice none 0 0, .slice none 0 0, .slice none 0 0, .slice none 0 0, .slice none 0 0, .slice none 0 0, .slice none 0 0, .slice none 0 0, .slice none 0 0]) w := by kernel_rfl
set_option maxHeartbeats 1000000 in
theorem rnew_any (w : World) (quantum : Int) : Calls Try.prog 15 #[.int .i64 quantum] w fun e w' => ∃ r, e = .returned (pt r 0) ∧ RfAt w' r (.slice none 0 0) (fun _ => .slice none 0 0) (qN quantum) [] (fun _ => []) ∧ Below w.heap.size w w' ∧ w.heap.size ≤ r ∧ r < w'.heap.size := by
  have hb := rbuild66
  have HEND : Hid (∀ q, RfAt (w.alloc (.cells #[.int .i64 q, .slice none 0 0, .slice none 0 0, .slice none 0 0, .slice none 0 0, .slice none 0 0, .slice none 0 0, .slice none 0 0, .slice none 0 0, .slice none 0 0] 66)) w.heap.size (.slice none 0 0) (fun _ => .slice none 0 0) q [] (fun _ => []) ∧ Below w.heap.size w (w.alloc (.cells #[.int .i64 q, .slice none 0 0, .slice none 0 0, .slice none 0 0, .slice none 0 0, .slice none 0 0, .slice none 0 0, .slice none 0 0, .slice none 0 0, .slice none 0 0] 66)) ∧ w.heap.size < (w.alloc (.cells #[.int .i64 q, .slice none 0 0, .slice none 0 0, .slice none 0 0, .slice none 0 0, .slice none 0 0, .slice none 0 0, .slice none 0 0, .slice none 0 0, .slice none 0 0] 66)).heap.size) := fun q =>
    ⟨⟨Row.new w (rcells q (.slice none 0 0) (fun _ => .slice none 0 0)) 66, ⟨rfl, .inl ⟨rfl, rfl⟩⟩, fun k _ => ⟨rfl, .inl ⟨rfl, rfl⟩⟩, fun j k _ _ _ g e => by simp [Value.ownBlock] at e⟩, below_box w _, by simp⟩
  by_cases h1 : quantum < 1
  · have hq : qN quantum = 1 := by unfold qN; omega
    rw [hq]
    go_enter Try.func15, Try.ntmps15
    go_wp2_with fail
    go_ret
    exact ⟨_, rfl, (HEND.out _).1, (HEND.out _).2.1, Nat.le_refl _, (HEND.out _).2.2⟩
  · by_cases h2 : 65536 < quantum
    · have hq : qN quantum = 65536 := by unfold qN; omega
      rw [hq]
      go_enter Try.func15, Try.ntmps15
      go_wp2_with fail
      go_ret
      exact ⟨_, rfl, (HEND.out _).1, (HEND.out _).2.1, Nat.le_refl _, (HEND.out _).2.2⟩
    · have hq : qN quantum = quantum := by unfold qN; omega
      rw [hq]
      go_enter Try.func15, Try.ntmps15
      go_wp2_with fail
      go_ret
      exact ⟨_, rfl, (HEND.out _).1, (HEND.out _).2.1, Nat.le_refl _, (HEND.out _).2.2⟩
theorem wpList_append_by {P : Program} {w : World} {ops : Array Oper} {rest : List Oper} {o : Oper} {a : Act} {Q : Exit → Act → World → Prop} (hgd : o.guard = none) (s x : Operand) (t : TypeId)
    (ho : o.op = .call { callee := .builtin .append, args := #[s, x], argTypes := #[t, t] }) {v u v' : Value} {w' : World} (hs : a.eval s = v) (hx : a.eval x = u)
    (hr : (Builtin.append_ #[t, t] o.type #[v, u]).run P w = .ok v' w') (h : wpList P ops Q rest (a.put o.dst v') w') : wpList P ops Q (o :: rest) a w :=
  wpList_plain hgd fun _ hK => wp_append_by s x t ho hs hx hr (hK _ _ h)
/-- A number behind an own row that is new. -/
theorem push_own {w : World} {base : Nat} {v : Value} {l : List Int} {x : Int} {bx : Nat} (h : w.ownsRow base 26 1 v l.length (ucells l)) (hbase : base ≤ w.heap.size) (hl : l.length ≤ 1125899906842) (hb : w.cell? ⟨bx, 0, none⟩ = some (.int .u64 x)) (ty : TypeId) :
    ∃ v' w', (Builtin.append_ #[54, 54] ty #[v, .slice (some ⟨bx, 0, none⟩) 1 1]).run Try.prog w = .ok v' w' ∧ w'.ownsRow base 26 1 v' (l ++ [x]).length (ucells (l ++ [x])) ∧ Fr (fun k => base ≤ k) w w' := by
  obtain ⟨i, h1, h2, h3, h4⟩ := info26
  obtain ⟨v', w', hr, ho, hg, _, ha⟩ := run_append_own_at (P := Try.prog) w base 54 ty 26 i (.int .u64 0) 1 8 Try.underlying54 h1 h2 h3 h4 rfl (by decide) v l.length (ucells l) h ⟨bx, 0, none⟩ 1 1 (ucells [x]) rfl (fun j u hu => by
    have hj : j < 1 := (List.getElem?_eq_some_iff.1 hu).1
    obtain rfl : j = 0 := by omega
    rw [Addr.add_mid, hb, ← hu]; rfl) (ucells_one _) (by unfold maxLen; omega) (by omega) hbase
  refine ⟨v', w', hr, ?_, Fr.of_grown hg (fun k e => .inl ?_)⟩
  · rw [← ucells_app] at ho
    rw [show (l ++ [x]).length = l.length + 1 by simp]
    exact ho
  · rcases h.2 with ⟨rfl, _⟩ | ⟨g', cap, cur, rfl, h5, _⟩
    · simp [Value.ownBlock] at e
    · simp [Value.ownBlock] at e; omega
def outL (l : List Int) (id : Int) : List Int := l.filter fun y => decide (y ≠ id)
set_option maxHeartbeats 2000000 in
/-- A number out of a row. -/
theorem out_any {w : World} {v : Value} {l : List Int} (h : OwnN w v l) (hl : l.length ≤ 2048) (id : Int) :
    Calls Try.prog 37 #[v, .int .u64 id] w fun e w' => ∃ v', e = .returned v' ∧ w'.ownsRow w.heap.size 26 1 v' (outL l id).length (ucells (outL l id)) ∧ Below w.heap.size w w' := by
  obtain ⟨a, cap, rfl, hlc, _, _, hc⟩ := own_slice h
  have HC := hid2 hc
  have hli : (l.length : Int) ≤ 2048 := by omega
  have hbs := bsl26
  have HL := hid2 hl
  clear h hc hlc hl
  go_enter Try.func37, Try.ntmps37
  go_wp2_with fail
  go_loopw [5, 10] (fun s5 s10 wr => ∃ k : Nat, k ≤ l.length ∧ s10 = .int .i64 k ∧ wr.ownsRow w.heap.size 26 1 s5 (outL (l.take k) id).length (ucells (outL (l.take k) id)) ∧ Below w.heap.size w wr) (fun _ s _ => l.length + 1 - (intOf s).toNat)
  case atStart => exact ⟨0, Nat.zero_le _, rfl, ⟨rfl, .inl ⟨rfl, rfl⟩⟩, Below.refl _ _⟩
  case round =>
    obtain ⟨k, hk, rfl, hO, hB⟩ := hrel
    have HO := hid2 hO
    have HB := hid2 hB
    clear hO hB
    by_cases hlt : k < l.length
    · have hki : (k : Int) < (l.length : Int) := by omega
      obtain ⟨g, rfl, hcell⟩ := HC.out k hlt
      have cA := cell_kept HB.out hcell
      have HT : Hid (l.take (k + 1) = l.take k ++ [l[k]]) := List.take_succ_eq_append_getElem hlt
      clear hcell
      by_cases e : l[k] = id
      · have HF : Hid (outL (l.take (k + 1)) id = outL (l.take k) id) := by
          show _ = _
          unfold outL
          rw [HT.out, List.filter_append]
          simp [e]
        rw [e] at cA
        go_wp2_with fail
        go_roundw
        case rel => exact ⟨k + 1, hlt, by go_num, by rw [HF.out]; exact HO.out, HB.out⟩
        case measure => simp [intOf]; omega
      · have HF : Hid (outL (l.take (k + 1)) id = outL (l.take k) id ++ [l[k]]) := by
          show _ = _
          unfold outL
          rw [HT.out, List.filter_append]
          simp [e]
        have hflen : (outL (l.take k) id).length ≤ 1125899906842 := by
          unfold outL
          have h1 := List.length_filter_le (fun y => decide (y ≠ id)) (l.take k)
          have h2 : (l.take k).length ≤ 2048 := by simp; have := HL.out; omega
          omega
        have HFL := hid2 hflen
        generalize l[k] = y at *
        have hbx := below_box wr (.cells #[.int .u64 y] 26)
        obtain ⟨v', w', hrun, hO', hF'⟩ := push_own (own_keep (S := fun _ => False) HO.out (Fr.of_below hbx (Nat.le_refl _)) (fun _ _ e => e)) (Nat.le_trans HB.out.size hbx.size) HFL.out (box_cells wr #[.int .u64 y] 26 0 _ rfl) 54
        have HO2 := hid2 hO'
        have HB2 : Hid (Below w.heap.size w w') := (HB.out.trans (hbx.mono HB.out.size)).trans (hF'.below (fun _ e => e) (Nat.le_trans HB.out.size hbx.size))
        have HRUN := hid2 hrun
        clear hO' hF' hbx hflen hrun
        go_wp2_with (at_builtin; refine wpList_append_by rfl (.tmp 17) (.tmp 19) 54 rfl rfl rfl HRUN.out ?_)
        go_roundw
        case rel => exact ⟨k + 1, hlt, by go_num, by rw [HF.out]; exact HO2.out, HB2.out⟩
        case measure => simp [intOf]; omega
    · obtain rfl : k = l.length := by omega
      have hki : ¬ (l.length : Int) < (l.length : Int) := by omega
      rw [List.take_length] at HO
      go_wp2_with fail
      go_ret
      exact ⟨_, rfl, HO.out, HB.out⟩
end Go.Proofs.Ytjeokomocopjhaa
