import Derived.Test.YtkcoabjeaoigdabRef2
import Derived.ArgAppend
namespace Go.Proofs.Ytkcoabjeaoigdab
open Go.RowKit Go.Sort
set_option maxRecDepth 100000

theorem info37 : ∃ i : TypeInfo, Try.prog.info? 37 = some i ∧ i.zero = some (.agg #[.int .i64 0, .int .i64 0, .bool false, .int .u64 0]) ∧ i.size = 4 ∧ i.bytes = 32 := by
  have h : (Try.prog.info? 37).map (fun i => (i.zero, i.size, i.bytes)) = some (some (.agg #[.int .i64 0, .int .i64 0, .bool false, .int .u64 0]), 4, 32) := by kernel_rfl
  cases hq : Try.prog.info? 37 with
  | none => rw [hq] at h; cases h
  | some i => rw [hq] at h; simp at h; exact ⟨i, rfl, h.1, h.2.1, h.2.2⟩
/-- A path's cells, as the document has them. -/
def pc (l : Ln) : List Value := [.int .i64 l.c, .int .i64 l.t, .bool l.on, .int .u64 l.r]
theorem append_p {base m : Nat} {w : World} {v : Value} {xs : List Value} (h : w.ownsRow base 37 4 v m xs) (hm : m ≤ 64) (hbase : base ≤ w.heap.size) (l : Ln) (ty : TypeId) :
    ∃ v' w', (Builtin.append_ #[33, 33] ty #[v, .slice (some ⟨w.heap.size, 0, none⟩) 1 1]).run Try.prog (w.alloc (.cells #[.int .i64 l.c, .int .i64 l.t, .bool l.on, .int .u64 l.r] 37)) = .ok v' w' ∧ w'.ownsRow base 37 4 v' (m + 1) (xs ++ pc l) ∧ Below base w w' := by
  obtain ⟨i, i1, i2, i3, i4⟩ := info37
  have hal := below_grow (Below.refl w.heap.size w) (.cells #[.int .i64 l.c, .int .i64 l.t, .bool l.on, .int .u64 l.r] 37)
  have h' : (w.alloc (.cells #[.int .i64 l.c, .int .i64 l.t, .bool l.on, .int .u64 l.r] 37)).ownsRow base 37 4 v m xs := h.alloc _
  have R := Row.new w (pc l) 37
  obtain ⟨v', w', hr, ho, hg, _⟩ := run_append_own (P := Try.prog) (w.alloc (.cells #[.int .i64 l.c, .int .i64 l.t, .bool l.on, .int .u64 l.r] 37)) base 33 ty 37 i (.agg #[.int .i64 0, .int .i64 0, .bool false, .int .u64 0]) 4 32 Try.underlying33 i1 i2 i3 i4 rfl (by decide) v m xs h' ⟨w.heap.size, 0, none⟩ 1 1 (pc l) rfl (fun j u hu => by
    rw [Addr.add_mid, Nat.zero_add]; exact R.cell j u hu) (by simp [pc, Value.oneCell']) (by unfold maxLen; omega) (by omega) (Nat.le_trans hbase hal.size)
  refine ⟨v', w', hr, ho, (hal.mono hbase).trans ⟨hg.os, hg.tape, hg.output, hg.size, fun k hk => hg.block k (by have := hal.size; omega) (fun e => ?_)⟩⟩
  obtain ⟨_, ⟨rfl, _⟩ | ⟨g, cap, cur, rfl, hbb, _⟩⟩ := h
  · cases e
  · simp only [Value.ownBlock, Option.some.injEq] at e
    omega
theorem wp_append_by {P : Program} {w : World} {o : Oper} {a : Act} {K : Act → World → Prop} {Q : Exit → Act → World → Prop} (s x : Operand) (t : TypeId)
    (ho : o.op = .call { callee := .builtin .append, args := #[s, x], argTypes := #[t, t] }) {v u v' : Value} {w' : World} (hs : a.eval s = v) (hx : a.eval x = u)
    (hr : (Builtin.append_ #[t, t] o.type #[v, u]).run P w = .ok v' w') (h : K (a.put o.dst v') w') : o.wp P a w K Q := by
  unfold Oper.wp execOp
  simp only [ho, resolve, invoke, builtin, Sem.run_bind, Sem.run_pure, Result.andThen_ok, List.map_toArray, List.map_cons, List.map_nil, hs, hx, hr]
  exact h
theorem wpList_append_by {P : Program} {w : World} {ops : Array Oper} {rest : List Oper} {o : Oper} {a : Act} {Q : Exit → Act → World → Prop} (hgd : o.guard = none) (s x : Operand) (t : TypeId)
    (ho : o.op = .call { callee := .builtin .append, args := #[s, x], argTypes := #[t, t] }) {v u v' : Value} {w' : World} (hs : a.eval s = v) (hx : a.eval x = u)
    (hr : (Builtin.append_ #[t, t] o.type #[v, u]).run P w = .ok v' w') (h : wpList P ops Q rest (a.put o.dst v') w') : wpList P ops Q (o :: rest) a w :=
  wpList_plain hgd fun _ hK => wp_append_by s x t ho hs hx hr (hK _ _ h)
/-- A list of paths, to be read. -/
structure LAt (w : World) (v : Value) (L : List Ln) : Prop where
  at_ : ∃ q cap, v = .slice (some ⟨q, 0, none⟩) L.length cap ∧ ∃ c, Row w q c 37 ∧ ∀ j (h : j < L.length), c[j * 4]? = some (.int .i64 L[j].c) ∧ c[j * 4 + 1]? = some (.int .i64 L[j].t) ∧ c[j * 4 + 2]? = some (.bool L[j].on) ∧ c[j * 4 + 3]? = some (.int .u64 L[j].r)
theorem flat_get (L : List Ln) : ∀ (j : Nat) (h : j < L.length) (i : Nat), i < 4 → (L.flatMap pc)[j * 4 + i]? = (pc L[j])[i]? := by
  induction L with
  | nil => intro j h; simp at h
  | cons l L ih =>
    intro j h i hi
    rw [List.flatMap_cons]
    cases j with
    | zero =>
      rw [Nat.zero_mul, Nat.zero_add, List.getElem?_append_left (by simp [pc]; omega)]
      rfl
    | succ j =>
      rw [List.getElem?_append_right (by simp [pc]; omega)]
      have := ih j (by simpa using h) i hi
      have e : (j + 1) * 4 + i - (pc l).length = j * 4 + i := by simp [pc]; omega
      rw [e, this]
      rfl
theorem lat_of {base : Nat} {w : World} {v : Value} {L : List Ln} (h : w.ownsRow base 37 4 v L.length (L.flatMap pc)) (hne : L ≠ []) : LAt w v L := by
  obtain ⟨h1, ⟨_, h2⟩ | ⟨g, cap, cur, rfl, hb, hh, hc, _, hs, ht⟩⟩ := h
  · exact absurd (List.length_eq_zero_iff.1 h2) hne
  · refine ⟨g, cap, rfl, cur.toList, ⟨by simpa using hh⟩, fun j hj => ?_⟩
    have hh2 : ∀ i, i < 4 → cur.toList[j * 4 + i]? = (pc L[j])[i]? := fun i hi => by
      rw [← flat_get L j hj i hi, ← ht, List.getElem?_take_of_lt (by omega)]
    exact ⟨hh2 0 (by omega), hh2 1 (by omega), hh2 2 (by omega), hh2 3 (by omega)⟩
set_option maxHeartbeats 1000000 in
theorem rcounts_any {w : World} {r q n : Nat} {D : Nat → Ln} (h : RAt w r q n D) :
    Calls Try.prog 30 #[.pointer (some ⟨r, 0, none⟩)] w fun e w' => ∃ v, e = .returned v ∧ w'.ownsRow w.heap.size 37 4 v (cl D n).length ((cl D n).flatMap pc) ∧ Below w.heap.size w w' := by
  have H := hid h
  have H8 := hid h.le
  clear h
  go_enter Try.func30, Try.ntmps30
  go_wp2
  go_loopw [3, 4] (fun l i wr => ∃ (k : Nat) (vv : Value), k ≤ n ∧ i = .int .i64 k ∧ vv = l ∧ wr.ownsRow w.heap.size 37 4 vv (cl D k).length ((cl D k).flatMap pc) ∧ Below w.heap.size w wr) (fun _ i _ => n - (intOf i).toNat)
  case atStart => exact ⟨0, _, Nat.zero_le _, rfl, rfl, ⟨rfl, .inl ⟨rfl, rfl⟩⟩, Below.refl _ _⟩
  case round =>
    obtain ⟨k, vv, hk, rfl, rfl, how, hb⟩ := hrel
    have HO := hid how
    have HB := hid hb
    clear how hb
    have HR := hid (H.out.kept HB.out)
    obtain ⟨cap, c0⟩ := HR.out.cell_hd
    by_cases hlt : k < n
    · have l1 : (k : Int) < (n : Int) := by omega
      have HK := hid hlt
      have hk2 : (k : Int) ≤ 8 := by have := H8.out; omega
      have a0 := HR.out.cell_c hlt
      have a1 := HR.out.cell_t hlt
      have a2 := HR.out.cell_on hlt
      have a3 := HR.out.cell_r hlt
      have hok := (HR.out.ok k hlt).r0
      cases hc : (D k).cnt with
      | true =>
        have hon : (D k).on = true := by unfold Ln.cnt at hc; simp at hc; exact hc.1
        have hr0 : 0 < (D k).r := by unfold Ln.cnt at hc; simp at hc; exact hc.2
        have dr : decide (0 < (D k).r) = true := decide_eq_true hr0
        have HCY : Hid ((cl D (k + 1)).length = (cl D k).length + 1 ∧ (cl D (k + 1)).flatMap pc = (cl D k).flatMap pc ++ pc (D k)) := by
          rw [cl_yes hc]
          exact ⟨by simp, by simp⟩
        obtain ⟨v', w', hr, ho, hbb⟩ := append_p HO.out (by have := cl_len D k; have := H8.out; omega) HB.out.size (D k) 33
        have HRR := hid hr
        have HO2 := hid ho
        have HB2 := hid (HB.out.trans hbb)
        rw [hon] at a2 HRR
        clear hr ho hbb hk hlt hc hr0 hok
        generalize (D k).c = c at *
        generalize (D k).t = t at *
        generalize (D k).r = rr at *
        go_wp2_with (first | (at_builtin; refine wpList_append_by rfl _ _ _ rfl rfl rfl HRR.out ?_))
        go_roundw
        case rel => exact ⟨k + 1, _, HK.out, by first | go_num | (rw [Int.natCast_succ]), rfl, by rw [HCY.out.1, HCY.out.2]; exact HO2.out, HB2.out⟩
        case measure =>
          simp [intOf]
          have := HK.out
          omega
      | false =>
        have HCY := hid (cl_no hc)
        cases hon : (D k).on with
        | false =>
          rw [hon] at a2
          clear hk hlt hc hok
          go_wp2
          go_roundw
          case rel => exact ⟨k + 1, _, HK.out, by first | go_num | (rw [Int.natCast_succ]), rfl, by rw [HCY.out]; exact HO.out, HB.out⟩
          case measure =>
            simp [intOf]
            have := HK.out
            omega
        | true =>
          rw [hon] at a2
          have dr : decide (0 < (D k).r) = false := by
            unfold Ln.cnt at hc
            rw [hon] at hc
            simpa using hc
          clear hk hlt hc hok
          go_wp2
          go_roundw
          case rel => exact ⟨k + 1, _, HK.out, by first | go_num | (rw [Int.natCast_succ]), rfl, by rw [HCY.out]; exact HO.out, HB.out⟩
          case measure =>
            simp [intOf]
            have := HK.out
            omega
    · have e1 : decide ((k : Int) < (n : Int)) = false := decide_eq_false (by omega)
      have e2 : decide (k < n) = false := decide_eq_false hlt
      have HKN : Hid (k = n) := by show _ = _; omega
      clear hlt hk
      go_wp2
      go_ret
      have ho := HO.out
      rw [HKN.out] at ho
      exact ⟨_, rfl, ho, HB.out⟩
end Go.Proofs.Ytkcoabjeaoigdab
