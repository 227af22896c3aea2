import Derived.Test.YtbkfmknjbdonlaaHeard
namespace Go.Proofs.Ytbkfmknjbdonlaa
open Go.RowKit Go.Maps
set_option maxRecDepth 100000

/-- Ranges that lie from an address on. -/
def RgsAt (w : World) (a : Option Addr) (L : List Rg) : Prop := ∀ k (h : k < L.length), ∃ g o, a = some ⟨g, o, none⟩ ∧ w.cell? ⟨g, o + k * 2, none⟩ = some (.int .u64 L[k].1) ∧ w.cell? ⟨g, o + k * 2 + 1, none⟩ = some (.int .u64 L[k].2)
theorem RgsAt.kept {w w' : World} {a : Option Addr} {L : List Rg} (h : RgsAt w a L) (hb : Below w.heap.size w w') : RgsAt w' a L := fun k hk => by
  obtain ⟨g, o, e, h1, h2⟩ := h k hk
  exact ⟨g, o, e, rcell_kept hb h1, rcell_kept hb h2⟩
theorem RgsAt.cells {w : World} {a : Option Addr} {L : List Rg} (h : RgsAt w a L) : Cells w a L := by
  refine ⟨fun hne => ?_⟩
  have h0 : 0 < L.length := List.length_pos_iff.2 hne
  obtain ⟨g, o, rfl, _⟩ := h 0 h0
  refine ⟨_, rfl, fun j v hj => ?_⟩
  have hlt : j < L.length * 2 := by
    have := (List.getElem?_eq_some_iff.1 hj).1
    rwa [length_flat] at this
  obtain ⟨g', o', e, h1, h2⟩ := h (j / 2) (by omega)
  simp only [Option.some.injEq, Addr.mk.injEq, and_true] at e
  obtain ⟨rfl, rfl⟩ := e
  have hf := flat_get L (j / 2) (by omega)
  rw [Addr.add_lit]
  by_cases hp : j % 2 = 0
  · rw [show j / 2 * 2 = j by omega] at hf h1
    rw [hf.1] at hj
    cases hj
    exact h1
  · rw [show j / 2 * 2 + 1 = j by omega] at hf
    rw [show o + j / 2 * 2 + 1 = o + j by omega] at h2
    rw [hf.2] at hj
    cases hj
    exact h2
/-- Is a number in one of these ranges? -/
def inB (L : List Rg) (n : Int) : Bool := L.any fun r => decide (r.1 ≤ n) && decide (n < r.2)
theorem inB_iff (L : List Rg) (n : Int) : inB L n = true ↔ mem L n := by
  unfold inB mem
  rw [List.any_eq_true]
  simp
theorem inB_snoc (L : List Rg) (k : Nat) (h : k < L.length) (n : Int) : inB (L.take (k + 1)) n = (inB (L.take k) n || (decide (L[k].1 ≤ n) && decide (n < L[k].2))) := by
  unfold inB
  rw [List.take_succ_eq_append_getElem h, List.any_append]
  simp
set_option maxHeartbeats 4000000 in
theorem told_any {w : World} {base : Nat} {v : Value} {A : List It} (hr : w.ownsRow base 60 5 v A.length (flatI A)) {a : Option Addr} {cap : Nat} {L : List Rg} (C : RgsAt w a L) (al : Bool) (hA : A.length ≤ 140737488355328) (hL : L.length ≤ 140737488355328) (hyp : ∀ x ∈ A, inB L x.num = al) :
    Calls Try.prog 30 #[v, .slice a L.length cap, .bool al] w fun e w' => e = .returned (.bool true) ∧ Below w.heap.size w w' := by
  obtain ⟨av, capv, rfl, hv⟩ := own_view hr
  have HV := hid hv
  have HC := hid C
  have HY := hid hyp
  clear hv C hyp hr
  go_enter Try.func30, Try.ntmps30
  go_wp2
  go_loopw [14] (fun s14 wr => ∃ k : Nat, k ≤ A.length ∧ s14 = .int .i64 k ∧ Below w.heap.size w wr) (fun s _ => A.length - (intOf s).toNat)
  case atStart => exact ⟨0, Nat.zero_le _, rfl, Below.refl _ _⟩
  case round =>
    obtain ⟨k, hk, rfl, hb⟩ := hrel
    have HB := hid hb
    clear hb
    by_cases hlt : k < A.length
    · obtain ⟨g, rfl, _, c0, c1, c2, c3, c4⟩ := HV.out k hlt
      have d0 := rcell_kept HB.out c0
      have d1 := rcell_kept HB.out c1
      have d2 := rcell_kept HB.out c2
      have d3 := rcell_kept HB.out c3
      have d4 := rcell_kept HB.out c4
      have HX := hid (HY.out A[k] (List.getElem_mem hlt))
      clear c0 c1 c2 c3 c4
      generalize A[k] = x at *
      obtain ⟨n, kk, o, l, t⟩ := x
      simp only at d0 d1 d2 d3 d4 HX
      have hki : (k : Int) < (A.length : Int) := by omega
      go_wp2_with fail
      obtain ⟨wo, hwo⟩ : ∃ wo, wo = wr.alloc (.cells #[.int .u64 n, .int .i64 kk, .int .u64 o, .int .i64 l, .int .u64 t] 60) := ⟨_, rfl⟩
      have HBO : Hid (Below w.heap.size w wo) := by rw [hwo]; exact HB.out.alloc HB.out.size _
      have HX0 : Hid (wo.cell? ⟨wr.heap.size, 0, none⟩ = some (.int .u64 n)) := by rw [hwo]; exact box_cell wr 60 _ 0 _ rfl
      have hnb : wr.heap.size < wo.heap.size := by rw [hwo]; simp
      rw [← hwo]
      clear hwo HB d0 d1 d2 d3 d4
      obtain ⟨bx, hbx⟩ : ∃ bx, bx = wr.heap.size := ⟨_, rfl⟩
      rw [← hbx] at HX0 ⊢
      clear hbx hnb
      go_loopw [9, 20] (fun s9 s20 wr => ∃ j : Nat, j ≤ L.length ∧ s20 = .int .i64 j ∧ s9 = .bool (inB (L.take j) n) ∧ Below wo.heap.size wo wr) (fun _ s _ => L.length - (intOf s).toNat)
      case atStart => exact ⟨0, Nat.zero_le _, rfl, rfl, Below.refl _ _⟩
      case round =>
        obtain ⟨j, hj, rfl, rfl, hb2⟩ := hrel
        have HB2 := hid hb2
        clear hb2
        by_cases hjl : j < L.length
        · obtain ⟨gl, ol, rfl, e0, e1⟩ := HC.out j hjl
          have x0 := rcell_kept HB2.out HX0.out
          have f0 := rcell_kept HB2.out (rcell_kept HBO.out e0)
          have f1 := rcell_kept HB2.out (rcell_kept HBO.out e1)
          have HS := hid (inB_snoc L j hjl n)
          clear e0 e1
          generalize L[j] = r at *
          obtain ⟨lo, hi⟩ := r
          simp only at f0 f1 HS
          have hji : (j : Int) < (L.length : Int) := by omega
          have HBR := hid (below_grow (Below.refl wr.heap.size wr) (.cells #[.int .u64 lo, .int .u64 hi] 58))
          have y0 := rcell_kept HBR.out x0
          cases hin : inB (L.take j) n
          · rw [hin] at HS
            by_cases h1 : lo ≤ n
            · have q1 : decide (lo ≤ n) = true := decide_eq_true h1
              go_wp2
              go_roundw
              case rel => exact ⟨j + 1, hjl, by first | go_num | (rw [Int.natCast_succ]), by rw [HS.out, q1]; simp, HB2.out.trans (HBR.out.mono HB2.out.size)⟩
              case measure => simp [intOf]; omega
            · have q1 : decide (lo ≤ n) = false := decide_eq_false h1
              go_wp2
              go_roundw
              case rel => exact ⟨j + 1, hjl, by first | go_num | (rw [Int.natCast_succ]), by rw [HS.out, q1]; simp, HB2.out.trans (HBR.out.mono HB2.out.size)⟩
              case measure => simp [intOf]; omega
          · rw [hin] at HS
            go_wp2
            go_roundw
            case rel => exact ⟨j + 1, hjl, by first | go_num | (rw [Int.natCast_succ]), by rw [HS.out]; simp, HB2.out.trans (HBR.out.mono HB2.out.size)⟩
            case measure => simp [intOf]; omega
        · have ej : j = L.length := by omega
          subst ej
          have hji : ¬ (L.length : Int) < (L.length : Int) := by omega
          rw [List.take_length, HX.out]
          go_wp2
          go_roundw
          case rel => exact ⟨k + 1, hlt, by first | go_num | (rw [Int.natCast_succ]), HBO.out.trans (HB2.out.mono HBO.out.size)⟩
          case measure => simp [intOf]; omega
    · have e : k = A.length := by omega
      subst e
      have hki : ¬ (A.length : Int) < (A.length : Int) := by omega
      go_wp2
      go_ret
      exact ⟨rfl, HB.out⟩
/-- A row of items behind another one. -/
theorem wpAppendI {w : World} {ops : Array Oper} {rest : List Oper} {o : Oper} {a : Act} {Q : Exit → Act → World → Prop} (hgd : o.guard = none) (s x : Operand) (ho : o.op = .call { callee := .builtin .append, args := #[s, x], argTypes := #[49, 49] })
    {base base' : Nat} {v u : Value} {A B : List It} (hs : a.eval s = v) (hown : w.ownsRow base 60 5 v A.length (flatI A)) (hx : a.eval x = u) (hu : w.ownsRow base' 60 5 u B.length (flatI B)) (hl : (A.length + B.length) * 40 ≤ 140737488355328) (hb : base ≤ w.heap.size)
    (h : ∀ v' w', w'.ownsRow base 60 5 v' (A ++ B).length (flatI (A ++ B)) → w.grownBy w' v.ownBlock → wpList Try.prog ops Q rest (a.put o.dst v') w') : wpList Try.prog ops Q (o :: rest) a w := by
  obtain ⟨i0, hi, hz0, hz1, hz2⟩ := info_parts info60
  rcases hu.2 with ⟨rfl, h0⟩ | ⟨g, cap, cur, rfl, h1, h2, h3, h4, h5, h6⟩
  · obtain rfl : B = [] := List.eq_nil_of_length_eq_zero h0
    have hr : (Builtin.append_ #[49, 49] o.type #[v, .slice none 0 0]).run Try.prog w = .ok v w := by
      rcases hown.2 with ⟨rfl, _⟩ | ⟨g, cap, cur, rfl, _, _, hc, _⟩
      · simp [Builtin.append_, run_underlying Try.underlying49, sizeOf, typeInfo, hi, Builtin.lenOf, Builtin.firstCells]
      · simp [Builtin.append_, run_underlying Try.underlying49, sizeOf, typeInfo, hi, Builtin.lenOf, Builtin.firstCells, storeCells, hc]
    refine wpList_plain hgd fun K hK => ?_
    unfold Oper.wp
    simp [execOp, ho, resolve, invoke, builtin, hs, hx, hr, Result.andThen]
    exact hK _ _ (h v w (by simpa using hown) ⟨rfl, rfl, rfl, Nat.le_refl _, fun _ _ _ => rfl⟩)
  · refine wpList_append_own w hgd s x 49 ho base 60 i0 (.agg #[.int .u64 0, .int .i64 0, .int .u64 0, .int .i64 0, .int .u64 0]) 5 40 Try.underlying49 hi hz0 hz1 hz2 rfl (by decide) v A.length (flatI A) hs hown ⟨g, 0, none⟩ B.length cap (flatI B) hx (flatI_len B) (fun j y hj => ?_) (flatI_one B) (by unfold maxLen; omega) hl hb (fun v' w' k1 k2 _ => h v' w' (by rw [List.length_append, flatI_append]; exact k1) k2)
    rw [Addr.add_lit, cell_of_row w g _ _ _ _ h2]
    have hjl : j < B.length * 5 := by rw [← flatI_len B]; exact (List.getElem?_eq_some_iff.1 hj).1
    rw [← h6, List.getElem?_take_of_lt hjl] at hj
    simpa using hj
end Go.Proofs.Ytbkfmknjbdonlaa
