import Derived.Test.YtaklbofbhanjgaaDoorNw0
namespace Go.Proofs.YtaklbofbhanjgaaDoor
open Go.RowKit
set_option maxRecDepth 100000
/-- A Store: its set, its manifest, its body's cells. -/
structure StAt (w : World) (p : Nat) (v : Value) (m : Mf) (Y : List Value) (L : List Rg) : Prop where
  bv : BvAt w p v (m.cells ++ Y) L
  rt : m.rt.length = 32
  ok : fitE m = 0
section
variable {w w' : World} {p : Nat} {v : Value} {m : Mf} {Y : List Value} {L : List Rg}
theorem StAt.row (h : StAt w p v m Y L) : Row w p (v :: (m.cells ++ Y)) 65 := ⟨h.bv.hp⟩
theorem StAt.kept (h : StAt w p v m Y L) (hb : Below w.heap.size w w') : StAt w' p v m Y L := ⟨h.bv.kept hb, h.rt, h.ok⟩
theorem row_mid (h : Row w p (v :: (m.cells ++ Y)) 65) (j : Nat) (x : Value) (hx : m.cells[j]? = some x) : w.cell? ⟨p, 1 + j, none⟩ = some x := by
  refine h.cell (1 + j) x ?_
  have hj := (List.getElem?_eq_some_iff.1 hx).1
  rw [show 1 + j = j + 1 by omega, List.getElem?_cons_succ, List.getElem?_append_left hj]
  exact hx
theorem StAt.mid (h : StAt w p v m Y L) (j : Nat) (x : Value) (hx : m.cells[j]? = some x) : w.cell? ⟨p, 1 + j, none⟩ = some x := row_mid h.row j x hx
theorem row_root (h : Row w p (v :: (m.cells ++ Y)) 65) (j : Nat) (x : Value) (hx : (bcells m.rt)[j]? = some x) : w.cell? ⟨p, 4 + j, none⟩ = some x := by
  have := row_mid h (3 + j) x (by
    unfold Mf.cells
    rw [show 3 + j = j + 1 + 1 + 1 by omega]
    simpa using hx)
  rw [show 1 + (3 + j) = 4 + j by omega] at this
  exact this
theorem StAt.yC (h : StAt w p v m Y L) (j : Nat) (x : Value) (hx : Y[j]? = some x) : w.cell? ⟨p, 36 + j, none⟩ = some x := by
  refine h.row.cell (36 + j) x ?_
  rw [show 36 + j = (35 + j) + 1 by omega, List.getElem?_cons_succ, List.getElem?_append_right (by rw [Mf.cells_len h.rt]; omega), Mf.cells_len h.rt]
  simpa using hx
theorem StAt.pcC (h : StAt w p v m Y L) : w.cell? ⟨p, 3, none⟩ = some (.int .i64 m.pc) := h.mid 2 _ rfl
theorem StAt.szC (h : StAt w p v m Y L) : w.cell? ⟨p, 2, none⟩ = some (.int .i64 m.sz) := h.mid 1 _ rfl
set_option maxHeartbeats 1000000 in
theorem made_st (h : StAt w p v m Y L) : Calls Tryd.prog 57 #[.pointer (some ⟨p, 0, none⟩)] w fun e w' => e = .returned (.bool true) ∧ w' = w := by
  have d3 := h.pcC
  have h1 := (fitE_ok h.ok).2.1
  obtain ⟨nm, sz, pc, rt⟩ := m
  dsimp only at d3 h1
  have h2 : decide (0 < pc) = true := decide_eq_true (by omega)
  clear h
  go_enter Tryd.func57, Tryd.ntmps57
  go_wp2
  go_ret
  exact ⟨rfl, rfl⟩
set_option maxHeartbeats 1000000 in
theorem size_st (h : StAt w p v m Y L) (i : Int) : Calls Tryd.prog 60 #[.pointer (some ⟨p, 0, none⟩), .int .i64 i] w fun e w' => e = .returned (.int .i64 (sizI m i)) ∧ Below w.heap.size w w' := by
  have HM := hid (made_st h)
  have HS : Hid (Calls Tryd.prog 30 #[.agg m.cells.toArray, .int .i64 i] w fun e w' => e = .returned (.int .i64 (sizI m i)) ∧ Below w.heap.size w w') := size_any h.rt
  have HC : Hid (∀ j x, m.cells[j]? = some x → w.cell? ⟨p, 1 + j, none⟩ = some x) := fun j x hx => h.mid j x hx
  have HL : Hid (m.cells.length = 35) := Mf.cells_len h.rt
  have I35 := hid iMf
  generalize sizI m i = N at *
  generalize m.cells = C at *
  clear h
  go_enter Tryd.func60, Tryd.ntmps60
  go_wp2_with (first
    | (go_at_call 57; refine Calls.mono HM.out ?_; rintro e w2 ⟨rfl, rfl⟩)
    | (show wpList _ _ _ (Oper.mk (some 11) (.load 39 (.tmp 10)) _ _ _ _ :: _) _ _; refine wpList_load_mid rfl 39 (.tmp 10) rfl p 1 rfl C _ HC.out Tryd.underlying39 rfl (by rw [HL.out]; exact I35.out) ?_)
    | (go_at_call 30; refine Calls.mono HS.out ?_; rintro e w3 ⟨rfl, hb3⟩; have HB3 := hid hb3; clear hb3))
  go_ret
  exact ⟨rfl, HB3.out⟩
def refI (m : Mf) (i : Int) (n : Nat) : Int := if sizI m i = 0 then 224 else if sizI m i = n then 0 else 225
set_option maxHeartbeats 1000000 in
theorem refuses_st (h : StAt w p v m Y L) (i : Int) {da : Option Addr} {n c : Nat} : Calls Tryd.prog 63 #[.pointer (some ⟨p, 0, none⟩), .int .i64 i, .slice da n c] w fun e w' => e = .returned (.int .i64 (refI m i n)) ∧ Below w.heap.size w w' := by
  have HS := hid (size_st h i)
  have HR : Hid (refI m i n = if sizI m i = 0 then 224 else if sizI m i = n then 0 else 225) := rfl
  generalize sizI m i = N at *
  generalize refI m i n = R at *
  clear h
  by_cases h1 : N = 0
  · rw [if_pos h1] at HR
    have b1 : (N == 0) = true := by simpa using h1
    subst h1
    go_enter Tryd.func63, Tryd.ntmps63
    go_wp2_with (first
      | (go_at_call 60; refine Calls.mono HS.out ?_; rintro e w2 ⟨rfl, hb2⟩; have HB2 := hid hb2; clear hb2))
    go_ret
    exact ⟨by rw [HR.out]; rfl, HB2.out⟩
  · rw [if_neg h1] at HR
    have b1 : (N == 0) = false := by simpa using h1
    by_cases h2 : N = n
    · rw [if_pos h2] at HR
      have b2 : (N == (n : Int)) = true := by simpa using h2
      clear h1
      go_enter Tryd.func63, Tryd.ntmps63
      go_wp2_with (first
        | (go_at_call 60; refine Calls.mono HS.out ?_; rintro e w2 ⟨rfl, hb2⟩; have HB2 := hid hb2; clear hb2))
      go_ret
      exact ⟨by rw [HR.out]; rfl, HB2.out⟩
    · rw [if_neg h2] at HR
      have b2 : (N == (n : Int)) = false := by simpa using h2
      go_enter Tryd.func63, Tryd.ntmps63
      go_wp2_with (first
        | (go_at_call 60; refine Calls.mono HS.out ?_; rintro e w2 ⟨rfl, hb2⟩; have HB2 := hid hb2; clear hb2))
      go_ret
      exact ⟨by rw [HR.out]; rfl, HB2.out⟩
set_option maxHeartbeats 1000000 in
theorem have_st (h : StAt w p v m Y L) (F : Fit L) (hf : (L.length + 1) * 16 ≤ 140737488355328) (ht : total L ≤ 9223372036854775807) : Calls Tryd.prog 27 #[.pointer (some ⟨p, 0, none⟩)] w fun e w' => e = .returned (.int .i64 (total L)) ∧ Below w.heap.size w w' := by
  have HM := hid (made_st h)
  have ht0 := (total_bd L F L.length (Nat.le_refl _)).1
  rw [List.take_length] at ht0
  have HS : Hid (Calls Tryd.prog 59 #[.pointer (some ⟨p, 0, none⟩)] w fun e w' => e = .returned (.int .u64 (total L)) ∧ Below w.heap.size w w') := by
    obtain ⟨a, cap, -, V⟩ := h.bv.view hf
    exact setcount_any V F
  generalize total L = N at *
  clear h F
  go_enter Tryd.func27, Tryd.ntmps27
  go_wp2_with (first
    | (go_at_call 57; refine Calls.mono HM.out ?_; rintro e w2 ⟨rfl, rfl⟩)
    | (go_at_call 59; refine Calls.mono HS.out ?_; rintro e w3 ⟨rfl, hb3⟩; have HB3 := hid hb3; clear hb3))
  go_ret
  exact ⟨rfl, HB3.out⟩
end
end Go.Proofs.YtaklbofbhanjgaaDoor
