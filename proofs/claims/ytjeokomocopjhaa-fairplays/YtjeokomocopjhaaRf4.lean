import Derived.Test.YtjeokomocopjhaaRf6
namespace Go.Proofs.Ytjeokomocopjhaa
open Go.RowKit Go.Maps
set_option maxRecDepth 100000

section
variable {w : World} {r : Nat} {V : Nat → Value} {q : Int} {R : Nat → List Int}
/-- A whole stream is another one. -/
theorem RfAt.elem {g cap n : Nat} {A B : List Sm} {x : Sm} (h : RfAt w r (.slice (some ⟨g, 0, none⟩) n cap) V q (A ++ x :: B) R) (y : Sm) {m : Nat} (hm : A.length = m) :
    RMv r (.slice (some ⟨g, 0, none⟩) n cap) V w (.slice (some ⟨g, 0, none⟩) n cap) V q (A ++ y :: B) R ((((((w.setCell ⟨g, m * 6, none⟩ (.int .u64 y.num)).setCell ⟨g, m * 6 + 1, none⟩ (.int .i64 y.cls)).setCell ⟨g, m * 6 + 2, none⟩ (.int .i64 y.shr)).setCell ⟨g, m * 6 + 3, none⟩ (.int .i64 y.wt)).setCell ⟨g, m * 6 + 4, none⟩ (.int .i64 y.cr)).setCell ⟨g, m * 6 + 5, none⟩ (.bool y.on)) := by
  subst hm
  have h0 := h.cell (j := 0) (v := .int .u64 y.num) (y := { x with num := y.num }) (by decide) rfl
  have h1 := h0.at_.cell (j := 1) (v := .int .i64 y.cls) (y := { x with num := y.num, cls := y.cls }) (by decide) rfl
  have h2 := h1.at_.cell (j := 2) (v := .int .i64 y.shr) (y := { x with num := y.num, cls := y.cls, shr := y.shr }) (by decide) rfl
  have h3 := h2.at_.cell (j := 3) (v := .int .i64 y.wt) (y := { x with num := y.num, cls := y.cls, shr := y.shr, wt := y.wt }) (by decide) rfl
  have h4 := h3.at_.cell (j := 4) (v := .int .i64 y.cr) (y := { x with num := y.num, cls := y.cls, shr := y.shr, wt := y.wt, cr := y.cr }) (by decide) rfl
  have h5 := h4.at_.cell (j := 5) (v := .bool y.on) (y := y) (by decide) rfl
  exact ((((h0.trans h1).trans h2).trans h3).trans h4).trans h5
end
/-- What Add answers, of the document. -/
def raddE (L : List Sm) (id cls shr : Int) : Int :=
  if L.any (fun x => decide (x.num = id)) then 190 else if cls < 0 ∨ 7 < cls then 191 else if shr < 1 ∨ 255 < shr then 192 else if 1024 ≤ L.length then 194 else 0
set_option maxHeartbeats 4000000 in
theorem radd_no {w : World} {r : Nat} {vL : Value} {V : Nat → Value} {q : Int} {l : List Sm} {R : Nat → List Int} (h : RfAt w r vL V q l R) {id cls shr : Int} (hl : l.length ≤ 1024) (hE : raddE l id cls shr ≠ 0) :
    Calls Try.prog 27 #[pt r 0, .int .u64 id, .int .i64 cls, .int .i64 shr] w fun e w' => e = .returned (.int .i64 (raddE l id cls shr)) ∧ w' = w := by
  have c1 := h.row.cell 1 _ rfl
  have hli : (l.length : Int) ≤ 1024 := by omega
  obtain ⟨a, cap, hv⟩ : ∃ a cap, vL = .slice a l.length cap := by
    rcases lst_shape h.lst with ⟨rfl, rfl⟩ | ⟨g, cap, rfl, _⟩
    · exact ⟨none, 0, rfl⟩
    · exact ⟨_, cap, rfl⟩
  unfold raddE at *
  cases hf : l.any (fun x => decide (x.num = id)) with
  | true =>
    rw [hf] at hE
    simp only [if_true]
    obtain ⟨x, hx, he⟩ := List.any_eq_true.1 hf
    -- the first one of that number
    obtain ⟨A, y, B, hAB, hA, hy⟩ : ∃ A y B, l = A ++ y :: B ∧ (∀ a ∈ A, a.num ≠ id) ∧ y.num = id := by
      clear h c1 hE hf hl hli hv
      induction l with
      | nil => cases hx
      | cons z l ih =>
        by_cases e : z.num = id
        · exact ⟨[], z, l, rfl, fun _ h => (by cases h), e⟩
        · rcases List.mem_cons.1 hx with e' | e'
          · subst e'; exact absurd (by simpa using he) e
          · obtain ⟨A, y, B, h1, h2, h3⟩ := ih e'
            refine ⟨z :: A, y, B, by rw [h1]; rfl, fun a ha => ?_, h3⟩
            rcases List.mem_cons.1 ha with e2 | e2
            · subst e2; exact e
            · exact h2 a e2
    subst hy
    subst hAB
    have hP := place_hit h hA (by omega)
    clear h hA hx hE hf
    go_enter Try.func27, Try.ntmps27
    go_wp2_with (go_at_call 36; refine hP.mono ?_; rintro e w' ⟨rfl, rfl⟩)
    go_ret
    exact ⟨rfl, rfl⟩
  | false =>
    have hP := place_miss h (id := id) (fun a ha e => by
      have := List.any_eq_false.1 hf a ha
      simp [e] at this) (by omega)
    rw [hf] at hE
    simp only [Bool.false_eq_true, if_false] at hE ⊢
    subst hv
    clear h hf
    by_cases hc : cls < 0 ∨ 7 < cls
    · rw [if_pos hc]
      clear hE
      by_cases hc1 : cls < 0
      · clear hc
        go_enter Try.func27, Try.ntmps27
        go_wp2_with (go_at_call 36; refine hP.mono ?_; rintro e w' ⟨rfl, rfl⟩)
        go_ret
        exact ⟨rfl, rfl⟩
      · have hc2 : 7 < cls := by omega
        clear hc
        go_enter Try.func27, Try.ntmps27
        go_wp2_with (go_at_call 36; refine hP.mono ?_; rintro e w' ⟨rfl, rfl⟩)
        go_ret
        exact ⟨rfl, rfl⟩
    · rw [if_neg hc] at hE ⊢
      have hc1 : ¬ cls < 0 := by omega
      have hc2 : ¬ 7 < cls := by omega
      clear hc
      by_cases hs : shr < 1 ∨ 255 < shr
      · rw [if_pos hs]
        clear hE
        by_cases hs1 : shr < 1
        · clear hs
          go_enter Try.func27, Try.ntmps27
          go_wp2_with (go_at_call 36; refine hP.mono ?_; rintro e w' ⟨rfl, rfl⟩)
          go_ret
          exact ⟨rfl, rfl⟩
        · have hs2 : 255 < shr := by omega
          clear hs
          go_enter Try.func27, Try.ntmps27
          go_wp2_with (go_at_call 36; refine hP.mono ?_; rintro e w' ⟨rfl, rfl⟩)
          go_ret
          exact ⟨rfl, rfl⟩
      · rw [if_neg hs] at hE ⊢
        have hs1 : ¬ shr < 1 := by omega
        have hs2 : ¬ 255 < shr := by omega
        clear hs
        by_cases hm : 1024 ≤ l.length
        · rw [if_pos hm]
          have hmI : (1024 : Int) ≤ (l.length : Int) := by omega
          clear hE
          go_enter Try.func27, Try.ntmps27
          go_wp2_with (go_at_call 36; refine hP.mono ?_; rintro e w' ⟨rfl, rfl⟩)
          go_ret
          exact ⟨rfl, rfl⟩
        · rw [if_neg hm] at hE
          exact absurd rfl hE
theorem rbuild71 (w : World) : (Instr.build 71 #[]).run Try.prog w = .ok (.agg #[.int .u64 0, .int .i64 0, .int .i64 0, .int .i64 0, .int .i64 0, .bool false]) w := by kernel_rfl
theorem rbsl71 (w : World) (a b c d e f : Value) : (Instr.buildSlice 64 1 #[(0, .agg #[a, b, c, d, e, f])]).run Try.prog w = .ok (.slice (some ⟨w.heap.size, 0, none⟩) 1 1) (w.alloc (.cells #[a, b, c, d, e, f] 71)) := by kernel_rfl
theorem rbuild44 (w : World) (a b c : Int) : (Instr.build 44 #[(0, .int .u64 a), (1, .int .i64 b), (2, .int .i64 c)]).run Try.prog w = .ok (.agg #[.int .u64 a, .int .i64 b, .int .i64 c, .int .i64 0, .int .i64 0]) w := by kernel_rfl
theorem rbuild71b (w : World) (a b c d e : Int) : (Instr.build 71 #[(0, .agg #[.int .u64 a, .int .i64 b, .int .i64 c, .int .i64 d, .int .i64 e])]).run Try.prog w = .ok (.agg #[.int .u64 a, .int .i64 b, .int .i64 c, .int .i64 d, .int .i64 e, .bool false]) w := by kernel_rfl
end Go.Proofs.Ytjeokomocopjhaa
