import Derived.Test.YtahkbklhngiloaaCr3
namespace Go.Proofs.Ytahkbklhngiloaa
open Go.RowKit Go.Maps
set_option maxRecDepth 100000

/-- How many streams of a side are open. -/
def cntO (U : List Ln) (k : Int) : Nat := (U.filter fun x => x.s.op && decide (sideN x.num = k)).length
/-- What a book's numbers may be. -/
structure Bk.Ok (B : Bk) : Prop where
  sd : B.side ≤ 1
  k0 : B.r0.Ok
  k1 : B.r1.Ok
  n0 : 1 ≤ B.n0 ∧ B.n0 % 2 = 1
  n1 : 2 ≤ B.n1 ∧ B.n1 % 2 = 0
  o0 : B.o0 = cntO B.U 0 ∧ B.o0 ≤ B.r1.str
  o1 : B.o1 = cntO B.U 1 ∧ B.o1 ≤ B.r0.str
  all : B.all.Ok ∧ B.all.told ≤ B.all.limit B.own.all
  ss : ∀ x ∈ B.U, x.s.a.Ok ∧ x.s.a.told ≤ x.s.a.limit B.own.each
  num : ∀ x ∈ B.U, 1 ≤ x.num ∧ (x.num % 2 = 1 → x.num < B.n0) ∧ (x.num % 2 = 0 → x.num < B.n1)
/-- What Open of a number answers. -/
def Bk.openE (B : Bk) (id : Int) : Int :=
  if sideN id = 0 then (if id ≠ B.n0 then 181 else if B.r1.str ≤ B.o0 then 182 else 0) else (if id ≠ B.n1 then 181 else if B.r0.str ≤ B.o1 then 182 else 0)
theorem sideN_cases (id : Int) : sideN id = 0 ∨ sideN id = 1 := by unfold sideN; omega
set_option maxHeartbeats 2000000 in
theorem mayOpen_any {w : World} {p b : Nat} {B : Bk} (h : BkAt w p b B) (id : Int) : Calls Try.prog 32 #[pt p 0, .int .u64 id] w fun e w' => e = .returned (.int .i64 (B.openE id)) ∧ ∃ q, w' = w.drewN q := by
  have R := h.row
  clear h
  have hS := sideOf_any w id
  have hw1 : IntKind.i64.wrap 1 = 1 := by decide
  have hw0 : IntKind.i64.wrap 0 = 0 := by decide
  unfold Bk.openE
  rcases sideN_cases id with e | e <;> rw [e] at hS ⊢
  · have c7 := R.cell 7 _ rfl
    have c9 := R.cell 9 _ rfl
    have c6 := R.cell 6 _ rfl
    clear R e
    simp only [if_true]
    by_cases h1 : id = B.n0
    · subst h1
      go_enter Try.func32, Try.ntmps32
      go_upto_region 4 with (go_at_call 33; refine hS.mono ?_; rintro e w' ⟨rfl, rfl⟩)
      go_region
      go_wp2
      all_goals (go_ret; exact ⟨by first | rfl | simp_all, _, rfl⟩)
    · go_enter Try.func32, Try.ntmps32
      go_wp2_with (go_at_call 33; refine hS.mono ?_; rintro e w' ⟨rfl, rfl⟩)
      go_ret
      exact ⟨by first | rfl | simp_all, 0, rfl⟩
  · have c8 := R.cell 8 _ rfl
    have c10 := R.cell 10 _ rfl
    have c3 := R.cell 3 _ rfl
    clear R e
    rw [if_neg (by omega)]
    by_cases h1 : id = B.n1
    · subst h1
      go_enter Try.func32, Try.ntmps32
      go_upto_region 4 with (go_at_call 33; refine hS.mono ?_; rintro e w' ⟨rfl, rfl⟩)
      go_region
      go_wp2
      all_goals (go_ret; exact ⟨by first | rfl | simp_all, _, rfl⟩)
    · go_enter Try.func32, Try.ntmps32
      go_wp2_with (go_at_call 33; refine hS.mono ?_; rintro e w' ⟨rfl, rfl⟩)
      go_ret
      exact ⟨by first | rfl | simp_all, 0, rfl⟩
/-- The next number of the own streams. -/
def Bk.nextN (B : Bk) : Int := if B.side = 0 then B.n0 else B.n1
set_option maxHeartbeats 1000000 in
theorem next_any {w : World} {p b : Nat} {B : Bk} (h : BkAt w p b B) (hs : B.side ≤ 1) : Calls Try.prog 11 #[pt p 0] w fun e w' =>
    e = .returned (.tuple #[.int .u64 (if B.openE B.nextN = 0 then B.nextN else 0), .bool (decide (B.openE B.nextN = 0))]) ∧ ∃ q, w' = w.drewN q := by
  have hG := given_yes h
  have hM := mayOpen_any (h.drewN 1) B.nextN
  have R := h.row
  clear h
  generalize B.openE B.nextN = E at *
  unfold Bk.nextN at *
  have c0 := R.cell 0 _ rfl
  obtain hs' | hs' : B.side = 0 ∨ B.side = 1 := by omega
  · have c7 := R.cell 7 _ rfl
    rw [hs'] at c0
    rw [if_pos hs'] at *
    clear R hs hs'
    by_cases hE : E = 0
    · subst hE
      go_enter Try.func11, Try.ntmps11
      go_upto_region 3 with (go_at_call 31; refine hG.mono ?_; rintro e w' ⟨rfl, rfl⟩)
      go_region
      go_wp2_with (go_at_call 32; refine hM.mono ?_; rintro e w' ⟨rfl, q, rfl⟩)
      go_ret2
      exact ⟨by first | rfl | simp_all, _, rfl⟩
    · go_enter Try.func11, Try.ntmps11
      go_upto_region 3 with (go_at_call 31; refine hG.mono ?_; rintro e w' ⟨rfl, rfl⟩)
      go_region
      go_wp2_with (go_at_call 32; refine hM.mono ?_; rintro e w' ⟨rfl, q, rfl⟩)
      go_ret2
      exact ⟨by first | rfl | simp_all, _, rfl⟩
  · have c8 := R.cell 8 _ rfl
    rw [hs'] at c0
    rw [if_neg (show ¬ B.side = 0 by omega)] at *
    clear R hs hs'
    by_cases hE : E = 0
    · subst hE
      go_enter Try.func11, Try.ntmps11
      go_upto_region 3 with (go_at_call 31; refine hG.mono ?_; rintro e w' ⟨rfl, rfl⟩)
      go_region
      go_wp2_with (go_at_call 32; refine hM.mono ?_; rintro e w' ⟨rfl, q, rfl⟩)
      go_ret2
      exact ⟨by first | rfl | simp_all, _, rfl⟩
    · go_enter Try.func11, Try.ntmps11
      go_upto_region 3 with (go_at_call 31; refine hG.mono ?_; rintro e w' ⟨rfl, rfl⟩)
      go_region
      go_wp2_with (go_at_call 32; refine hM.mono ?_; rintro e w' ⟨rfl, q, rfl⟩)
      go_ret2
      exact ⟨by first | rfl | simp_all, _, rfl⟩
theorem ne81 (w : World) (g : Nat) : (binOp BinOp.neq 81 (pt g 0) (.pointer none)).run Try.prog w = .ok (.bool true) w := by kernel_rfl
theorem held_some {w : World} {p b : Nat} {B : Bk} (h : BkAt w p b B) {id : Int} (h0 : 0 ≤ id) (h1 : id ≤ 18446744073709551615) {x : Ln} (hx : fnd B.U id = some x) : Calls Try.prog 42 #[pt p 0, .int .u64 id] w fun e w' => e = .returned (.tuple #[pt x.g 0, .int .i64 0]) ∧ w' = w := by
  have hG := given_yes h
  have hL := look_any h.map h0 h1
  rw [hx] at hL
  have c := h.row.cell 16 _ rfl
  clear h
  simp only [Option.map_some, ptrV] at hL
  go_enter Try.func42, Try.ntmps42
  go_wp2_with (go_at_call 31; refine hG.mono ?_; rintro e w' ⟨rfl, rfl⟩)
  go_ret2
  exact ⟨by first | rfl | simp, rfl⟩
theorem held_none {w : World} {p b : Nat} {B : Bk} (h : BkAt w p b B) {id : Int} (h0 : 0 ≤ id) (h1 : id ≤ 18446744073709551615) (hx : fnd B.U id = none) : Calls Try.prog 42 #[pt p 0, .int .u64 id] w fun e w' => e = .returned (.tuple #[.pointer none, .int .i64 181]) ∧ w' = w := by
  have hG := given_yes h
  have hL := look_any h.map h0 h1
  rw [hx] at hL
  have c := h.row.cell 16 _ rfl
  clear h
  simp only [Option.map_none, ptrV] at hL
  go_enter Try.func42, Try.ntmps42
  go_wp2_with (go_at_call 31; refine hG.mono ?_; rintro e w' ⟨rfl, rfl⟩)
  go_ret2
  exact ⟨by first | rfl | simp, rfl⟩
theorem opened_some {w : World} {p b : Nat} {B : Bk} (h : BkAt w p b B) {id : Int} (h0 : 0 ≤ id) (h1 : id ≤ 18446744073709551615) {x : Ln} (hx : fnd B.U id = some x) (ho : x.s.op = true) : Calls Try.prog 35 #[pt p 0, .int .u64 id] w fun e w' => e = .returned (.tuple #[pt x.g 0, .int .i64 0]) ∧ w' = w := by
  have hH := held_some h h0 h1 hx
  have c5 := (h.rows x (fnd_some hx).1).cell 5 _ rfl
  rw [ho] at c5
  clear h h0 h1 hx ho
  go_enter Try.func35, Try.ntmps35
  go_wp2_with (go_at_call 42; refine hH.mono ?_; rintro e w' ⟨rfl, rfl⟩)
  go_ret2
  exact ⟨by first | rfl | simp, rfl⟩
/-- A stream that is not open. -/
def Bk.shut (B : Bk) (id : Int) : Prop := ∀ x, fnd B.U id = some x → x.s.op = false
theorem opened_none {w : World} {p b : Nat} {B : Bk} (h : BkAt w p b B) {id : Int} (h0 : 0 ≤ id) (h1 : id ≤ 18446744073709551615) (hx : B.shut id) : Calls Try.prog 35 #[pt p 0, .int .u64 id] w fun e w' => e = .returned (.tuple #[.pointer none, .int .i64 181]) ∧ w' = w := by
  cases hf : fnd B.U id with
  | none =>
    have hH := held_none h h0 h1 hf
    clear h h0 h1 hx
    go_enter Try.func35, Try.ntmps35
    go_wp2_with (go_at_call 42; refine hH.mono ?_; rintro e w' ⟨rfl, rfl⟩)
    go_ret2
    exact ⟨by first | rfl | simp, rfl⟩
  | some x =>
    have hH := held_some h h0 h1 hf
    have c5 := (h.rows x (fnd_some hf).1).cell 5 _ rfl
    rw [hx x hf] at c5
    clear h h0 h1 hx hf
    go_enter Try.func35, Try.ntmps35
    go_wp2_with (go_at_call 42; refine hH.mono ?_; rintro e w' ⟨rfl, rfl⟩)
    go_ret2
    exact ⟨by first | rfl | simp, rfl⟩
/-- The account of a stream that is open. -/
theorem accountOf_all {w : World} {p b : Nat} {B : Bk} (h : BkAt w p b B) : Calls Try.prog 37 #[pt p 0, .int .u64 0] w fun e w' => e = .returned (.tuple #[pt p 11, .int .i64 0]) ∧ w' = w := by
  have hG := given_yes h
  clear h
  go_enter Try.func37, Try.ntmps37
  go_wp2_with (go_at_call 31; refine hG.mono ?_; rintro e w' ⟨rfl, rfl⟩)
  go_ret2
  exact ⟨by first | rfl | simp, rfl⟩
theorem accountOf_some {w : World} {p b : Nat} {B : Bk} (h : BkAt w p b B) {id : Int} (h0 : 1 ≤ id) (h1 : id ≤ 18446744073709551615) {x : Ln} (hx : fnd B.U id = some x) (ho : x.s.op = true) : Calls Try.prog 37 #[pt p 0, .int .u64 id] w fun e w' => e = .returned (.tuple #[pt x.g 0, .int .i64 0]) ∧ w' = w := by
  have hO := opened_some h (by omega) h1 hx ho
  have hz : ¬ id = 0 := by omega
  clear h h0 h1 hx ho
  go_enter Try.func37, Try.ntmps37
  go_wp2_with (go_at_call 35; refine hO.mono ?_; rintro e w' ⟨rfl, rfl⟩)
  go_ret2
  exact ⟨by first | rfl | simp, rfl⟩
theorem accountOf_none {w : World} {p b : Nat} {B : Bk} (h : BkAt w p b B) {id : Int} (h0 : 1 ≤ id) (h1 : id ≤ 18446744073709551615) (hx : B.shut id) : Calls Try.prog 37 #[pt p 0, .int .u64 id] w fun e w' => e = .returned (.tuple #[.pointer none, .int .i64 181]) ∧ w' = w := by
  have hO := opened_none h (by omega) h1 hx
  have hz : ¬ id = 0 := by omega
  clear h h0 h1 hx
  go_enter Try.func37, Try.ntmps37
  go_wp2_with (go_at_call 35; refine hO.mono ?_; rintro e w' ⟨rfl, rfl⟩)
  go_ret2
  exact ⟨by first | rfl | simp, rfl⟩
end Go.Proofs.Ytahkbklhngiloaa
