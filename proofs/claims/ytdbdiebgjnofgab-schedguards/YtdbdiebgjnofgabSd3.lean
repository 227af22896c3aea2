import Derived.Test.YtdbdiebgjnofgabSd2
namespace Go.Proofs.Ytdbdiebgjnofgab
open Go.RowKit Go.Maps Go.Sort
set_option maxRecDepth 100000

instance : Inhabited Pv := ⟨⟨false, false, false, 0, 0, 0, false, ⟨0, 0, false, ⟨none, 0, 0⟩, false⟩⟩⟩
def pth (L : List Pv) (i : Nat) : Pv := L[i]?.getD default
theorem pth_eq {L : List Pv} {i : Nat} (h : i < L.length) : pth L i = L[i] := by simp [pth, h]
/-- The best one of the first so many. -/
def bst (T : Pv → Bool) (M : Pv → Int) (L : List Pv) : Nat → Int
  | 0 => -1
  | i + 1 => if (T (pth L i) && (decide (bst T M L i < 0) || decide (M (pth L i) < M (pth L (bst T M L i).toNat)))) = true then i else bst T M L i
theorem bst_bd (T : Pv → Bool) (M : Pv → Int) (L : List Pv) : ∀ i, -1 ≤ bst T M L i ∧ bst T M L i < i
  | 0 => by simp [bst]
  | i + 1 => by
    have := bst_bd T M L i
    unfold bst
    split <;> omega
/-- A function that measures a path. -/
def IsM (w : World) (f : Nat) (M : Pv → Int) : Prop := ∀ (w' : World) (p : Pv), Below w.heap.size w w' → Calls Try.prog f #[p.val] w' fun e w'' => e = .returned (.int .u64 (M p)) ∧ Below w'.heap.size w' w''
theorem box12 {w w' : World} {g : Nat} {c0 c1 c2 c3 c4 c5 c6 c7 c8 c9 c10 c11 : Value} (h : Row w g [c0, c1, c2, c3, c4, c5, c6, c7, c8, c9, c10, c11] 39) (hb : Below w.heap.size w w') : w'.cell? ⟨g, 0, none⟩ = some c0 ∧ w'.cell? ⟨g, 1, none⟩ = some c1 ∧ w'.cell? ⟨g, 2, none⟩ = some c2 ∧ w'.cell? ⟨g, 3, none⟩ = some c3 ∧ w'.cell? ⟨g, 4, none⟩ = some c4 ∧ w'.cell? ⟨g, 5, none⟩ = some c5 ∧ w'.cell? ⟨g, 6, none⟩ = some c6 ∧ w'.cell? ⟨g, 7, none⟩ = some c7 ∧ w'.cell? ⟨g, 8, none⟩ = some c8 ∧ w'.cell? ⟨g, 9, none⟩ = some c9 ∧ w'.cell? ⟨g, 10, none⟩ = some c10 ∧ w'.cell? ⟨g, 11, none⟩ = some c11 := by
  have R := h.kept hb h.lt
  exact ⟨R.cell 0 _ rfl, R.cell 1 _ rfl, R.cell 2 _ rfl, R.cell 3 _ rfl, R.cell 4 _ rfl, R.cell 5 _ rfl, R.cell 6 _ rfl, R.cell 7 _ rfl, R.cell 8 _ rfl, R.cell 9 _ rfl, R.cell 10 _ rfl, R.cell 11 _ rfl⟩
set_option maxHeartbeats 4000000 in
theorem least_any {w : World} {a : Option Addr} {L : List Pv} (hA : PathsAt w a L) (n cap : Nat) (hn : L.length = n) (hsz : n ≤ 140737488355328) {f m : Nat} {c0 : Value} {T : Pv → Bool} {M : Pv → Int} (hT : IsT w f [c0] T) (hM : IsM w m M)
    (eg : ∀ args w, (callFunc f args).run Try.prog w = .ok (.enter f args) w) (em : ∀ args w, (callFunc m args).run Try.prog w = .ok (.enter m args) w) :
    Calls Try.prog 100 #[.slice a n cap, .func (.func f) #[] #[c0], .func (.func m) #[] #[]] w fun e w' => e = .returned (.int .i64 (bst T M L n)) ∧ Below w.heap.size w w' := by
  have HA := hid hA
  have HN := hid hn
  have HT := hid hT
  have HM := hid hM
  have hsi : (n : Int) ≤ 140737488355328 := by omega
  clear hA hn hT hM
  go_enter Try.func100, Try.ntmps100
  go_wp2
  go_loopw [7, 8, 9, 12] (fun s7 _ _ s12 wr => ∃ i : Nat, i ≤ n ∧ s12 = .int .i64 i ∧ Hid (Below w.heap.size w wr) ∧ s7 = .int .i64 (bst T M L i)) (fun _ _ _ s _ => n - (intOf s).toNat)
  case atStart => exact ⟨0, Nat.zero_le _, rfl, hid (Below.refl _ _), rfl⟩
  case round =>
    obtain ⟨i, hi, rfl, HB, rfl⟩ := hrel
    by_cases hlt : i < n
    · have hil : i < L.length := by have := HN.out; omega
      obtain ⟨g, o, rfl, q0, q1, q2, q3, q4, q5, q6, q7, q8, q9, q10, q11⟩ := (HA.out.kept HB.out).cell hil
      have hii : (i : Int) < n := by omega
      obtain ⟨P, hP⟩ : ∃ P, L[i] = P := ⟨_, rfl⟩
      have hbs : bst T M L (i + 1) = if (T P && (decide (bst T M L i < 0) || decide (M P < M (pth L (bst T M L i).toNat)))) = true then (i : Int) else bst T M L i := by
        rw [bst, pth_eq hil, hP]
      rw [hP] at q0 q1 q2 q3 q4 q5 q6 q7 q8 q9 q10 q11
      obtain ⟨W, hW⟩ : ∃ W, W = wr.alloc (.cells P.cells.toArray 39) := ⟨_, rfl⟩
      have HR : Hid (Row W wr.heap.size P.cells 39) := by show Row _ _ _ _; rw [hW]; exact Row.new _ _ _
      have HB1 : Hid (Below w.heap.size w W) := by show Below _ _ _; rw [hW]; exact HB.out.alloc HB.out.size _
      have HKT := hid (toK (n := f) (args := #[P.val, c0]) (v := .bool (T P)) (w := W) (fun w' hb => HT.out w' P (HB1.out.trans (hb.mono HB1.out.size))))
      have HKM := hid (toK (n := m) (args := #[P.val]) (v := .int .u64 (M P)) (w := W) (fun w' hb => HM.out w' P (HB1.out.trans (hb.mono HB1.out.size))))
      have HW := hid hW
      have HIL := hid hil
      have hbb := bst_bd T M L i
      generalize bst T M L i = B at *
      clear hP hW HB
      simp only [Pv.val, Pv.cells] at HKT HKM
      go_upto_region 5 with fail
      rw [show (wr.alloc (.cells #[.bool P.u, .bool P.b, .bool P.k, .int .u64 P.s, .int .i64 P.w, .int .i64 P.i, .bool P.h, .int .u64 P.c.off, .int .i64 P.c.len, .bool P.c.fin, .slice P.c.on.a P.c.on.n P.c.on.c, .bool P.c.held] 39)) = W from HW.out.symm]
      obtain ⟨z, hz⟩ : ∃ z, z = wr.heap.size := ⟨_, rfl⟩
      rw [← hz] at HR ⊢
      have p0 := cell_regrown (HR.out.cell 0 _ rfl)
      have p1 := cell_regrown (HR.out.cell 1 _ rfl)
      have p2 := cell_regrown (HR.out.cell 2 _ rfl)
      have p3 := cell_regrown (HR.out.cell 3 _ rfl)
      have p4 := cell_regrown (HR.out.cell 4 _ rfl)
      have p5 := cell_regrown (HR.out.cell 5 _ rfl)
      have p6 := cell_regrown (HR.out.cell 6 _ rfl)
      have p7 := cell_regrown (HR.out.cell 7 _ rfl)
      have p8 := cell_regrown (HR.out.cell 8 _ rfl)
      have p9 := cell_regrown (HR.out.cell 9 _ rfl)
      have p10 := cell_regrown (HR.out.cell 10 _ rfl)
      have p11 := cell_regrown (HR.out.cell 11 _ rfl)
      clear q0 q1 q2 q3 q4 q5 q6 q7 q8 q9 q10 q11 HR hz HW
      cases hx : T P with
      | false =>
        have HBS : Hid (bst T M L (i + 1) = B) := by show _ = _; rw [hbs, if_neg (by rw [hx]; simp)]
        rw [hx] at HKT
        clear hx hbs
        refine wp_region_quiet_below (by kernel_rfl) (by decide +kernel) ?_
        repeat (go_big_quiet_step (first | (go_at_fn f; exact HKT.out _ _)))
        refine wpQuiet_nil ?_
        intro _ hw'
        obtain ⟨⟨dq, osq⟩, hw''⟩ := hw'
        subst hw''
        go_wp2_with fail
        go_roundw
        case rel => exact ⟨i + 1, hlt, by go_num, hid (HB1.out.trans ((below_regrown W dq osq).mono HB1.out.size)), by rw [HBS.out]⟩
        case measure => simp [intOf]; omega
      | true =>
        rw [hx] at HKT
        by_cases hb : B < 0
        · have HBS : Hid (bst T M L (i + 1) = i) := by show _ = _; rw [hbs, if_pos (by rw [hx]; simp [hb])]
          clear hx hbs
          refine wp_region_quiet_below (by kernel_rfl) (by decide +kernel) ?_
          repeat (go_big_quiet_step (first | (go_at_fn f; exact HKT.out _ _)))
          refine wpQuiet_nil ?_
          intro _ hw'
          obtain ⟨⟨dq, osq⟩, hw''⟩ := hw'
          subst hw''
          go_wp2_with fail
          go_roundw
          case rel => exact ⟨i + 1, hlt, by go_num, hid (HB1.out.trans ((below_regrown W dq osq).mono HB1.out.size)), by rw [HBS.out]⟩
          case measure => simp [intOf]; omega
        · obtain ⟨k, rfl⟩ : ∃ k : Nat, B = k := ⟨B.toNat, by omega⟩
          have hkl : k < L.length := by have := HIL.out; omega
          rw [Int.toNat_natCast, pth_eq hkl] at hbs
          obtain ⟨g', o', e', r0, r1, r2, r3, r4, r5, r6, r7, r8, r9, r10, r11⟩ := (HA.out.kept HB1.out).cell hkl
          cases e'
          obtain ⟨R, hR⟩ : ∃ R, L[k] = R := ⟨_, rfl⟩
          rw [hR] at r0 r1 r2 r3 r4 r5 r6 r7 r8 r9 r10 r11 hbs
          have HKR := hid (toK (n := m) (args := #[R.val]) (v := .int .u64 (M R)) (w := W) (fun w' hb => HM.out w' R (HB1.out.trans (hb.mono HB1.out.size))))
          simp only [Pv.val, Pv.cells] at HKR
          replace r0 := cell_regrown r0
          replace r1 := cell_regrown r1
          replace r2 := cell_regrown r2
          replace r3 := cell_regrown r3
          replace r4 := cell_regrown r4
          replace r5 := cell_regrown r5
          replace r6 := cell_regrown r6
          replace r7 := cell_regrown r7
          replace r8 := cell_regrown r8
          replace r9 := cell_regrown r9
          replace r10 := cell_regrown r10
          replace r11 := cell_regrown r11
          have hkn : (k : Int) < (n : Int) := by omega
          have hk0 : decide ((k : Int) < 0) = false := by simp
          have HBS := hid hbs
          have HX := hid hx
          clear hx hbs hR HIL hb
          by_cases hc : M P < M R
          all_goals
            refine wp_region_quiet_below (by kernel_rfl) (by decide +kernel) ?_
            repeat (go_big_quiet_step (first | (go_at_fn f; exact HKT.out _ _) | (go_at_fn m; exact HKM.out _ _) | (go_at_fn m; exact HKR.out _ _)))
            refine wpQuiet_nil ?_
            intro _ hw'
            obtain ⟨⟨dq, osq⟩, hw''⟩ := hw'
            subst hw''
            go_wp2_with fail
            go_roundw
            case rel => exact ⟨i + 1, hlt, by go_num, hid (HB1.out.trans ((below_regrown W dq osq).mono HB1.out.size)), by rw [HBS.out, HX.out, hk0]; simp [hc]⟩
            case measure => simp [intOf]; omega
    · obtain rfl : i = n := by omega
      clear hlt
      go_wp2
      go_ret
      exact ⟨rfl, HB.out⟩
theorem quick_any {w : World} {a : Option Addr} {L : List Pv} (hA : PathsAt w a L) (n cap : Nat) (hn : L.length = n) (hsz : n ≤ 140737488355328) {f : Nat} {c0 : Value} {T : Pv → Bool} (hT : IsT w f [c0] T)
    (eg : ∀ args w, (callFunc f args).run Try.prog w = .ok (.enter f args) w) :
    Calls Try.prog 98 #[.slice a n cap, .func (.func f) #[] #[c0]] w fun e w' => e = .returned (.int .i64 (bst T Pv.time L n)) ∧ Below w.heap.size w w' := by
  have HI := hid (least_any hA n cap hn hsz hT (m := 101) (M := Pv.time) (fun w' p _ => time_any w' p) eg eg49)
  clear hA hn hT
  go_enter Try.func98, Try.ntmps98
  go_wp2_with (go_at_call 100; refine HI.out.mono ?_; rintro e w' ⟨rfl, hb⟩; have HB := hid hb; clear hb)
  go_ret
  exact ⟨rfl, HB.out⟩
/-- A decision. -/
structure Pk where
  path : Int
  off : Int
  len : Int
abbrev pk0 : List Value := [.int .i64 0, .int .u64 0, .int .i64 0]
abbrev Pk.cells (p : Pk) : List Value := [.int .i64 p.path, .int .u64 p.off, .int .i64 p.len]
def pkv : Option Pk → Value
  | none => .tuple #[.agg pk0.toArray, .bool false]
  | some p => .tuple #[.agg p.cells.toArray, .bool true]
theorem i36 : (Try.prog.info? 32).map (·.size) = some 3 := by kernel_rfl
abbrev Cu.val (c : Cu) : Value := .agg c.cells.toArray
set_option maxHeartbeats 1000000 in
theorem send_no (w : World) (c : Cu) (x : Int) (hx : x < 0) : Calls Try.prog 97 #[.int .i64 x, c.val] w fun e w' => e = .returned (.tuple #[.agg #[.int .i64 0, .int .u64 0, .int .i64 0], .bool false]) ∧ Below w.heap.size w w' := by
  go_enter Try.func97, Try.ntmps97
  go_wp2
  refine bodyPost_ret (Row.result2 (c := pk0) (t := 32) (Row.new' _ _ _ _ _ (by simp) rfl) Try.results97 _ rfl _ Try.underlying32 rfl i36) rfl ⟨rfl, ?_⟩
  exact ((Below.refl _ _).alloc (Nat.le_refl _) _).alloc (by simp) _
set_option maxHeartbeats 1000000 in
theorem send_yes (w : World) (c : Cu) (x : Int) (hx : ¬ x < 0) : Calls Try.prog 97 #[.int .i64 x, c.val] w fun e w' => e = .returned (.tuple #[.agg #[.int .i64 x, .int .u64 c.off, .int .i64 c.len], .bool true]) ∧ Below w.heap.size w w' := by
  go_enter Try.func97, Try.ntmps97
  go_wp2
  refine bodyPost_ret (Row.result2 (c := [.int .i64 x, .int .u64 c.off, .int .i64 c.len]) (t := 32) (Row.new' _ _ _ _ _ (by simp) rfl) Try.results97 _ rfl _ Try.underlying32 rfl i36) rfl ⟨rfl, ?_⟩
  exact ((Below.refl _ _).alloc (Nat.le_refl _) _).alloc (by simp) _
end Go.Proofs.Ytdbdiebgjnofgab
