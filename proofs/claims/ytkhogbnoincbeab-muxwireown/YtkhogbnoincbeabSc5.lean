import Derived.Test.YtkhogbnoincbeabSc4
import Derived.Defers
namespace Go.Proofs.Ytkhogbnoincbeab
open Go.RowKit Go.Maps Go.Sort
set_option maxRecDepth 100000

theorem forget_d {w : World} {p : Nat} {v : Value} {k s n c h : Int} {d : Value} (u : FrameMode) (H : Sc w p v k s n c h d) : CallsD Try.prog 42 #[.pointer (some ⟨p, 0, none⟩)] u w fun e u' w' => u' = u ∧ (e = .returned (.tuple #[]) ∧ Sc w' p (.slice none 0 0) 0 0 0 0 0 (.slice none 0 0) ∧ Fr (fun x => x = p) w w') := by
  have HS := hid H
  have x10 := H.row.cell 10 _ rfl
  have x11 := H.row.cell 11 _ rfl
  have x12 := H.row.cell 12 _ rfl
  have x13 := H.row.cell 13 _ rfl
  have x14 := H.row.cell 14 _ rfl
  have x15 := H.row.cell 15 _ rfl
  have x16 := H.row.cell 16 _ rfl
  have hfz := fun j => H.row.frozen j
  clear H
  go_enter_d Try.func42, Try.ntmps42
  go_wp2
  go_end0
  exact ⟨rfl, ((((((HS.out.set 10 _ rfl).set 11 _ rfl).set 12 _ rfl).set 13 _ rfl).set 14 _ rfl).set 15 _ rfl).set 16 _ rfl, fr_two (fr_two (fr_two (fr_two (fr_two (fr_two (fr_set _ p 10 _) (fr_set _ p 11 _)) (fr_set _ p 12 _)) (fr_set _ p 13 _)) (fr_set _ p 14 _)) (fr_set _ p 15 _)) (fr_set _ p 16 _)⟩
/-- A frame's cells written one by one. -/
def six (w : World) (b : Nat) (k s n c h : Int) (d : Value) : World := (((((w.setCell ⟨b, 0, none⟩ (.int .i64 k)).setCell ⟨b, 1, none⟩ (.int .u64 s)).setCell ⟨b, 2, none⟩ (.int .u64 n)).setCell ⟨b, 3, none⟩ (.int .i64 c)).setCell ⟨b, 4, none⟩ (.int .i64 h)).setCell ⟨b, 5, none⟩ d
theorem six_row {w : World} {b : Nat} {t : TypeId} {a0 a1 a2 a3 a4 a5 : Value} (k s n c h : Int) (d : Value) (R : Row w b [a0, a1, a2, a3, a4, a5] t) : Row (six w b k s n c h d) b [.int .i64 k, .int .u64 s, .int .u64 n, .int .i64 c, .int .i64 h, d] t :=
  (((((R.set 0 (.int .i64 k)).set 1 (.int .u64 s)).set 2 (.int .u64 n)).set 3 (.int .i64 c)).set 4 (.int .i64 h)).set 5 d
theorem six_fr (w : World) (b : Nat) (k s n c h : Int) (d : Value) : Fr (fun x => x = b) w (six w b k s n c h d) :=
  fr_two (fr_two (fr_two (fr_two (fr_two (fr_set _ b 0 _) (fr_set _ b 1 _)) (fr_set _ b 2 _)) (fr_set _ b 3 _)) (fr_set _ b 4 _)) (fr_set _ b 5 _)
theorem Sc.drew {w : World} {p : Nat} {v : Value} {k s n c h : Int} {d : Value} (H : Sc w p v k s n c h d) : Sc w.drew p v k s n c h d := ⟨⟨H.row.at_⟩, fun j h1 h2 => ⟨(H.tab j h1 h2).at_⟩⟩
theorem Row.drew1 {w : World} {g : Nat} {c : List Value} {t : TypeId} (H : Row w g c t) : Row w.drew g c t := ⟨H.at_⟩
theorem Fr.drew1 {S : Nat → Prop} {w w' : World} (H : Fr S w w') : Fr S w w'.drew := ⟨H.os, H.tape, H.output, H.size, H.block⟩
def zfr : Value := .agg #[.int .i64 0, .int .u64 0, .int .u64 0, .int .i64 0, .int .i64 0, .slice none 0 0]
/-- What take answers. -/
def TkAns (B : Nat) (w : World) (p : Nat) (l : List (BitVec 8)) (e : Ending) (w' : World) : Prop :=
  Sc w' p (.slice none 0 0) 0 0 0 0 0 (.slice none 0 0) ∧ Fr (fun x => x = p) w w' ∧
  ((¬ (allA PF.zero l).1 = 0 ∧ e = .returned (.tuple #[zfr, .int .i64 0, .int .i64 (allA PF.zero l).1])) ∨
   ((allA PF.zero l).1 = 0 ∧ ∃ d, e = .returned (.tuple #[.agg #[.int .i64 (allA PF.zero l).2.1.k, .int .u64 (allA PF.zero l).2.1.s, .int .u64 (allA PF.zero l).2.1.n, .int .i64 (allA PF.zero l).2.1.c, .int .i64 (allA PF.zero l).2.1.h, d], .int .i64 ((l.length : Int) - ((allA PF.zero l).2.2.length : Int)), .int .i64 0]) ∧ Dt w' B d (allA PF.zero l).2.1.bs))
theorem Dt.less {w : World} {B B2 : Nat} {d : Value} {bs : List (BitVec 8)} (H : Dt w B d bs) (hB : B2 ≤ B) : Dt w B2 d bs := by
  rcases H with H | ⟨g, h1, h2, h3⟩
  · exact .inl H
  · exact .inr ⟨g, h1, h2, Nat.le_trans hB h3⟩
theorem take_door {tmps : Array Value} {w4 : World} {b0 p : Nat} {v : Value} {k s n c h k' s' n' c' h' : Int} {d d' x y : Value} {R : Ending → World → Prop} (h4 : tmps.getD 4 undef = .pointer (some ⟨b0, 0, none⟩)) (h5 : tmps.getD 5 undef = x) (h6 : tmps.getD 6 undef = y) (S4 : Sc w4 p v k' s' n' c' h' d') (R4 : Row w4 b0 [.int .i64 k, .int .u64 s, .int .u64 n, .int .i64 c, .int .i64 h, d] 41) (hne : ¬ b0 = p)
    (hR : ∀ w5, Sc w5 p (.slice none 0 0) 0 0 0 0 0 (.slice none 0 0) → Fr (fun x => x = p) w4 w5 → R (.returned (.tuple #[.agg #[.int .i64 k, .int .u64 s, .int .u64 n, .int .i64 c, .int .i64 h, d], x, y])) w5) :
    bodyPostD Try.prog Try.f25 R Exit.ret { tmps := tmps, defers := [{ target := Target.fn (Fn.func 42) #[], args := #[.pointer (some ⟨p, 0, none⟩)] }] } w4 := by
  refine leaves_cons (f := 42) (args := #[.pointer (some ⟨p, 0, none⟩)]) (by simp) (by simp [go_sem]) ?_
  refine (forget_d .returning S4).mono ?_
  rintro e u' w5 ⟨rfl, rfl, hs5, hf5⟩
  have R5 := hf5.row R4 hne
  have z0 := R5.cell 0 _ rfl
  have z1 := R5.cell 1 _ rfl
  have z2 := R5.cell 2 _ rfl
  have z3 := R5.cell 3 _ rfl
  have z4 := R5.cell 4 _ rfl
  have z5 := R5.cell 5 _ rfl
  rw [Array.getD_eq_getD_getElem?] at h4 h5 h6
  refine ⟨_, ?_, hR w5 hs5 hf5⟩
  simp [results, Try.results25, go_sem, z0, z1, z2, z3, z4, z5, h4, h5, h6]
set_option maxHeartbeats 4000000 in
theorem take_any {w : World} {p : Nat} {v0 v : Value} {l : List (BitVec 8)} (H : Sc w p v0 0 0 0 0 0 (.slice none 0 0)) (hl : Lf w p v l) : Calls Try.prog 25 #[.pointer (some ⟨p, 0, none⟩), v] w (TkAns w.heap.size w p l) := by
  have HL := hid hl
  obtain ⟨a, cap, rfl, -⟩ := hl
  have hbx := below_new w (.cells #[.int .i64 0, .int .u64 0, .int .u64 0, .int .i64 0, .int .i64 0, .slice none 0 0] 41)
  have H1 := H.kept hbx
  have x10 := H1.row.cell 10 _ rfl
  have f10 := H1.row.frozen 10
  have hpl := H.lt
  clear H1 hbx
  go_enter_defers Try.func25, Try.ntmps25
  go_upto_region 3 with fail
  obtain ⟨w2, hw2⟩ : ∃ w2, w2 = (w.setCell ⟨p, 10, none⟩ (.slice a l.length cap)).alloc (.cells #[.int .i64 0, .int .u64 0, .int .u64 0, .int .i64 0, .int .i64 0, .slice none 0 0] 41) := ⟨_, rfl⟩
  have HF2 : Hid (Fr (fun x => x = p) w w2) := by show Fr _ _ _; rw [hw2]; exact fr_two (fr_set _ p 10 _) (Fr.of_below (below_new _ _) (Nat.le_refl _))
  have HS2 : Hid (Sx (w.heap.size + 1) w2 p PF.zero l) := by
    show Sx _ _ _ _ _
    rw [hw2]
    exact ⟨by omega, _, _, (H.set 10 _ rfl).kept (below_new _ _), (HL.out.fr (fr_set _ p 10 _)).kept (below_new _ _), .inl ⟨rfl, rfl⟩⟩
  have HR2 : Hid (Row w2 w.heap.size [.int .i64 0, .int .u64 0, .int .u64 0, .int .i64 0, .int .i64 0, .slice none 0 0] 41) := by
    show Row _ _ _ _
    rw [hw2]
    exact Row.new' _ _ _ _ _ (by simp [World.setCell]) rfl
  have HZ2 : Hid (w.heap.size + 1 ≤ w2.heap.size) := by show _ ≤ _; rw [hw2]; simp [World.setCell]
  rw [← hw2]
  have HAL := hid (all_any HS2.out HZ2.out)
  have HPB : Hid (p < w.heap.size) := hpl
  have HPL : Hid (¬ w.heap.size = p) := by show ¬ _; omega
  have HTB : Hid (∀ j, j ≤ 9 → ¬ p + j = w.heap.size) := fun j hj => by
    cases j with
    | zero => omega
    | succ j => have := (H.tab (j + 1) (by omega) hj).lt; omega
  clear hw2 x10 f10 H hpl
  generalize hr : allA PF.zero l = r at *
  obtain ⟨e3, F3, l3⟩ := r
  have HRR := hid hr
  clear hr
  obtain ⟨b0, hb0⟩ : ∃ b0, b0 = w.heap.size := ⟨_, rfl⟩
  rw [← hb0] at HS2 HR2 HAL HPL HTB HPB ⊢
  have HB0 := hid hb0
  clear hb0
  by_cases h3 : e3 = 0
  · subst h3
    go_upto_region 6 with (go_at_call 43; refine HAL.out.mono ?_; rintro e w3 ⟨rfl, hs3, hf3⟩)
    have HS3 := hid hs3
    have HF3 := hid hf3
    have R3 := hf3.row HR2.out HPL.out
    have HR3 := hid R3
    obtain ⟨hp3, v3, d3, q1, q2, q3⟩ := hs3
    have hd3 : ∃ a9 n9 c9, d3 = .slice a9 n9 c9 := by
      rcases q3 with ⟨rfl, e⟩ | ⟨g, rfl, _⟩
      · exact ⟨none, 0, 0, rfl⟩
      · exact ⟨_, _, _, rfl⟩
    obtain ⟨a9, n9, c9, rfl⟩ := hd3
    have HQ1 := hid q1
    have HDT := hid q3
    have HLEN : Hid (IntKind.i64.wrap ((l.length : Int) - (l3.length : Int)) = (l.length : Int) - (l3.length : Int)) := by
      show _ = _
      obtain ⟨_, c1, _, _, ⟨k1, k2⟩, _⟩ := HL.out
      obtain ⟨_, c2, _, _, ⟨k3, k4⟩, _⟩ := q2
      unfold maxLen at k2 k4
      rw [IntKind.wrap_i64]
      omega
    obtain ⟨a3, c3, rfl, -⟩ := q2
    have hw10 : w3.drew.cell? ⟨p, 10, none⟩ = _ := q1.row.cell 10 _ rfl
    have hw11 : w3.drew.cell? ⟨p, 11, none⟩ = _ := q1.row.cell 11 _ rfl
    have hw12 : w3.drew.cell? ⟨p, 12, none⟩ = _ := q1.row.cell 12 _ rfl
    have hw13 : w3.drew.cell? ⟨p, 13, none⟩ = _ := q1.row.cell 13 _ rfl
    have hw14 : w3.drew.cell? ⟨p, 14, none⟩ = _ := q1.row.cell 14 _ rfl
    have hw15 : w3.drew.cell? ⟨p, 15, none⟩ = _ := q1.row.cell 15 _ rfl
    have hw16 : w3.drew.cell? ⟨p, 16, none⟩ = _ := q1.row.cell 16 _ rfl
    have y0 : w3.drew.cell? ⟨b0, 0, none⟩ = _ := R3.cell 0 _ rfl
    have y1 : w3.drew.cell? ⟨b0, 1, none⟩ = _ := R3.cell 1 _ rfl
    have y2 : w3.drew.cell? ⟨b0, 2, none⟩ = _ := R3.cell 2 _ rfl
    have y3 : w3.drew.cell? ⟨b0, 3, none⟩ = _ := R3.cell 3 _ rfl
    have y4 : w3.drew.cell? ⟨b0, 4, none⟩ = _ := R3.cell 4 _ rfl
    have y5 : w3.drew.cell? ⟨b0, 5, none⟩ = _ := R3.cell 5 _ rfl
    have hfz : ∀ j, w3.drew.frozen? ⟨b0, j, none⟩ = false := fun j => R3.frozen j
    have u0 := R3.cell 0 _ rfl
    have u1 := R3.cell 1 _ rfl
    have u2 := R3.cell 2 _ rfl
    have u3 := R3.cell 3 _ rfl
    have u4 := R3.cell 4 _ rfl
    have u5 := R3.cell 5 _ rfl
    have hfy := fun j => R3.frozen j
    have r10 := q1.row.cell 10 _ rfl
    have r11 := q1.row.cell 11 _ rfl
    have r12 := q1.row.cell 12 _ rfl
    have r13 := q1.row.cell 13 _ rfl
    have r14 := q1.row.cell 14 _ rfl
    have r15 := q1.row.cell 15 _ rfl
    have r16 := q1.row.cell 16 _ rfl
    have hbp : ¬ b0 = p := HPL.out
    clear q1 q3 hf3 R3 hp3
    go_region_held3 (fun w' => w'.cell? ⟨p, 10, none⟩ = some (.slice a3 l3.length c3) ∧ w'.cell? ⟨p, 11, none⟩ = some (.int .i64 F3.k) ∧ w'.cell? ⟨p, 12, none⟩ = some (.int .u64 F3.s) ∧ w'.cell? ⟨p, 13, none⟩ = some (.int .u64 F3.n) ∧ w'.cell? ⟨p, 14, none⟩ = some (.int .i64 F3.c) ∧ w'.cell? ⟨p, 15, none⟩ = some (.int .i64 F3.h) ∧ w'.cell? ⟨p, 16, none⟩ = some (.slice a9 n9 c9)) (go_keep) (fail)
    rw [HLEN.out]
    have S4 := (HQ1.out.fr (six_fr w3 b0 F3.k F3.s F3.n F3.c F3.h (.slice a9 n9 c9)) HTB.out).drew
    have R4 := (six_row F3.k F3.s F3.n F3.c F3.h (.slice a9 n9 c9) HR3.out).drew1
    have F4 := (six_fr w3 b0 F3.k F3.s F3.n F3.c F3.h (.slice a9 n9 c9)).drew1
    show Exit.then _ _ Exit.normal _ (six w3 b0 F3.k F3.s F3.n F3.c F3.h (.slice a9 n9 c9)).drew
    have HS4 := hid S4
    have HR4 := hid R4
    have HF4 := hid F4
    clear hw10 hw11 hw12 hw13 hw14 hw15 hw16 y0 y1 y2 y3 y4 y5 hfz hfy u0 u1 u2 u3 u4 u5 r10 r11 r12 r13 r14 r15 r16 S4 R4 F4
    generalize (six w3 b0 F3.k F3.s F3.n F3.c F3.h (.slice a9 n9 c9)).drew = w4 at *
    go_wp2_with fail
    exact take_door (x := .int .i64 ((l.length : Int) - (l3.length : Int))) (y := .int .i64 0) rfl rfl rfl HS4.out HR4.out HPL.out (fun w5 hs5 hf5 => ⟨hs5, fr_two ((fr_two HF2.out HF3.out).trans HF4.out (fun x hx => .inr (by rw [hx, HB0.out]; exact Nat.le_refl _))) hf5, .inr ⟨by rw [HRR.out], _, by rw [HRR.out], by rw [HRR.out, ← HB0.out]; exact ((HDT.out.fr HF4.out (fun x hx => by omega)).fr hf5 (fun x hx => by have := HPB.out; omega)).less (Nat.le_succ _)⟩⟩)
  · have h3b : (e3 == 0) = false := by simpa using h3
    go_wp2_with (go_at_call 43; refine HAL.out.mono ?_; rintro e w3 ⟨rfl, hs3, hf3⟩; have HS3 := hid hs3; have HF3 := hid hf3; have R3 := hf3.row HR2.out HPL.out; have y0 := R3.cell 0 _ rfl; have y1 := R3.cell 1 _ rfl; have y2 := R3.cell 2 _ rfl; have y3 := R3.cell 3 _ rfl; have y4 := R3.cell 4 _ rfl; have y5 := R3.cell 5 _ rfl; have hfz := fun j => R3.frozen j; have HR3 := hid R3; clear hs3 hf3 R3)
    obtain ⟨hp3, v3, d3, q1, q2, q3⟩ := HS3.out
    have S4 := q1.fr (six_fr w3 b0 0 0 0 0 0 (.slice none 0 0)) HTB.out
    have R4 := six_row 0 0 0 0 0 (.slice none 0 0) HR3.out
    have F4 := six_fr w3 b0 0 0 0 0 0 (.slice none 0 0)
    show bodyPostD Try.prog Try.f25 _ Exit.ret _ (six w3 b0 0 0 0 0 0 (.slice none 0 0))
    generalize six w3 b0 0 0 0 0 0 (.slice none 0 0) = w4 at *
    exact take_door (x := .int .i64 0) (y := .int .i64 e3) rfl rfl rfl S4 R4 HPL.out (fun w5 hs5 hf5 => ⟨hs5, fr_two ((fr_two HF2.out HF3.out).trans F4 (fun x hx => .inr (by rw [hx, HB0.out]; exact Nat.le_refl _))) hf5, .inl ⟨by rw [HRR.out]; exact h3, by rw [HRR.out]; rfl⟩⟩)
end Go.Proofs.Ytkhogbnoincbeab
