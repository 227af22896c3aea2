import Derived.Test.YtkhogbnoincbeaaRPiece
import Derived.Test.YtkhogbnoincbeaaPu4
namespace Go.Proofs.Ytkhogbnoincbeaa
open Go.RowKit Go.Maps Go.Sort
set_option maxRecDepth 100000

theorem row_first (w : World) (o2 : Obj) (k s n c h : Int) (d : Value) : Row ((w.alloc (.cells #[.int .i64 k, .int .u64 s, .int .u64 n, .int .i64 c, .int .i64 h, d] 25)).alloc o2) w.heap.size [.int .i64 k, .int .u64 s, .int .u64 n, .int .i64 c, .int .i64 h, d] 25 := (Row.new' w _ _ _ _ rfl rfl).alloc _
theorem RpAns.yes {w w' : World} {L : Nat} {r : Int × PF × List (BitVec 8)} {F : PF} {m : List (BitVec 8)} {x : Int} (hb : Below w.heap.size w w') (hr : r = (0, F, m)) (hx : x = (L : Int) - (m.length : Int)) (hF : F.bs = []) : RpAns w L r (.returned (.tuple #[.agg #[.int .i64 F.k, .int .u64 F.s, .int .u64 F.n, .int .i64 F.c, .int .i64 F.h, .slice none 0 0], .int .i64 x, .int .i64 0])) w' :=
  ⟨hb, .inr ⟨by rw [hr], none, 0, by rw [hr, hx]; simp only; rw [hF]; rfl, by rw [hr]; simp only; rw [hF]; exact BytesAt_nil _ _, fun g o e => (by cases e)⟩⟩
theorem RfAns.rp {w w' : World} {L : Nat} {r : Int × PF × List (BitVec 8)} {e : Ending} (h : RfAns w L (.slice none 0 0) r e w') (hF : r.1 = 0 → r.2.1.bs = []) : RpAns w L r e w' := by
  obtain ⟨hb, ⟨h0, k, s, n, c, hh, x, he⟩ | ⟨h0, he⟩⟩ := h
  · exact ⟨hb, .inl ⟨h0, k, s, n, c, hh, x, none, 0, 0, he⟩⟩
  · exact ⟨hb, .inr ⟨h0, none, 0, by rw [he, hF h0]; rfl, by rw [hF h0]; exact BytesAt_nil _ _, fun g o e => (by cases e)⟩⟩
theorem RpAns.shape {w w' : World} {L : Nat} {r : Int × PF × List (BitVec 8)} {e : Ending} (h : RpAns w L r e w') : ∃ (k s n c hh x y : Int) (a9 : Option Addr) (n9 c9 : Nat), e = .returned (.tuple #[.agg #[.int .i64 k, .int .u64 s, .int .u64 n, .int .i64 c, .int .i64 hh, .slice a9 n9 c9], .int .i64 x, .int .i64 y]) := by
  obtain ⟨_, ⟨_, k, s, n, c, hh, x, a9, n9, c9, he⟩ | ⟨_, a9, c9, he, _⟩⟩ := h
  · exact ⟨k, s, n, c, hh, x, _, a9, n9, c9, he⟩
  · exact ⟨_, _, _, _, _, _, _, a9, _, c9, he⟩
theorem RpAns.up {w w2 w3 w4 : World} {L b0 : Nat} {r : Int × PF × List (BitVec 8)} {e : Ending} (h : RpAns w2 L r e w3) (hb : Below w.heap.size w w2) (hf : Fr (fun x => x = b0) w3 w4) (h0 : w.heap.size ≤ b0) (h1 : b0 < w2.heap.size) : RpAns w L r e w4 := by
  obtain ⟨hb3, hor⟩ := h
  have hs := hb3.size
  have hs2 := hb.size
  refine ⟨(hb.trans (hb3.mono hs2)).trans (hf.below (fun x hx => by omega) (by omega)), ?_⟩
  rcases hor with hor | ⟨k0, a9, c9, he, hB, hg⟩
  · exact .inl hor
  · exact .inr ⟨k0, a9, c9, he, BytesAt.fr hB hf (fun g o e hx => by have := hg g o e; omega), fun g o e => by have := hg g o e; omega⟩
theorem num_at {l : List (BitVec 8)} {L A S : Nat} {m : List (BitVec 8)} (hL : l.length = L) (hA : A ≤ L) (h : numD 9 0 0 (l.drop A) = (0, S, m)) : ∃ A2 : Nat, (L : Int) - (m.length : Int) = (A2 : Int) ∧ A2 ≤ L ∧ m = l.drop A2 ∧ S ≤ 4611686018427387904 := by
  obtain ⟨hle, h62⟩ := numD_of h
  have h2 := congrArg List.length hle
  rw [List.length_append, List.length_drop, hL] at h2
  refine ⟨L - m.length, by omega, by omega, ?_, h62⟩
  have h1 : (l.drop A).drop (numB S).length = m := by rw [hle, List.drop_left]
  rw [show L - m.length = A + (numB S).length by omega, ← List.drop_drop, h1]
theorem num_calls {w : World} {a : Option Addr} {l : List (BitVec 8)} {L cap A S A2 : Nat} {m : List (BitVec 8)} (hB : BytesAt w a l) (hL : l.length = L) (hA : A ≤ L) (hm : L ≤ 140737488351232) (h : numD 9 0 0 (l.drop A) = (0, S, m)) (h2 : (L : Int) - (m.length : Int) = (A2 : Int)) (W : World) (hb : Below w.heap.size w W) :
    Calls Try.prog 53 #[.slice a L cap, .int .i64 (A : Int)] W fun e w' => e = .returned (.tuple #[.int .u64 (S : Int), .int .i64 (A2 : Int), .int .i64 0]) ∧ w' = W := by
  refine (rnumber_any (cap := cap) (hB.kept hb) hL hA hm).mono ?_
  rw [h]
  rintro e w' ⟨rfl, x, rfl, hx⟩
  rw [hx rfl, h2]
  exact ⟨rfl, rfl⟩
theorem num_fails {w : World} {a : Option Addr} {l : List (BitVec 8)} {L cap A : Nat} {e0 : Int} {r0 : Nat × List (BitVec 8)} (hB : BytesAt w a l) (hL : l.length = L) (hA : A ≤ L) (hm : L ≤ 140737488351232) (h : numD 9 0 0 (l.drop A) = (e0, r0)) (W : World) (hb : Below w.heap.size w W) :
    Calls Try.prog 53 #[.slice a L cap, .int .i64 (A : Int)] W fun e w' => ∃ x : Int, e = .returned (.tuple #[.int .u64 (r0.1 : Int), .int .i64 x, .int .i64 e0]) ∧ w' = W := by
  refine (rnumber_any (cap := cap) (hB.kept hb) hL hA hm).mono ?_
  rw [h]
  rintro e w' ⟨rfl, x, rfl, _⟩
  exact ⟨x, rfl, rfl⟩
theorem open_bs {F : PF} {l : List (BitVec 8)} (h : (allD [(43, 44), (45, 46)] F l).1 = 0) : (allD [(43, 44), (45, 46)] F l).2.1.bs = F.bs := by
  cases hq : allD [(43, 44), (45, 46)] F l with
  | mk e0 r =>
    obtain ⟨G, m⟩ := r
    rw [hq] at h
    simp only at h
    subst h
    obtain ⟨F0, l0, g0, _, k0⟩ := all_inv hq
    obtain ⟨x0, rfl, _, _⟩ := cls_inv g0
    obtain ⟨F1, l1, g1, _, k1⟩ := all_inv k0
    obtain ⟨x1, rfl, _, _⟩ := shr_inv g1
    simp only [allD, Prod.mk.injEq, true_and] at k1
    rw [← k1.1]
section
variable {t : List (Nat × Nat)} {f : Nat} {F : PF} {l m : List (BitVec 8)}
theorem str_bad {e0 : Int} {r0 : Nat × List (BitVec 8)} (h : numD 9 0 0 l = (e0, r0)) (h0 : ¬ e0 = 0) : (allD ((41, f) :: t) F l).1 = e0 := by
  have e : (readF 41 F l).1 = e0 := by show (strD F l).1 = e0; unfold strD; rw [h]
  simp only [allD]
  rw [if_pos (by rw [e]; exact h0), e]
theorem n_bad {e0 : Int} {r0 : Nat × List (BitVec 8)} (h : numD 9 0 0 l = (e0, r0)) (h0 : ¬ e0 = 0) : (allD ((50, f) :: t) F l).1 = e0 := by
  have e : (readF 50 F l).1 = e0 := by show (nD F l).1 = e0; unfold nD; rw [h]
  simp only [allD]
  rw [if_pos (by rw [e]; exact h0), e]
theorem str_ok {S : Nat} (h : numD 9 0 0 l = (0, S, m)) : allD ((41, f) :: t) F l = if fitB f { F with s := (S : Int) } = false then (172, { F with s := (S : Int) }, m) else allD t { F with s := (S : Int) } m := by
  have e : readF 41 F l = (0, { F with s := (S : Int) }, m) := by show strD F l = _; unfold strD; rw [h]
  simp only [allD]
  rw [e, if_neg (by simp)]
theorem n_ok {S : Nat} (h : numD 9 0 0 l = (0, S, m)) : allD [(50, 49)] F l = (0, { F with n := (S : Int) }, m) := by
  have e : readF 50 F l = (0, { F with n := (S : Int) }, m) := by show nD F l = _; unfold nD; rw [h]
  simp only [allD]
  rw [e, if_neg (by simp), if_neg (by simp [fitB])]
end
set_option maxHeartbeats 4000000 in
theorem rread_7 {w : World} {a : Option Addr} {l r : List (BitVec 8)} {x : BitVec 8} {L cap : Nat} (hB : BytesAt w a l) (hL : l.length = L) (hm : L ≤ 140737488351232) (hc : L ≤ cap) (hl : l = x :: r) (hk : ub x = 7) : Calls Try.prog 27 #[.slice a L cap] w (RpAns w L (allA PF.zero l)) := by
  have HC := hid hc
  have hL1 : 1 ≤ L := by rw [← hL, hl]; simp
  have HLB : Hid ((L : Int) ≤ 140737488351232) := by show _ ≤ _; omega
  have hld : l.drop 1 = r := by rw [hl]; rfl
  obtain ⟨g, o, rfl, hcx⟩ := hB 0 (by omega)
  have hx0 : l[0]'(by omega) = x := by simp [hl]
  rw [hx0, hk, Nat.add_zero] at hcx
  have hg := World.block_lt_of_cell? w _ hcx
  simp only at hg
  have hne : ((L : Int) == 0) = false := by simp; omega
  have hL0 : (0 : Int) < (L : Int) := by omega
  have HAL : Hid (allA PF.zero l = allD (flds 7) { PF.zero with k := 7 } (l.drop 1)) := by
    show _ = _
    rw [hld, hl, show x = by8 7 by rw [← by8_of x, hk], allA_kind (k := 7) (by decide)]
    rfl
  have HST := hid (fun W => strd_any W 7)
  clear hl hx0 hld
  have hst : decide (Strd 7) = false := by decide
  clear hst HST
  cases hq : numD 9 0 0 (l.drop 1) with
  | mk e0 r0 =>
    obtain ⟨S, m⟩ := r0
    by_cases h0 : e0 = 0
    · subst h0
      obtain ⟨A2, h2, hA2, hm2, _⟩ := num_at hL hL1 hq
      have HN := hid (num_calls (cap := cap) hB hL hL1 hm hq h2)
      have HR : Hid (allA PF.zero l = (0, ⟨7, 0, (S : Int), 0, 0, []⟩, m)) := by
        show _ = _
        rw [HAL.out]
        exact n_ok (F := { PF.zero with k := 7 }) hq
      have H2 := hid h2
      clear HAL hB hL hm hq h2 hm2 hk hc
      go_enter Try.func27, Try.ntmps27
      go_wp2_with (go_at_call 53; refine (HN.out _ (below_boxes w _ _)).mono ?_; rintro e w' ⟨rfl, rfl⟩)
      exact cell_door Try.results27 (x := .int .i64 (A2 : Int)) (y := .int .i64 0) rfl rfl rfl (row_first w _ 7 0 (S : Int) 0 0 (.slice none 0 0)) (RpAns.yes (F := ⟨7, 0, (S : Int), 0, 0, []⟩) (below_boxes w _ _) HR.out H2.out.symm rfl)
    · have HN := hid (num_fails (cap := cap) hB hL hL1 hm hq)
      have HR : Hid ((allA PF.zero l).1 = e0) := by
        show _ = _
        rw [HAL.out]
        exact n_bad hq h0
      clear HAL hB hL hm hq hk hc
      go_enter Try.func27, Try.ntmps27
      go_wp2_with (go_at_call 53; refine (HN.out _ (below_boxes w _ _)).mono ?_; rintro e w' ⟨y1, rfl, rfl⟩)
      exact cell_door Try.results27 (x := .int .i64 y1) (y := .int .i64 e0) rfl rfl rfl (row_first w _ 7 0 (S : Int) 0 0 (.slice none 0 0)) (RpAns.no (below_boxes w _ _) HR.out h0)
set_option maxHeartbeats 4000000 in
theorem rread_8 {w : World} {a : Option Addr} {l r : List (BitVec 8)} {x : BitVec 8} {L cap : Nat} (hB : BytesAt w a l) (hL : l.length = L) (hm : L ≤ 140737488351232) (hc : L ≤ cap) (hl : l = x :: r) (hk : ub x = 8) : Calls Try.prog 27 #[.slice a L cap] w (RpAns w L (allA PF.zero l)) := by
  have HC := hid hc
  have hL1 : 1 ≤ L := by rw [← hL, hl]; simp
  have HLB : Hid ((L : Int) ≤ 140737488351232) := by show _ ≤ _; omega
  have hld : l.drop 1 = r := by rw [hl]; rfl
  obtain ⟨g, o, rfl, hcx⟩ := hB 0 (by omega)
  have hx0 : l[0]'(by omega) = x := by simp [hl]
  rw [hx0, hk, Nat.add_zero] at hcx
  have hg := World.block_lt_of_cell? w _ hcx
  simp only at hg
  have hne : ((L : Int) == 0) = false := by simp; omega
  have hL0 : (0 : Int) < (L : Int) := by omega
  have HAL : Hid (allA PF.zero l = allD (flds 8) { PF.zero with k := 8 } (l.drop 1)) := by
    show _ = _
    rw [hld, hl, show x = by8 8 by rw [← by8_of x, hk], allA_kind (k := 8) (by decide)]
    rfl
  have HST := hid (fun W => strd_any W 8)
  clear hl hx0 hld
  have hst : decide (Strd 8) = false := by decide
  clear hst HST
  cases hq : numD 9 0 0 (l.drop 1) with
  | mk e0 r0 =>
    obtain ⟨S, m⟩ := r0
    by_cases h0 : e0 = 0
    · subst h0
      obtain ⟨A2, h2, hA2, hm2, _⟩ := num_at hL hL1 hq
      have HN := hid (num_calls (cap := cap) hB hL hL1 hm hq h2)
      have HR : Hid (allA PF.zero l = (0, ⟨8, 0, (S : Int), 0, 0, []⟩, m)) := by
        show _ = _
        rw [HAL.out]
        exact n_ok (F := { PF.zero with k := 8 }) hq
      have H2 := hid h2
      clear HAL hB hL hm hq h2 hm2 hk hc
      go_enter Try.func27, Try.ntmps27
      go_wp2_with (go_at_call 53; refine (HN.out _ (below_boxes w _ _)).mono ?_; rintro e w' ⟨rfl, rfl⟩)
      exact cell_door Try.results27 (x := .int .i64 (A2 : Int)) (y := .int .i64 0) rfl rfl rfl (row_first w _ 8 0 (S : Int) 0 0 (.slice none 0 0)) (RpAns.yes (F := ⟨8, 0, (S : Int), 0, 0, []⟩) (below_boxes w _ _) HR.out H2.out.symm rfl)
    · have HN := hid (num_fails (cap := cap) hB hL hL1 hm hq)
      have HR : Hid ((allA PF.zero l).1 = e0) := by
        show _ = _
        rw [HAL.out]
        exact n_bad hq h0
      clear HAL hB hL hm hq hk hc
      go_enter Try.func27, Try.ntmps27
      go_wp2_with (go_at_call 53; refine (HN.out _ (below_boxes w _ _)).mono ?_; rintro e w' ⟨y1, rfl, rfl⟩)
      exact cell_door Try.results27 (x := .int .i64 y1) (y := .int .i64 e0) rfl rfl rfl (row_first w _ 8 0 (S : Int) 0 0 (.slice none 0 0)) (RpAns.no (below_boxes w _ _) HR.out h0)
set_option maxHeartbeats 4000000 in
theorem rread_1 {w : World} {a : Option Addr} {l r : List (BitVec 8)} {x : BitVec 8} {L cap : Nat} (hB : BytesAt w a l) (hL : l.length = L) (hm : L ≤ 140737488351232) (hc : L ≤ cap) (hl : l = x :: r) (hk : ub x = 1) : Calls Try.prog 27 #[.slice a L cap] w (RpAns w L (allA PF.zero l)) := by
  have HC := hid hc
  have hL1 : 1 ≤ L := by rw [← hL, hl]; simp
  have HLB : Hid ((L : Int) ≤ 140737488351232) := by show _ ≤ _; omega
  have hld : l.drop 1 = r := by rw [hl]; rfl
  obtain ⟨g, o, rfl, hcx⟩ := hB 0 (by omega)
  have hx0 : l[0]'(by omega) = x := by simp [hl]
  rw [hx0, hk, Nat.add_zero] at hcx
  have hg := World.block_lt_of_cell? w _ hcx
  simp only at hg
  have hne : ((L : Int) == 0) = false := by simp; omega
  have hL0 : (0 : Int) < (L : Int) := by omega
  have HAL : Hid (allA PF.zero l = allD (flds 1) { PF.zero with k := 1 } (l.drop 1)) := by
    show _ = _
    rw [hld, hl, show x = by8 1 by rw [← by8_of x, hk], allA_kind (k := 1) (by decide)]
    rfl
  have HST := hid (fun W => strd_any W 1)
  clear hl hx0 hld
  have hst : decide (Strd 1) = true := by decide
  rw [hst] at HST
  clear hst
  cases hq : numD 9 0 0 (l.drop 1) with
  | mk e0 r0 =>
    obtain ⟨S, m⟩ := r0
    by_cases h0 : e0 = 0
    · subst h0
      obtain ⟨A2, h2, hA2, hm2, hS62⟩ := num_at hL hL1 hq
      have HN := hid (num_calls (cap := cap) hB hL hL1 hm hq h2)
      have HR0 := hid (HAL.out.trans (str_ok (f := 42) (F := { PF.zero with k := 1 }) hq))
      by_cases hs0 : S = 0
      · subst hs0
        have HR : Hid ((allA PF.zero l).1 = 172) := by
          show _ = _
          rw [HR0.out, if_pos (by decide)]
        clear HAL HR0 hB hL hm hq h2 hm2 hk hc
        go_enter Try.func27, Try.ntmps27
        go_wp2_with (first | (go_at_call 53; refine (HN.out _ (below_boxes w _ _)).mono ?_; rintro e w' ⟨rfl, rfl⟩) | (go_at_call 39; refine (HST.out _).mono ?_; rintro e w' ⟨rfl, rfl⟩))
        exact cell_door Try.results27 (x := .int .i64 (A2 : Int)) (y := .int .i64 172) rfl rfl rfl (row_first w _ 1 0 0 0 0 (.slice none 0 0)) (RpAns.no (below_boxes w _ _) HR.out (by decide))
      · have hsb : ((S : Int) == 0) = false := by simpa using hs0
        have hfit : fitB 42 { PF.zero with k := 1, s := (S : Int) } = true := decide_eq_true (show Nmd (S : Int) by unfold Nmd; omega)
        have HR1 := hid (HR0.out.trans (if_neg (by rw [hfit]; simp)))
        clear HAL HR0 hfit hs0
        have HCA : Hid (∀ W, Below w.heap.size w W → Calls Try.prog 54 #[.agg #[.int .i64 1, .int .u64 (S : Int), .int .u64 0, .int .i64 0, .int .i64 0, .slice none 0 0], .slice (some ⟨g, o, none⟩) L cap, .int .i64 (A2 : Int)] W (RpAns W L (allA PF.zero l))) := fun W hb => by
          rw [HR1.out, hm2]
          exact ((ropen_any (cap := cap) ⟨1, (S : Int), 0, 0, 0, []⟩ none 0 0 (hB.kept hb) hL hA2 hm).mono (fun e w' hh => RfAns.rp hh (fun h0 => open_bs h0)))
        clear HR1 hB hL hm hq h2 hm2 hk hc
        go_enter Try.func27, Try.ntmps27
        go_wp2_with (first | (go_at_call 53; refine (HN.out _ (below_boxes w _ _)).mono ?_; rintro e w' ⟨rfl, rfl⟩) | (go_at_call 39; refine (HST.out _).mono ?_; rintro e w' ⟨rfl, rfl⟩) | (go_at_call 54; refine (HCA.out _ (below_boxes w _ _)).mono ?_; intro e w3 hans; have HANS := hid hans; obtain ⟨k9, s9, n9, c9, h9, x9, y9, a9, l9, d9, rfl⟩ := hans.shape; have R3 := (row_first w (.cells #[.int .i64 1, .int .u64 (S : Int), .int .u64 0, .int .i64 0, .int .i64 0, .slice none 0 0] 25) 0 0 0 0 0 (.slice none 0 0)).kept hans.1 (by simp; omega); have HR3 := hid R3; have u0 := R3.cell 0 _ rfl; have u1 := R3.cell 1 _ rfl; have u2 := R3.cell 2 _ rfl; have u3 := R3.cell 3 _ rfl; have u4 := R3.cell 4 _ rfl; have u5 := R3.cell 5 _ rfl; have u6 := fun j => R3.frozen j; clear hans R3))
        exact cell_door Try.results27 (w4 := six w3 w.heap.size k9 s9 n9 c9 h9 (.slice a9 l9 d9)) (x := .int .i64 x9) (y := .int .i64 y9) rfl rfl rfl (six_row k9 s9 n9 c9 h9 (.slice a9 l9 d9) HR3.out) (RpAns.up HANS.out (below_boxes w _ _) (six_fr w3 w.heap.size k9 s9 n9 c9 h9 (.slice a9 l9 d9)) (Nat.le_refl _) (by simp; omega))
    · have HN := hid (num_fails (cap := cap) hB hL hL1 hm hq)
      have HR : Hid ((allA PF.zero l).1 = e0) := by
        show _ = _
        rw [HAL.out]
        exact str_bad hq h0
      have h0b : (e0 == 0) = false := by simpa using h0
      clear HAL hB hL hm hq hk hc
      go_enter Try.func27, Try.ntmps27
      go_wp2_with (go_at_call 53; refine (HN.out _ (below_boxes w _ _)).mono ?_; rintro e w' ⟨y1, rfl, rfl⟩)
      exact cell_door Try.results27 (x := .int .i64 y1) (y := .int .i64 e0) rfl rfl rfl (row_first w _ 1 (S : Int) 0 0 0 (.slice none 0 0)) (RpAns.no (below_boxes w _ _) HR.out h0)
set_option maxHeartbeats 4000000 in
theorem rread_2 {w : World} {a : Option Addr} {l r : List (BitVec 8)} {x : BitVec 8} {L cap : Nat} (hB : BytesAt w a l) (hL : l.length = L) (hm : L ≤ 140737488351232) (hc : L ≤ cap) (hl : l = x :: r) (hk : ub x = 2) : Calls Try.prog 27 #[.slice a L cap] w (RpAns w L (allA PF.zero l)) := by
  have HC := hid hc
  have hL1 : 1 ≤ L := by rw [← hL, hl]; simp
  have HLB : Hid ((L : Int) ≤ 140737488351232) := by show _ ≤ _; omega
  have hld : l.drop 1 = r := by rw [hl]; rfl
  obtain ⟨g, o, rfl, hcx⟩ := hB 0 (by omega)
  have hx0 : l[0]'(by omega) = x := by simp [hl]
  rw [hx0, hk, Nat.add_zero] at hcx
  have hg := World.block_lt_of_cell? w _ hcx
  simp only at hg
  have hne : ((L : Int) == 0) = false := by simp; omega
  have hL0 : (0 : Int) < (L : Int) := by omega
  have HAL : Hid (allA PF.zero l = allD (flds 2) { PF.zero with k := 2 } (l.drop 1)) := by
    show _ = _
    rw [hld, hl, show x = by8 2 by rw [← by8_of x, hk], allA_kind (k := 2) (by decide)]
    rfl
  have HST := hid (fun W => strd_any W 2)
  clear hl hx0 hld
  have hst : decide (Strd 2) = true := by decide
  rw [hst] at HST
  clear hst
  cases hq : numD 9 0 0 (l.drop 1) with
  | mk e0 r0 =>
    obtain ⟨S, m⟩ := r0
    by_cases h0 : e0 = 0
    · subst h0
      obtain ⟨A2, h2, hA2, hm2, hS62⟩ := num_at hL hL1 hq
      have HN := hid (num_calls (cap := cap) hB hL hL1 hm hq h2)
      have HR0 := hid (HAL.out.trans (str_ok (f := 42) (F := { PF.zero with k := 2 }) hq))
      by_cases hs0 : S = 0
      · subst hs0
        have HR : Hid ((allA PF.zero l).1 = 172) := by
          show _ = _
          rw [HR0.out, if_pos (by decide)]
        clear HAL HR0 hB hL hm hq h2 hm2 hk hc
        go_enter Try.func27, Try.ntmps27
        go_wp2_with (first | (go_at_call 53; refine (HN.out _ (below_boxes w _ _)).mono ?_; rintro e w' ⟨rfl, rfl⟩) | (go_at_call 39; refine (HST.out _).mono ?_; rintro e w' ⟨rfl, rfl⟩))
        exact cell_door Try.results27 (x := .int .i64 (A2 : Int)) (y := .int .i64 172) rfl rfl rfl (row_first w _ 2 0 0 0 0 (.slice none 0 0)) (RpAns.no (below_boxes w _ _) HR.out (by decide))
      · have hsb : ((S : Int) == 0) = false := by simpa using hs0
        have hfit : fitB 42 { PF.zero with k := 2, s := (S : Int) } = true := decide_eq_true (show Nmd (S : Int) by unfold Nmd; omega)
        have HR1 := hid (HR0.out.trans (if_neg (by rw [hfit]; simp)))
        clear HAL HR0 hfit hs0
        have HCA : Hid (∀ W, Below w.heap.size w W → Calls Try.prog 55 #[.agg #[.int .i64 2, .int .u64 (S : Int), .int .u64 0, .int .i64 0, .int .i64 0, .slice none 0 0], .slice (some ⟨g, o, none⟩) L cap, .int .i64 (A2 : Int)] W (RpAns W L (allA PF.zero l))) := fun W hb => by
          rw [HR1.out, hm2]
          exact (rpiece_any (cap := cap) ⟨2, (S : Int), 0, 0, 0, []⟩ (hB.kept hb) hL hA2 hm hc)
        clear HR1 hB hL hm hq h2 hm2 hk hc
        go_enter Try.func27, Try.ntmps27
        go_wp2_with (first | (go_at_call 53; refine (HN.out _ (below_boxes w _ _)).mono ?_; rintro e w' ⟨rfl, rfl⟩) | (go_at_call 39; refine (HST.out _).mono ?_; rintro e w' ⟨rfl, rfl⟩) | (go_at_call 55; refine (HCA.out _ (below_boxes w _ _)).mono ?_; intro e w3 hans; have HANS := hid hans; obtain ⟨k9, s9, n9, c9, h9, x9, y9, a9, l9, d9, rfl⟩ := hans.shape; have R3 := (row_first w (.cells #[.int .i64 2, .int .u64 (S : Int), .int .u64 0, .int .i64 0, .int .i64 0, .slice none 0 0] 25) 0 0 0 0 0 (.slice none 0 0)).kept hans.1 (by simp; omega); have HR3 := hid R3; have u0 := R3.cell 0 _ rfl; have u1 := R3.cell 1 _ rfl; have u2 := R3.cell 2 _ rfl; have u3 := R3.cell 3 _ rfl; have u4 := R3.cell 4 _ rfl; have u5 := R3.cell 5 _ rfl; have u6 := fun j => R3.frozen j; clear hans R3))
        exact cell_door Try.results27 (w4 := six w3 w.heap.size k9 s9 n9 c9 h9 (.slice a9 l9 d9)) (x := .int .i64 x9) (y := .int .i64 y9) rfl rfl rfl (six_row k9 s9 n9 c9 h9 (.slice a9 l9 d9) HR3.out) (RpAns.up HANS.out (below_boxes w _ _) (six_fr w3 w.heap.size k9 s9 n9 c9 h9 (.slice a9 l9 d9)) (Nat.le_refl _) (by simp; omega))
    · have HN := hid (num_fails (cap := cap) hB hL hL1 hm hq)
      have HR : Hid ((allA PF.zero l).1 = e0) := by
        show _ = _
        rw [HAL.out]
        exact str_bad hq h0
      have h0b : (e0 == 0) = false := by simpa using h0
      clear HAL hB hL hm hq hk hc
      go_enter Try.func27, Try.ntmps27
      go_wp2_with (go_at_call 53; refine (HN.out _ (below_boxes w _ _)).mono ?_; rintro e w' ⟨y1, rfl, rfl⟩)
      exact cell_door Try.results27 (x := .int .i64 y1) (y := .int .i64 e0) rfl rfl rfl (row_first w _ 2 (S : Int) 0 0 0 (.slice none 0 0)) (RpAns.no (below_boxes w _ _) HR.out h0)
set_option maxHeartbeats 4000000 in
theorem rread_3 {w : World} {a : Option Addr} {l r : List (BitVec 8)} {x : BitVec 8} {L cap : Nat} (hB : BytesAt w a l) (hL : l.length = L) (hm : L ≤ 140737488351232) (hc : L ≤ cap) (hl : l = x :: r) (hk : ub x = 3) : Calls Try.prog 27 #[.slice a L cap] w (RpAns w L (allA PF.zero l)) := by
  have HC := hid hc
  have hL1 : 1 ≤ L := by rw [← hL, hl]; simp
  have HLB : Hid ((L : Int) ≤ 140737488351232) := by show _ ≤ _; omega
  have hld : l.drop 1 = r := by rw [hl]; rfl
  obtain ⟨g, o, rfl, hcx⟩ := hB 0 (by omega)
  have hx0 : l[0]'(by omega) = x := by simp [hl]
  rw [hx0, hk, Nat.add_zero] at hcx
  have hg := World.block_lt_of_cell? w _ hcx
  simp only at hg
  have hne : ((L : Int) == 0) = false := by simp; omega
  have hL0 : (0 : Int) < (L : Int) := by omega
  have HAL : Hid (allA PF.zero l = allD (flds 3) { PF.zero with k := 3 } (l.drop 1)) := by
    show _ = _
    rw [hld, hl, show x = by8 3 by rw [← by8_of x, hk], allA_kind (k := 3) (by decide)]
    rfl
  have HST := hid (fun W => strd_any W 3)
  clear hl hx0 hld
  have hst : decide (Strd 3) = false := by decide
  rw [hst] at HST
  clear hst
  cases hq : numD 9 0 0 (l.drop 1) with
  | mk e0 r0 =>
    obtain ⟨S, m⟩ := r0
    by_cases h0 : e0 = 0
    · subst h0
      obtain ⟨A2, h2, hA2, hm2, hS62⟩ := num_at hL hL1 hq
      have HN := hid (num_calls (cap := cap) hB hL hL1 hm hq h2)
      have HR0 := hid (HAL.out.trans (str_ok (f := 49) (F := { PF.zero with k := 3 }) hq))
      have HR1 := hid (HR0.out.trans (if_neg (by simp [fitB])))
      clear HAL HR0
      have HR2 : Hid (allA PF.zero l = allD [(50, 49)] ⟨3, (S : Int), 0, 0, 0, []⟩ (l.drop A2)) := HR1.out.trans (by subst hm2; rfl)
      cases hq2 : numD 9 0 0 (l.drop A2) with
      | mk e1 r1 =>
        obtain ⟨T, m3⟩ := r1
        by_cases h1 : e1 = 0
        · subst h1
          obtain ⟨A3, h3, hA3, hm3, _⟩ := num_at hL hA2 hq2
          have HN2 := hid (num_calls (cap := cap) hB hL hA2 hm hq2 h3)
          have HR : Hid (allA PF.zero l = (0, ⟨3, (S : Int), (T : Int), 0, 0, []⟩, m3)) := HR2.out.trans (n_ok hq2)
          have H3 := hid h3
          clear HR1 HR2 hB hL hm hq h2 hm2 hk hc hq2 h3 hm3
          go_enter Try.func27, Try.ntmps27
          go_wp2_with (first | (go_at_call 39; refine (HST.out _).mono ?_; rintro e w' ⟨rfl, rfl⟩) | (go_at_call_of 53 (Value.int IntKind.i64 1); refine (HN.out _ (below_boxes w _ _)).mono ?_; rintro e w' ⟨rfl, rfl⟩) | (go_at_call 53; refine (HN2.out _ (below_boxes w _ _)).mono ?_; rintro e w' ⟨rfl, rfl⟩))
          exact cell_door Try.results27 (x := .int .i64 (A3 : Int)) (y := .int .i64 0) rfl rfl rfl (row_first w _ 3 (S : Int) (T : Int) 0 0 (.slice none 0 0)) (RpAns.yes (F := ⟨3, (S : Int), (T : Int), 0, 0, []⟩) (below_boxes w _ _) HR.out H3.out.symm rfl)
        · have HN2 := hid (num_fails (cap := cap) hB hL hA2 hm hq2)
          have HR : Hid ((allA PF.zero l).1 = e1) := by
            show _ = _
            rw [HR2.out]
            exact n_bad hq2 h1
          clear HR1 HR2 hB hL hm hq h2 hm2 hk hc hq2
          go_enter Try.func27, Try.ntmps27
          go_wp2_with (first | (go_at_call 39; refine (HST.out _).mono ?_; rintro e w' ⟨rfl, rfl⟩) | (go_at_call_of 53 (Value.int IntKind.i64 1); refine (HN.out _ (below_boxes w _ _)).mono ?_; rintro e w' ⟨rfl, rfl⟩) | (go_at_call 53; refine (HN2.out _ (below_boxes w _ _)).mono ?_; rintro e w' ⟨y1, rfl, rfl⟩))
          exact cell_door Try.results27 (x := .int .i64 y1) (y := .int .i64 e1) rfl rfl rfl (row_first w _ 3 (S : Int) (T : Int) 0 0 (.slice none 0 0)) (RpAns.no (below_boxes w _ _) HR.out h1)
    · have HN := hid (num_fails (cap := cap) hB hL hL1 hm hq)
      have HR : Hid ((allA PF.zero l).1 = e0) := by
        show _ = _
        rw [HAL.out]
        exact str_bad hq h0
      have h0b : (e0 == 0) = false := by simpa using h0
      clear HAL hB hL hm hq hk hc
      go_enter Try.func27, Try.ntmps27
      go_wp2_with (go_at_call 53; refine (HN.out _ (below_boxes w _ _)).mono ?_; rintro e w' ⟨y1, rfl, rfl⟩)
      exact cell_door Try.results27 (x := .int .i64 y1) (y := .int .i64 e0) rfl rfl rfl (row_first w _ 3 (S : Int) 0 0 0 (.slice none 0 0)) (RpAns.no (below_boxes w _ _) HR.out h0)
set_option maxHeartbeats 4000000 in
theorem rread_4 {w : World} {a : Option Addr} {l r : List (BitVec 8)} {x : BitVec 8} {L cap : Nat} (hB : BytesAt w a l) (hL : l.length = L) (hm : L ≤ 140737488351232) (hc : L ≤ cap) (hl : l = x :: r) (hk : ub x = 4) : Calls Try.prog 27 #[.slice a L cap] w (RpAns w L (allA PF.zero l)) := by
  have HC := hid hc
  have hL1 : 1 ≤ L := by rw [← hL, hl]; simp
  have HLB : Hid ((L : Int) ≤ 140737488351232) := by show _ ≤ _; omega
  have hld : l.drop 1 = r := by rw [hl]; rfl
  obtain ⟨g, o, rfl, hcx⟩ := hB 0 (by omega)
  have hx0 : l[0]'(by omega) = x := by simp [hl]
  rw [hx0, hk, Nat.add_zero] at hcx
  have hg := World.block_lt_of_cell? w _ hcx
  simp only at hg
  have hne : ((L : Int) == 0) = false := by simp; omega
  have hL0 : (0 : Int) < (L : Int) := by omega
  have HAL : Hid (allA PF.zero l = allD (flds 4) { PF.zero with k := 4 } (l.drop 1)) := by
    show _ = _
    rw [hld, hl, show x = by8 4 by rw [← by8_of x, hk], allA_kind (k := 4) (by decide)]
    rfl
  have HST := hid (fun W => strd_any W 4)
  clear hl hx0 hld
  have hst : decide (Strd 4) = true := by decide
  rw [hst] at HST
  clear hst
  cases hq : numD 9 0 0 (l.drop 1) with
  | mk e0 r0 =>
    obtain ⟨S, m⟩ := r0
    by_cases h0 : e0 = 0
    · subst h0
      obtain ⟨A2, h2, hA2, hm2, hS62⟩ := num_at hL hL1 hq
      have HN := hid (num_calls (cap := cap) hB hL hL1 hm hq h2)
      have HR0 := hid (HAL.out.trans (str_ok (f := 42) (F := { PF.zero with k := 4 }) hq))
      by_cases hs0 : S = 0
      · subst hs0
        have HR : Hid ((allA PF.zero l).1 = 172) := by
          show _ = _
          rw [HR0.out, if_pos (by decide)]
        clear HAL HR0 hB hL hm hq h2 hm2 hk hc
        go_enter Try.func27, Try.ntmps27
        go_wp2_with (first | (go_at_call 53; refine (HN.out _ (below_boxes w _ _)).mono ?_; rintro e w' ⟨rfl, rfl⟩) | (go_at_call 39; refine (HST.out _).mono ?_; rintro e w' ⟨rfl, rfl⟩))
        exact cell_door Try.results27 (x := .int .i64 (A2 : Int)) (y := .int .i64 172) rfl rfl rfl (row_first w _ 4 0 0 0 0 (.slice none 0 0)) (RpAns.no (below_boxes w _ _) HR.out (by decide))
      · have hsb : ((S : Int) == 0) = false := by simpa using hs0
        have hfit : fitB 42 { PF.zero with k := 4, s := (S : Int) } = true := decide_eq_true (show Nmd (S : Int) by unfold Nmd; omega)
        have HR1 := hid (HR0.out.trans (if_neg (by rw [hfit]; simp)))
        clear HAL HR0 hfit hs0
        have HR : Hid (allA PF.zero l = (0, ⟨4, (S : Int), 0, 0, 0, []⟩, m)) := HR1.out
        have H2 := hid h2
        clear HR1 hB hL hm hq h2 hm2 hk hc
        go_enter Try.func27, Try.ntmps27
        go_wp2_with (first | (go_at_call 53; refine (HN.out _ (below_boxes w _ _)).mono ?_; rintro e w' ⟨rfl, rfl⟩) | (go_at_call 39; refine (HST.out _).mono ?_; rintro e w' ⟨rfl, rfl⟩))
        exact cell_door Try.results27 (x := .int .i64 (A2 : Int)) (y := .int .i64 0) rfl rfl rfl (row_first w _ 4 (S : Int) 0 0 0 (.slice none 0 0)) (RpAns.yes (F := ⟨4, (S : Int), 0, 0, 0, []⟩) (below_boxes w _ _) HR.out H2.out.symm rfl)
    · have HN := hid (num_fails (cap := cap) hB hL hL1 hm hq)
      have HR : Hid ((allA PF.zero l).1 = e0) := by
        show _ = _
        rw [HAL.out]
        exact str_bad hq h0
      have h0b : (e0 == 0) = false := by simpa using h0
      clear HAL hB hL hm hq hk hc
      go_enter Try.func27, Try.ntmps27
      go_wp2_with (go_at_call 53; refine (HN.out _ (below_boxes w _ _)).mono ?_; rintro e w' ⟨y1, rfl, rfl⟩)
      exact cell_door Try.results27 (x := .int .i64 y1) (y := .int .i64 e0) rfl rfl rfl (row_first w _ 4 (S : Int) 0 0 0 (.slice none 0 0)) (RpAns.no (below_boxes w _ _) HR.out h0)
set_option maxHeartbeats 4000000 in
theorem rread_5 {w : World} {a : Option Addr} {l r : List (BitVec 8)} {x : BitVec 8} {L cap : Nat} (hB : BytesAt w a l) (hL : l.length = L) (hm : L ≤ 140737488351232) (hc : L ≤ cap) (hl : l = x :: r) (hk : ub x = 5) : Calls Try.prog 27 #[.slice a L cap] w (RpAns w L (allA PF.zero l)) := by
  have HC := hid hc
  have hL1 : 1 ≤ L := by rw [← hL, hl]; simp
  have HLB : Hid ((L : Int) ≤ 140737488351232) := by show _ ≤ _; omega
  have hld : l.drop 1 = r := by rw [hl]; rfl
  obtain ⟨g, o, rfl, hcx⟩ := hB 0 (by omega)
  have hx0 : l[0]'(by omega) = x := by simp [hl]
  rw [hx0, hk, Nat.add_zero] at hcx
  have hg := World.block_lt_of_cell? w _ hcx
  simp only at hg
  have hne : ((L : Int) == 0) = false := by simp; omega
  have hL0 : (0 : Int) < (L : Int) := by omega
  have HAL : Hid (allA PF.zero l = allD (flds 5) { PF.zero with k := 5 } (l.drop 1)) := by
    show _ = _
    rw [hld, hl, show x = by8 5 by rw [← by8_of x, hk], allA_kind (k := 5) (by decide)]
    rfl
  have HST := hid (fun W => strd_any W 5)
  clear hl hx0 hld
  have hst : decide (Strd 5) = true := by decide
  rw [hst] at HST
  clear hst
  cases hq : numD 9 0 0 (l.drop 1) with
  | mk e0 r0 =>
    obtain ⟨S, m⟩ := r0
    by_cases h0 : e0 = 0
    · subst h0
      obtain ⟨A2, h2, hA2, hm2, hS62⟩ := num_at hL hL1 hq
      have HN := hid (num_calls (cap := cap) hB hL hL1 hm hq h2)
      have HR0 := hid (HAL.out.trans (str_ok (f := 42) (F := { PF.zero with k := 5 }) hq))
      by_cases hs0 : S = 0
      · subst hs0
        have HR : Hid ((allA PF.zero l).1 = 172) := by
          show _ = _
          rw [HR0.out, if_pos (by decide)]
        clear HAL HR0 hB hL hm hq h2 hm2 hk hc
        go_enter Try.func27, Try.ntmps27
        go_wp2_with (first | (go_at_call 53; refine (HN.out _ (below_boxes w _ _)).mono ?_; rintro e w' ⟨rfl, rfl⟩) | (go_at_call 39; refine (HST.out _).mono ?_; rintro e w' ⟨rfl, rfl⟩))
        exact cell_door Try.results27 (x := .int .i64 (A2 : Int)) (y := .int .i64 172) rfl rfl rfl (row_first w _ 5 0 0 0 0 (.slice none 0 0)) (RpAns.no (below_boxes w _ _) HR.out (by decide))
      · have hsb : ((S : Int) == 0) = false := by simpa using hs0
        have hfit : fitB 42 { PF.zero with k := 5, s := (S : Int) } = true := decide_eq_true (show Nmd (S : Int) by unfold Nmd; omega)
        have HR1 := hid (HR0.out.trans (if_neg (by rw [hfit]; simp)))
        clear HAL HR0 hfit hs0
        have HR2 : Hid (allA PF.zero l = allD [(50, 49)] ⟨5, (S : Int), 0, 0, 0, []⟩ (l.drop A2)) := HR1.out.trans (by subst hm2; rfl)
        cases hq2 : numD 9 0 0 (l.drop A2) with
        | mk e1 r1 =>
          obtain ⟨T, m3⟩ := r1
          by_cases h1 : e1 = 0
          · subst h1
            obtain ⟨A3, h3, hA3, hm3, _⟩ := num_at hL hA2 hq2
            have HN2 := hid (num_calls (cap := cap) hB hL hA2 hm hq2 h3)
            have HR : Hid (allA PF.zero l = (0, ⟨5, (S : Int), (T : Int), 0, 0, []⟩, m3)) := HR2.out.trans (n_ok hq2)
            have H3 := hid h3
            clear HR1 HR2 hB hL hm hq h2 hm2 hk hc hq2 h3 hm3
            go_enter Try.func27, Try.ntmps27
            go_wp2_with (first | (go_at_call 39; refine (HST.out _).mono ?_; rintro e w' ⟨rfl, rfl⟩) | (go_at_call_of 53 (Value.int IntKind.i64 1); refine (HN.out _ (below_boxes w _ _)).mono ?_; rintro e w' ⟨rfl, rfl⟩) | (go_at_call 53; refine (HN2.out _ (below_boxes w _ _)).mono ?_; rintro e w' ⟨rfl, rfl⟩))
            exact cell_door Try.results27 (x := .int .i64 (A3 : Int)) (y := .int .i64 0) rfl rfl rfl (row_first w _ 5 (S : Int) (T : Int) 0 0 (.slice none 0 0)) (RpAns.yes (F := ⟨5, (S : Int), (T : Int), 0, 0, []⟩) (below_boxes w _ _) HR.out H3.out.symm rfl)
          · have HN2 := hid (num_fails (cap := cap) hB hL hA2 hm hq2)
            have HR : Hid ((allA PF.zero l).1 = e1) := by
              show _ = _
              rw [HR2.out]
              exact n_bad hq2 h1
            clear HR1 HR2 hB hL hm hq h2 hm2 hk hc hq2
            go_enter Try.func27, Try.ntmps27
            go_wp2_with (first | (go_at_call 39; refine (HST.out _).mono ?_; rintro e w' ⟨rfl, rfl⟩) | (go_at_call_of 53 (Value.int IntKind.i64 1); refine (HN.out _ (below_boxes w _ _)).mono ?_; rintro e w' ⟨rfl, rfl⟩) | (go_at_call 53; refine (HN2.out _ (below_boxes w _ _)).mono ?_; rintro e w' ⟨y1, rfl, rfl⟩))
            exact cell_door Try.results27 (x := .int .i64 y1) (y := .int .i64 e1) rfl rfl rfl (row_first w _ 5 (S : Int) (T : Int) 0 0 (.slice none 0 0)) (RpAns.no (below_boxes w _ _) HR.out h1)
    · have HN := hid (num_fails (cap := cap) hB hL hL1 hm hq)
      have HR : Hid ((allA PF.zero l).1 = e0) := by
        show _ = _
        rw [HAL.out]
        exact str_bad hq h0
      have h0b : (e0 == 0) = false := by simpa using h0
      clear HAL hB hL hm hq hk hc
      go_enter Try.func27, Try.ntmps27
      go_wp2_with (go_at_call 53; refine (HN.out _ (below_boxes w _ _)).mono ?_; rintro e w' ⟨y1, rfl, rfl⟩)
      exact cell_door Try.results27 (x := .int .i64 y1) (y := .int .i64 e0) rfl rfl rfl (row_first w _ 5 (S : Int) 0 0 0 (.slice none 0 0)) (RpAns.no (below_boxes w _ _) HR.out h0)
set_option maxHeartbeats 4000000 in
theorem rread_6 {w : World} {a : Option Addr} {l r : List (BitVec 8)} {x : BitVec 8} {L cap : Nat} (hB : BytesAt w a l) (hL : l.length = L) (hm : L ≤ 140737488351232) (hc : L ≤ cap) (hl : l = x :: r) (hk : ub x = 6) : Calls Try.prog 27 #[.slice a L cap] w (RpAns w L (allA PF.zero l)) := by
  have HC := hid hc
  have hL1 : 1 ≤ L := by rw [← hL, hl]; simp
  have HLB : Hid ((L : Int) ≤ 140737488351232) := by show _ ≤ _; omega
  have hld : l.drop 1 = r := by rw [hl]; rfl
  obtain ⟨g, o, rfl, hcx⟩ := hB 0 (by omega)
  have hx0 : l[0]'(by omega) = x := by simp [hl]
  rw [hx0, hk, Nat.add_zero] at hcx
  have hg := World.block_lt_of_cell? w _ hcx
  simp only at hg
  have hne : ((L : Int) == 0) = false := by simp; omega
  have hL0 : (0 : Int) < (L : Int) := by omega
  have HAL : Hid (allA PF.zero l = allD (flds 6) { PF.zero with k := 6 } (l.drop 1)) := by
    show _ = _
    rw [hld, hl, show x = by8 6 by rw [← by8_of x, hk], allA_kind (k := 6) (by decide)]
    rfl
  have HST := hid (fun W => strd_any W 6)
  clear hl hx0 hld
  have hst : decide (Strd 6) = true := by decide
  rw [hst] at HST
  clear hst
  cases hq : numD 9 0 0 (l.drop 1) with
  | mk e0 r0 =>
    obtain ⟨S, m⟩ := r0
    by_cases h0 : e0 = 0
    · subst h0
      obtain ⟨A2, h2, hA2, hm2, hS62⟩ := num_at hL hL1 hq
      have HN := hid (num_calls (cap := cap) hB hL hL1 hm hq h2)
      have HR0 := hid (HAL.out.trans (str_ok (f := 42) (F := { PF.zero with k := 6 }) hq))
      by_cases hs0 : S = 0
      · subst hs0
        have HR : Hid ((allA PF.zero l).1 = 172) := by
          show _ = _
          rw [HR0.out, if_pos (by decide)]
        clear HAL HR0 hB hL hm hq h2 hm2 hk hc
        go_enter Try.func27, Try.ntmps27
        go_wp2_with (first | (go_at_call 53; refine (HN.out _ (below_boxes w _ _)).mono ?_; rintro e w' ⟨rfl, rfl⟩) | (go_at_call 39; refine (HST.out _).mono ?_; rintro e w' ⟨rfl, rfl⟩))
        exact cell_door Try.results27 (x := .int .i64 (A2 : Int)) (y := .int .i64 172) rfl rfl rfl (row_first w _ 6 0 0 0 0 (.slice none 0 0)) (RpAns.no (below_boxes w _ _) HR.out (by decide))
      · have hsb : ((S : Int) == 0) = false := by simpa using hs0
        have hfit : fitB 42 { PF.zero with k := 6, s := (S : Int) } = true := decide_eq_true (show Nmd (S : Int) by unfold Nmd; omega)
        have HR1 := hid (HR0.out.trans (if_neg (by rw [hfit]; simp)))
        clear HAL HR0 hfit hs0
        have HR2 : Hid (allA PF.zero l = allD [(50, 49)] ⟨6, (S : Int), 0, 0, 0, []⟩ (l.drop A2)) := HR1.out.trans (by subst hm2; rfl)
        cases hq2 : numD 9 0 0 (l.drop A2) with
        | mk e1 r1 =>
          obtain ⟨T, m3⟩ := r1
          by_cases h1 : e1 = 0
          · subst h1
            obtain ⟨A3, h3, hA3, hm3, _⟩ := num_at hL hA2 hq2
            have HN2 := hid (num_calls (cap := cap) hB hL hA2 hm hq2 h3)
            have HR : Hid (allA PF.zero l = (0, ⟨6, (S : Int), (T : Int), 0, 0, []⟩, m3)) := HR2.out.trans (n_ok hq2)
            have H3 := hid h3
            clear HR1 HR2 hB hL hm hq h2 hm2 hk hc hq2 h3 hm3
            go_enter Try.func27, Try.ntmps27
            go_wp2_with (first | (go_at_call 39; refine (HST.out _).mono ?_; rintro e w' ⟨rfl, rfl⟩) | (go_at_call_of 53 (Value.int IntKind.i64 1); refine (HN.out _ (below_boxes w _ _)).mono ?_; rintro e w' ⟨rfl, rfl⟩) | (go_at_call 53; refine (HN2.out _ (below_boxes w _ _)).mono ?_; rintro e w' ⟨rfl, rfl⟩))
            exact cell_door Try.results27 (x := .int .i64 (A3 : Int)) (y := .int .i64 0) rfl rfl rfl (row_first w _ 6 (S : Int) (T : Int) 0 0 (.slice none 0 0)) (RpAns.yes (F := ⟨6, (S : Int), (T : Int), 0, 0, []⟩) (below_boxes w _ _) HR.out H3.out.symm rfl)
          · have HN2 := hid (num_fails (cap := cap) hB hL hA2 hm hq2)
            have HR : Hid ((allA PF.zero l).1 = e1) := by
              show _ = _
              rw [HR2.out]
              exact n_bad hq2 h1
            clear HR1 HR2 hB hL hm hq h2 hm2 hk hc hq2
            go_enter Try.func27, Try.ntmps27
            go_wp2_with (first | (go_at_call 39; refine (HST.out _).mono ?_; rintro e w' ⟨rfl, rfl⟩) | (go_at_call_of 53 (Value.int IntKind.i64 1); refine (HN.out _ (below_boxes w _ _)).mono ?_; rintro e w' ⟨rfl, rfl⟩) | (go_at_call 53; refine (HN2.out _ (below_boxes w _ _)).mono ?_; rintro e w' ⟨y1, rfl, rfl⟩))
            exact cell_door Try.results27 (x := .int .i64 y1) (y := .int .i64 e1) rfl rfl rfl (row_first w _ 6 (S : Int) (T : Int) 0 0 (.slice none 0 0)) (RpAns.no (below_boxes w _ _) HR.out h1)
    · have HN := hid (num_fails (cap := cap) hB hL hL1 hm hq)
      have HR : Hid ((allA PF.zero l).1 = e0) := by
        show _ = _
        rw [HAL.out]
        exact str_bad hq h0
      have h0b : (e0 == 0) = false := by simpa using h0
      clear HAL hB hL hm hq hk hc
      go_enter Try.func27, Try.ntmps27
      go_wp2_with (go_at_call 53; refine (HN.out _ (below_boxes w _ _)).mono ?_; rintro e w' ⟨y1, rfl, rfl⟩)
      exact cell_door Try.results27 (x := .int .i64 y1) (y := .int .i64 e0) rfl rfl rfl (row_first w _ 6 (S : Int) 0 0 0 (.slice none 0 0)) (RpAns.no (below_boxes w _ _) HR.out h0)
set_option maxHeartbeats 4000000 in
theorem rread_9 {w : World} {a : Option Addr} {l r : List (BitVec 8)} {x : BitVec 8} {L cap : Nat} (hB : BytesAt w a l) (hL : l.length = L) (hm : L ≤ 140737488351232) (hc : L ≤ cap) (hl : l = x :: r) (hk : ub x = 9) : Calls Try.prog 27 #[.slice a L cap] w (RpAns w L (allA PF.zero l)) := by
  have HC := hid hc
  have hL1 : 1 ≤ L := by rw [← hL, hl]; simp
  have HLB : Hid ((L : Int) ≤ 140737488351232) := by show _ ≤ _; omega
  have hld : l.drop 1 = r := by rw [hl]; rfl
  obtain ⟨g, o, rfl, hcx⟩ := hB 0 (by omega)
  have hx0 : l[0]'(by omega) = x := by simp [hl]
  rw [hx0, hk, Nat.add_zero] at hcx
  have hg := World.block_lt_of_cell? w _ hcx
  simp only at hg
  have hne : ((L : Int) == 0) = false := by simp; omega
  have hL0 : (0 : Int) < (L : Int) := by omega
  have HAL : Hid (allA PF.zero l = allD (flds 9) { PF.zero with k := 9 } (l.drop 1)) := by
    show _ = _
    rw [hld, hl, show x = by8 9 by rw [← by8_of x, hk], allA_kind (k := 9) (by decide)]
    rfl
  have HST := hid (fun W => strd_any W 9)
  clear hl hx0 hld
  have hst : decide (Strd 9) = false := by decide
  rw [hst] at HST
  clear hst
  cases hq : numD 9 0 0 (l.drop 1) with
  | mk e0 r0 =>
    obtain ⟨S, m⟩ := r0
    by_cases h0 : e0 = 0
    · subst h0
      obtain ⟨A2, h2, hA2, hm2, hS62⟩ := num_at hL hL1 hq
      have HN := hid (num_calls (cap := cap) hB hL hL1 hm hq h2)
      have HR0 := hid (HAL.out.trans (str_ok (f := 49) (F := { PF.zero with k := 9 }) hq))
      have HR1 := hid (HR0.out.trans (if_neg (by simp [fitB])))
      clear HAL HR0
      have HR2 : Hid (allA PF.zero l = allD [(50, 49)] ⟨9, (S : Int), 0, 0, 0, []⟩ (l.drop A2)) := HR1.out.trans (by subst hm2; rfl)
      cases hq2 : numD 9 0 0 (l.drop A2) with
      | mk e1 r1 =>
        obtain ⟨T, m3⟩ := r1
        by_cases h1 : e1 = 0
        · subst h1
          obtain ⟨A3, h3, hA3, hm3, _⟩ := num_at hL hA2 hq2
          have HN2 := hid (num_calls (cap := cap) hB hL hA2 hm hq2 h3)
          have HR : Hid (allA PF.zero l = (0, ⟨9, (S : Int), (T : Int), 0, 0, []⟩, m3)) := HR2.out.trans (n_ok hq2)
          have H3 := hid h3
          clear HR1 HR2 hB hL hm hq h2 hm2 hk hc hq2 h3 hm3
          go_enter Try.func27, Try.ntmps27
          go_wp2_with (first | (go_at_call 39; refine (HST.out _).mono ?_; rintro e w' ⟨rfl, rfl⟩) | (go_at_call_of 53 (Value.int IntKind.i64 1); refine (HN.out _ (below_boxes w _ _)).mono ?_; rintro e w' ⟨rfl, rfl⟩) | (go_at_call 53; refine (HN2.out _ (below_boxes w _ _)).mono ?_; rintro e w' ⟨rfl, rfl⟩))
          exact cell_door Try.results27 (x := .int .i64 (A3 : Int)) (y := .int .i64 0) rfl rfl rfl (row_first w _ 9 (S : Int) (T : Int) 0 0 (.slice none 0 0)) (RpAns.yes (F := ⟨9, (S : Int), (T : Int), 0, 0, []⟩) (below_boxes w _ _) HR.out H3.out.symm rfl)
        · have HN2 := hid (num_fails (cap := cap) hB hL hA2 hm hq2)
          have HR : Hid ((allA PF.zero l).1 = e1) := by
            show _ = _
            rw [HR2.out]
            exact n_bad hq2 h1
          clear HR1 HR2 hB hL hm hq h2 hm2 hk hc hq2
          go_enter Try.func27, Try.ntmps27
          go_wp2_with (first | (go_at_call 39; refine (HST.out _).mono ?_; rintro e w' ⟨rfl, rfl⟩) | (go_at_call_of 53 (Value.int IntKind.i64 1); refine (HN.out _ (below_boxes w _ _)).mono ?_; rintro e w' ⟨rfl, rfl⟩) | (go_at_call 53; refine (HN2.out _ (below_boxes w _ _)).mono ?_; rintro e w' ⟨y1, rfl, rfl⟩))
          exact cell_door Try.results27 (x := .int .i64 y1) (y := .int .i64 e1) rfl rfl rfl (row_first w _ 9 (S : Int) (T : Int) 0 0 (.slice none 0 0)) (RpAns.no (below_boxes w _ _) HR.out h1)
    · have HN := hid (num_fails (cap := cap) hB hL hL1 hm hq)
      have HR : Hid ((allA PF.zero l).1 = e0) := by
        show _ = _
        rw [HAL.out]
        exact str_bad hq h0
      have h0b : (e0 == 0) = false := by simpa using h0
      clear HAL hB hL hm hq hk hc
      go_enter Try.func27, Try.ntmps27
      go_wp2_with (go_at_call 53; refine (HN.out _ (below_boxes w _ _)).mono ?_; rintro e w' ⟨y1, rfl, rfl⟩)
      exact cell_door Try.results27 (x := .int .i64 y1) (y := .int .i64 e0) rfl rfl rfl (row_first w _ 9 (S : Int) 0 0 0 (.slice none 0 0)) (RpAns.no (below_boxes w _ _) HR.out h0)
end Go.Proofs.Ytkhogbnoincbeaa
