import Derived.Test.YtkhogbnoincbeabRNum
import Derived.Test.YtkhogbnoincbeabDec0
namespace Go.Proofs.Ytkhogbnoincbeab
open Go.RowKit Go.Maps Go.Sort
set_option maxRecDepth 100000

theorem cell_door {fn : Func} {p q r : Tmp} (hr : fn.results = #[.cell p 41, .tmp q, .tmp r]) {tmps : Array Value} {w4 : World} {b0 : Nat} {k s n c h : Int} {d x y : Value} {R : Ending → World → Prop} (h4 : tmps.getD p undef = .pointer (some ⟨b0, 0, none⟩)) (h5 : tmps.getD q undef = x) (h6 : tmps.getD r undef = y) (R4 : Row w4 b0 [.int .i64 k, .int .u64 s, .int .u64 n, .int .i64 c, .int .i64 h, d] 41)
    (hR : R (.returned (.tuple #[.agg #[.int .i64 k, .int .u64 s, .int .u64 n, .int .i64 c, .int .i64 h, d], x, y])) w4) :
    bodyPost Try.prog fn R Exit.ret { tmps := tmps, defers := [] } w4 := by
  have z0 := R4.cell 0 _ rfl
  have z1 := R4.cell 1 _ rfl
  have z2 := R4.cell 2 _ rfl
  have z3 := R4.cell 3 _ rfl
  have z4 := R4.cell 4 _ rfl
  have z5 := R4.cell 5 _ rfl
  rw [Array.getD_eq_getD_getElem?] at h4 h5 h6
  refine bodyPost_ret (v := .tuple #[.agg #[.int .i64 k, .int .u64 s, .int .u64 n, .int .i64 c, .int .i64 h, d], x, y]) ?_ rfl hR
  simp [results, hr, go_sem, z0, z1, z2, z3, z4, z5, h4, h5, h6]
/-- What the reference's readers answer: r; d is the frame's Data. -/
def RfAns (w : World) (L : Nat) (d : Value) (r : Int × PF × List (BitVec 8)) (e : Ending) (w' : World) : Prop :=
  Below w.heap.size w w' ∧
  ((¬ r.1 = 0 ∧ ∃ (k s n c h x : Int), e = .returned (.tuple #[.agg #[.int .i64 k, .int .u64 s, .int .u64 n, .int .i64 c, .int .i64 h, d], .int .i64 x, .int .i64 r.1])) ∨
   (r.1 = 0 ∧ e = .returned (.tuple #[.agg #[.int .i64 r.2.1.k, .int .u64 r.2.1.s, .int .u64 r.2.1.n, .int .i64 r.2.1.c, .int .i64 r.2.1.h, d], .int .i64 ((L : Int) - (r.2.2.length : Int)), .int .i64 0])))
theorem below_boxes (w : World) (o1 o2 : Obj) : Below w.heap.size w ((w.alloc o1).alloc o2) := below_grow (below_new w o1) o2
theorem row_second (w : World) (o1 : Obj) (k s n c h : Int) (d : Value) : Row ((w.alloc o1).alloc (.cells #[.int .i64 k, .int .u64 s, .int .u64 n, .int .i64 c, .int .i64 h, d] 41)) (w.heap.size + 1) [.int .i64 k, .int .u64 s, .int .u64 n, .int .i64 c, .int .i64 h, d] 41 := Row.new' _ _ _ _ _ (by simp) rfl
theorem RfAns.no {w w' : World} {L : Nat} {d : Value} {r : Int × PF × List (BitVec 8)} {k s n c h x y : Int} (hb : Below w.heap.size w w') (hr : r.1 = y) (hy : ¬ y = 0) : RfAns w L d r (.returned (.tuple #[.agg #[.int .i64 k, .int .u64 s, .int .u64 n, .int .i64 c, .int .i64 h, d], .int .i64 x, .int .i64 y])) w' := ⟨hb, .inl ⟨by rw [hr]; exact hy, k, s, n, c, h, x, by rw [hr]⟩⟩
theorem RfAns.yes {w w' : World} {L : Nat} {d : Value} {r : Int × PF × List (BitVec 8)} {F : PF} {m : List (BitVec 8)} {x : Int} (hb : Below w.heap.size w w') (hr : r = (0, F, m)) (hx : x = (L : Int) - (m.length : Int)) : RfAns w L d r (.returned (.tuple #[.agg #[.int .i64 F.k, .int .u64 F.s, .int .u64 F.n, .int .i64 F.c, .int .i64 F.h, d], .int .i64 x, .int .i64 0])) w' := ⟨hb, .inr ⟨by rw [hr], by rw [hr, hx]⟩⟩
set_option maxHeartbeats 2000000 in
theorem ropen_any {w : World} {a : Option Addr} {l : List (BitVec 8)} {L cap A : Nat} (F : PF) (a9 : Option Addr) (n9 c9 : Nat) (hB : BytesAt w a l) (hL : l.length = L) (hA : A ≤ L) (hm : L ≤ 140737488351232) :
    Calls Try.prog 58 #[.agg #[.int .i64 F.k, .int .u64 F.s, .int .u64 F.n, .int .i64 F.c, .int .i64 F.h, .slice a9 n9 c9], .slice a L cap, .int .i64 (A : Int)] w (RfAns w L (.slice a9 n9 c9) (allD [(34, 35), (36, 37)] F (l.drop A))) := by
  have HAb : (A : Int) ≤ 140737488351232 := by omega
  have HB := hid hB
  have HL := hid hL
  have HM := hid hm
  clear hm
  by_cases hAL : A < L
  · have hAl : A < l.length := by omega
    obtain ⟨g, o, rfl, hc⟩ := hB A hAl
    have hg := World.block_lt_of_cell? w _ hc
    simp only at hg
    have hAL2 : (A : Int) < (L : Int) := by omega
    have hA0 : (0 : Int) ≤ (A : Int) := by omega
    have HD := hid (List.drop_eq_getElem_cons hAl)
    generalize l[A] = x at *
    have hx := ub_bd x
    by_cases h7 : 7 < ub x
    · have HR : Hid ((allD [(34, 35), (36, 37)] F (l.drop A)).1 = 172) := by
        show _ = _
        rw [HD.out]
        simp only [allD]
        have e : readF 34 F (x :: l.drop (A + 1)) = (0, { F with c := ub x }, l.drop (A + 1)) := rfl
        rw [e, if_neg (by simp), if_pos (by show decide (Cls (ub x)) = false; exact decide_eq_false (fun hh => by have := hh.2; omega))]
      clear hB hL hAl HD
      go_enter Try.func58, Try.ntmps58
      go_wp2
      exact cell_door Try.results58 (x := .int .i64 (A : Int)) (y := .int .i64 172) rfl rfl rfl (row_second w _ F.k F.s F.n F.c F.h (.slice a9 n9 c9)) (RfAns.no (below_boxes w _ _) HR.out (by decide))
    · have e43 : ∀ m, readF 34 F (x :: m) = (0, { F with c := ub x }, m) := fun _ => rfl
      have HR0 : Hid (allD [(34, 35), (36, 37)] F (l.drop A) = allD [(36, 37)] { F with c := ub x } (l.drop (A + 1))) := by
        show _ = _
        rw [HD.out]
        simp only [allD]
        rw [e43, if_neg (by simp), if_neg (by show ¬ decide (Cls (ub x)) = false; rw [decide_eq_true (show Cls (ub x) from ⟨by omega, by omega⟩)]; simp)]
      clear e43
      by_cases hAL3 : A + 1 < L
      · have hAl1 : A + 1 < l.length := by omega
        obtain ⟨g', o', e, hc1⟩ := hB (A + 1) hAl1
        cases e
        have HD1 := hid (List.drop_eq_getElem_cons hAl1)
        generalize l[A + 1] = y at *
        have hy := ub_bd y
        have hAL4 : (A : Int) + 1 < (L : Int) := by omega
        have hA1 : (0 : Int) ≤ (A : Int) + 1 := by omega
        by_cases hy0 : ub y = 0
        · have HR : Hid ((allD [(34, 35), (36, 37)] F (l.drop A)).1 = 172) := by
            show _ = _
            rw [HR0.out, HD1.out]
            simp only [allD]
            have e : readF 36 { F with c := ub x } (y :: l.drop (A + 1 + 1)) = (0, { F with c := ub x, h := ub y }, l.drop (A + 1 + 1)) := rfl
            rw [e, if_neg (by simp), if_pos (by show decide (Shr (ub y)) = false; exact decide_eq_false (fun hh => by have := hh.1; omega))]
          have hyb : (ub y == 0) = true := by simp [hy0]
          have HY0 := hid hy0
          clear hB hL hAl hAl1 HD HD1 HR0 hy0
          go_enter Try.func58, Try.ntmps58
          go_wp2
          exact cell_door Try.results58 (x := .int .i64 (A : Int)) (y := .int .i64 172) rfl rfl rfl (row_second w _ F.k F.s F.n (ub x) F.h (.slice a9 n9 c9)) (RfAns.no (below_boxes w _ _) HR.out (by decide))
        · have HR : Hid (allD [(34, 35), (36, 37)] F (l.drop A) = (0, { F with c := ub x, h := ub y }, l.drop (A + 2))) := by
            show _ = _
            rw [HR0.out, HD1.out]
            simp only [allD]
            have e : readF 36 { F with c := ub x } (y :: l.drop (A + 1 + 1)) = (0, { F with c := ub x, h := ub y }, l.drop (A + 1 + 1)) := rfl
            rw [e, if_neg (by simp), if_neg (by show ¬ decide (Shr (ub y)) = false; rw [decide_eq_true (show Shr (ub y) from ⟨by omega, by omega⟩)]; simp)]
          have hyb : (ub y == 0) = false := by simpa using hy0
          have HLL : Hid ((A : Int) + 2 = (L : Int) - ((l.drop (A + 2)).length : Int)) := by show _ = _; rw [List.length_drop, HL.out]; omega
          clear hB hL hAl hAl1 HD HD1 HR0 hy0
          go_enter Try.func58, Try.ntmps58
          go_wp2
          exact cell_door Try.results58 (x := .int .i64 ((A : Int) + 2)) (y := .int .i64 0) rfl rfl rfl (row_second w _ F.k F.s F.n (ub x) (ub y) (.slice a9 n9 c9)) (RfAns.yes (F := { F with c := ub x, h := ub y }) (below_boxes w _ _) HR.out HLL.out)
      · have hAL4 : (L : Int) ≤ (A : Int) + 1 := by omega
        have HR : Hid ((allD [(34, 35), (36, 37)] F (l.drop A)).1 = 174) := by
          show _ = _
          rw [HR0.out, List.drop_eq_nil_of_le (by omega)]
          rfl
        clear hB hL hAl HD HR0
        go_enter Try.func58, Try.ntmps58
        go_wp2
        exact cell_door Try.results58 (x := .int .i64 (A : Int)) (y := .int .i64 174) rfl rfl rfl (row_second w _ F.k F.s F.n (ub x) F.h (.slice a9 n9 c9)) (RfAns.no (below_boxes w _ _) HR.out (by decide))
  · have hAL2 : (L : Int) ≤ (A : Int) := by omega
    have HR : Hid ((allD [(34, 35), (36, 37)] F (l.drop A)).1 = 174) := by
      show _ = _
      rw [List.drop_eq_nil_of_le (by omega)]
      rfl
    clear hB hL
    go_enter Try.func58, Try.ntmps58
    go_wp2
    exact cell_door Try.results58 (x := .int .i64 (A : Int)) (y := .int .i64 174) rfl rfl rfl (row_second w _ F.k F.s F.n F.c F.h (.slice a9 n9 c9)) (RfAns.no (below_boxes w _ _) HR.out (by decide))
end Go.Proofs.Ytkhogbnoincbeab
