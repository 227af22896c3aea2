import Derived.Test.YtkhogbnoincbeabROpen
import Derived.Test.YtkhogbnoincbeabWrites
import Derived.Maps.AppendAt
import Derived.Deep.RegionLaw
import Derived.Deep.DrawnRows
namespace Go.Proofs.Ytkhogbnoincbeab
open Go.RowKit Go.Maps Go.Sort
set_option maxRecDepth 100000
attribute [local go_sem ↓] Go.wp_at_zero Go.wp_at_succ

/-- append and copy by their runs. -/
theorem wp_append_by {P : Program} {w : World} {o : Oper} {a : Act} {K : Act → World → Prop} {Q : Exit → Act → World → Prop} (s x : Operand) (t : TypeId)
    (ho : o.op = .call { callee := .builtin .append, args := #[s, x], argTypes := #[t, t] }) {v u v' : Value} {w' : World} (hs : a.eval s = v) (hx : a.eval x = u)
    (hr : (Builtin.append_ #[t, t] o.type #[v, u]).run P w = .ok v' w') (h : K (a.put o.dst v') w') : o.wp P a w K Q := by
  unfold Oper.wp execOp
  simp only [ho, resolve, invoke, builtin, Sem.run_bind, Sem.run_pure, Result.andThen_ok, List.map_toArray, List.map_cons, List.map_nil, hs, hx, hr]
  exact h
theorem wpList_append_by {P : Program} {w : World} {ops : Array Oper} {rest : List Oper} {o : Oper} {a : Act} {Q : Exit → Act → World → Prop} (hgd : o.guard = none) (s x : Operand) (t : TypeId)
    (ho : o.op = .call { callee := .builtin .append, args := #[s, x], argTypes := #[t, t] }) {v u v' : Value} {w' : World} (hs : a.eval s = v) (hx : a.eval x = u)
    (hr : (Builtin.append_ #[t, t] o.type #[v, u]).run P w = .ok v' w') (h : wpList P ops Q rest (a.put o.dst v') w') : wpList P ops Q (o :: rest) a w :=
  wpList_plain hgd fun _ hK => wp_append_by s x t ho hs hx hr (hK _ _ h)
theorem step_append_by {P : Program} {w : World} {ops : Array Oper} {o : Oper} {a : Act} {K : Act → World → Prop} {Q : Exit → Act → World → Prop} {E : Prop} (hgd : o.guard = none) (s x : Operand) (t : TypeId)
    (ho : o.op = .call { callee := .builtin .append, args := #[s, x], argTypes := #[t, t] }) {v u v' : Value} {w' : World} (hs : a.eval s = v) (hx : a.eval x = u)
    (hr : (Builtin.append_ #[t, t] o.type #[v, u]).run P w = .ok v' w') (h : K (a.put o.dst v') w') : if Region.wanted o (yielded ops a.tmps) = true then Oper.wp P o a w K Q else E := by
  have hw : Region.wanted o (yielded ops a.tmps) = true := by simp [Region.wanted, hgd]
  rw [if_pos hw]
  exact wp_append_by s x t ho hs hx hr h

/-- What the reference reads: r; the Data that it hands out is new. -/
def RpAns (w : World) (L : Nat) (r : Int × PF × List (BitVec 8)) (e : Ending) (w' : World) : Prop :=
  Below w.heap.size w w' ∧
  ((¬ r.1 = 0 ∧ ∃ (k s n c h x : Int) (a9 : Option Addr) (n9 c9 : Nat), e = .returned (.tuple #[.agg #[.int .i64 k, .int .u64 s, .int .u64 n, .int .i64 c, .int .i64 h, .slice a9 n9 c9], .int .i64 x, .int .i64 r.1])) ∨
   (r.1 = 0 ∧ ∃ (a9 : Option Addr) (c9 : Nat), e = .returned (.tuple #[.agg #[.int .i64 r.2.1.k, .int .u64 r.2.1.s, .int .u64 r.2.1.n, .int .i64 r.2.1.c, .int .i64 r.2.1.h, .slice a9 r.2.1.bs.length c9], .int .i64 ((L : Int) - (r.2.2.length : Int)), .int .i64 0]) ∧ BytesAt w' a9 r.2.1.bs ∧ (∀ g o, a9 = some ⟨g, o, none⟩ → w.heap.size ≤ g)))
theorem RpAns.no {w w' : World} {L : Nat} {a9 : Option Addr} {n9 c9 : Nat} {r : Int × PF × List (BitVec 8)} {k s n c h x y : Int} (hb : Below w.heap.size w w') (hr : r.1 = y) (hy : ¬ y = 0) : RpAns w L r (.returned (.tuple #[.agg #[.int .i64 k, .int .u64 s, .int .u64 n, .int .i64 c, .int .i64 h, .slice a9 n9 c9], .int .i64 x, .int .i64 y])) w' := ⟨hb, .inl ⟨by rw [hr]; exact hy, k, s, n, c, h, x, a9, n9, c9, by rw [hr]⟩⟩
theorem data_shut {F : PF} {l : List (BitVec 8)} : allD [(38, 39)] F l = (if ¬ (dataD F l).1 = 0 then dataD F l else if Fill (dataD F l).2.1.bs.length then (0, (dataD F l).2.1, (dataD F l).2.2) else (172, (dataD F l).2.1, (dataD F l).2.2)) := by
  simp only [allD]
  have e : readF 38 F l = dataD F l := rfl
  have e2 : fitB 39 (dataD F l).2.1 = decide (Fill (dataD F l).2.1.bs.length) := rfl
  rw [e, e2]
  by_cases h : (dataD F l).1 = 0
  · by_cases hf : Fill (dataD F l).2.1.bs.length
    · simp [h, hf]
    · simp [h, hf]
  · simp [h]
set_option maxHeartbeats 4000000 in
theorem rpiece_any {w : World} {a : Option Addr} {l : List (BitVec 8)} {L cap A : Nat} (F : PF) (hB : BytesAt w a l) (hL : l.length = L) (hA : A ≤ L) (hm : L ≤ 140737488351232) (hc : L ≤ cap) :
    Calls Try.prog 59 #[.agg #[.int .i64 F.k, .int .u64 F.s, .int .u64 F.n, .int .i64 F.c, .int .i64 F.h, .slice none 0 0], .slice a L cap, .int .i64 (A : Int)] w (RpAns w L (allD [(38, 39)] F (l.drop A))) := by
  have hbx := below_boxes w (.cells #[.int .i64 F.k, .int .u64 F.s, .int .u64 F.n, .int .i64 F.c, .int .i64 F.h, .slice none 0 0] 41) (.cells #[.int .i64 0, .int .u64 0, .int .u64 0, .int .i64 0, .int .i64 0, .slice none 0 0] 41)
  have HN := hid (rnumber_any (cap := cap) (hB.kept hbx) hL hA hm)
  have HR : Hid (allD [(38, 39)] F (l.drop A) = _) := data_shut
  unfold dataD at HR
  cases hq : numD 9 0 0 (l.drop A) with
  | mk e0 r0 =>
    obtain ⟨N, m⟩ := r0
    rw [hq] at HN HR
    simp only at HR
    by_cases h0 : e0 = 0
    · subst h0
      rw [if_neg (c := ¬ (0 : Int) = 0) (by simp)] at HR
      obtain ⟨hle, hN62⟩ := numD_of hq
      have hml : m.length ≤ L := by
        have := congrArg List.length hle
        rw [List.length_append, List.length_drop, hL] at this
        omega
      obtain ⟨A2, hA2⟩ : ∃ A2 : Nat, (L : Int) - (m.length : Int) = (A2 : Int) := ⟨L - m.length, by omega⟩
      have hmd : m = l.drop A2 := by
        have h1 : (l.drop A).drop (numB N).length = m := by rw [hle, List.drop_left]
        have h2 := congrArg List.length hle
        rw [List.length_append, List.length_drop, hL] at h2
        rw [← h1, List.drop_drop]
        congr 1
        omega
      have HN2 : Hid (Calls Try.prog 56 #[.slice a L cap, .int .i64 (A : Int)] ((w.alloc (.cells #[.int .i64 F.k, .int .u64 F.s, .int .u64 F.n, .int .i64 F.c, .int .i64 F.h, .slice none 0 0] 41)).alloc (.cells #[.int .i64 0, .int .u64 0, .int .u64 0, .int .i64 0, .int .i64 0, .slice none 0 0] 41)) fun e w' => e = .returned (.tuple #[.int .u64 (N : Int), .int .i64 (A2 : Int), .int .i64 0]) ∧ w' = ((w.alloc (.cells #[.int .i64 F.k, .int .u64 F.s, .int .u64 F.n, .int .i64 F.c, .int .i64 F.h, .slice none 0 0] 41)).alloc (.cells #[.int .i64 0, .int .u64 0, .int .u64 0, .int .i64 0, .int .i64 0, .slice none 0 0] 41))) := by
        refine HN.out.mono ?_
        rintro e w' ⟨rfl, x, rfl, hx⟩
        rw [hx rfl, hA2]
        exact ⟨rfl, rfl⟩
      have hA2L : A2 ≤ L := by omega
      have hA2b : (A2 : Int) ≤ 140737488351232 := by omega
      have hLb : (L : Int) ≤ 140737488351232 := by omega
      clear HN hle hq
      by_cases hz : N = 0
      · subst hz
        have HR2 : Hid ((allD [(38, 39)] F (l.drop A)).1 = 172) := by
          show _ = _
          rw [HR.out]
          simp [Fill]
        clear HR hB hL hm hc hA2 hmd hml
        go_enter Try.func59, Try.ntmps59
        go_wp2_with (go_at_call 56; refine HN2.out.mono ?_; rintro e w' ⟨rfl, rfl⟩)
        exact cell_door Try.results59 (x := .int .i64 (A2 : Int)) (y := .int .i64 172) rfl rfl rfl (row_second w _ F.k F.s F.n F.c F.h (.slice none 0 0)) (RpAns.no (below_boxes w _ _) HR2.out (by decide))
      · have hNb : ((N : Int) == 0) = false := by simpa using hz
        have hNb2 : ¬ (N : Int) = 0 := by omega
        by_cases h16 : 16384 < N
        · have HR2 : Hid ((allD [(38, 39)] F (l.drop A)).1 = 173) := by
            show _ = _
            rw [HR.out, if_pos h16]
            simp
          have h16b : (16384 : Int) < (N : Int) := by omega
          clear HR hB hL hm hc hA2 hmd hml hz h16
          go_enter Try.func59, Try.ntmps59
          go_wp2_with (go_at_call 56; refine HN2.out.mono ?_; rintro e w' ⟨rfl, rfl⟩)
          exact cell_door Try.results59 (x := .int .i64 (A2 : Int)) (y := .int .i64 173) rfl rfl rfl (row_second w _ F.k F.s F.n F.c F.h (.slice none 0 0)) (RpAns.no (below_boxes w _ _) HR2.out (by decide))
        · have h16b : (N : Int) ≤ 16384 := by omega
          rw [if_neg h16] at HR
          by_cases hsh : m.length < N
          · have HR2 : Hid ((allD [(38, 39)] F (l.drop A)).1 = 174) := by
              show _ = _
              rw [HR.out, if_pos hsh]
              simp
            have hsb : (L : Int) - (A2 : Int) < (N : Int) := by omega
            clear HR hB hL hm hc hA2 hmd hml hz h16 hsh
            go_enter Try.func59, Try.ntmps59
            go_wp2_with (go_at_call 56; refine HN2.out.mono ?_; rintro e w' ⟨rfl, rfl⟩)
            exact cell_door Try.results59 (x := .int .i64 (A2 : Int)) (y := .int .i64 174) rfl rfl rfl (row_second w _ F.k F.s F.n F.c F.h (.slice none 0 0)) (RpAns.no (below_boxes w _ _) HR2.out (by decide))
          · obtain ⟨g, o, rfl⟩ : ∃ g o, a = some ⟨g, o, none⟩ := by
              obtain ⟨g, o, e, _⟩ := hB A2 (by rw [hL]; omega)
              exact ⟨g, o, e⟩
            have HR2 : Hid (allD [(38, 39)] F (l.drop A) = (0, { F with bs := m.take N }, m.drop N)) := by
              show _ = _
              have hfl : Fill (m.take N).length := by unfold Fill; rw [List.length_take]; omega
              rw [HR.out]
              simp only [if_neg hsh]
              rw [if_neg (by simp), if_pos hfl]
            have hsb : ¬ (L : Int) - (A2 : Int) < (N : Int) := by omega
            have hq1 : (A2 : Int) + (N : Int) ≤ (cap : Int) := by omega
            have hq2 : (A2 : Int) ≤ (A2 : Int) + (N : Int) := by omega
            have hq3 : (0 : Int) ≤ (A2 : Int) := by omega
            clear HR
            go_enter Try.func59, Try.ntmps59
            go_upto_region 10 with (go_at_call 56; refine HN2.out.mono ?_; rintro e w' ⟨rfl, rfl⟩)
            obtain ⟨w1, hw1⟩ : ∃ w1, w1 = (w.alloc (.cells #[.int .i64 F.k, .int .u64 F.s, .int .u64 F.n, .int .i64 F.c, .int .i64 F.h, .slice none 0 0] 41)).alloc (.cells #[.int .i64 0, .int .u64 0, .int .u64 0, .int .i64 0, .int .i64 0, .slice none 0 0] 41) := ⟨_, rfl⟩
            rw [← hw1]
            have R1 : Row w1 w.heap.size [.int .i64 F.k, .int .u64 F.s, .int .u64 F.n, .int .i64 F.c, .int .i64 F.h, .slice none 0 0] 41 := by rw [hw1]; exact (Row.new' w _ _ _ _ rfl rfl).alloc _
            have R2 : Row w1 (w.heap.size + 1) [.int .i64 0, .int .u64 0, .int .u64 0, .int .i64 0, .int .i64 0, .slice none 0 0] 41 := by rw [hw1]; exact row_second w _ 0 0 0 0 0 (.slice none 0 0)
            rw [← hw1] at hbx
            clear hw1 HN2
            have hB1 : BytesAt w1 (some ⟨g, o, none⟩) l := hB.kept hbx
            obtain ⟨i5, j1, j2, j3, j4⟩ := info5
            have hml2 : (bcells (m.take N)).length = N * 1 := by rw [bcells_len, List.length_take]; omega
            obtain ⟨v', w3, hrun, ho3, hg3, _, _⟩ := run_append_own_at (P := Try.prog) w1.drew w1.heap.size 27 27 5 i5 (.int .u8 0) 1 1 Try.underlying27 j1 j2 j3 j4 rfl (by decide) (.slice none 0 0) 0 [] ⟨rfl, .inl ⟨rfl, rfl⟩⟩ ⟨g, o + A2, none⟩ N (cap - A2) (bcells (m.take N)) hml2 (fun j u hu => by
              have hj : j < (m.take N).length := by
                have := (List.getElem?_eq_some_iff.1 hu).1
                rwa [bcells_len] at this
              rw [bcells_get hj] at hu
              rw [List.length_take] at hj
              obtain ⟨g', o', e, c'⟩ := hB1 (A2 + j) (by rw [hL]; omega)
              cases e
              rw [Addr.add_lit, ← hu]
              show w1.cell? _ = _
              rw [show o + A2 + j = o + (A2 + j) by omega, c', List.getElem_take]
              congr 3
              simp [hmd]) (bcells_one _) (by unfold maxLen; omega) (by omega) (Nat.le_refl _)
            have hb3 : Below w1.heap.size w1 w3 := ⟨hg3.os, hg3.tape, hg3.output, hg3.size, fun k hk => hg3.block k hk (by simp [Value.ownBlock])⟩
            have HO3 : Hid (OwnBy w3 w1.heap.size v' (m.take N)) := own_one (l := []) ho3 rfl (by rw [bcells_len] at hml2; omega)
            obtain ⟨a9, c9, rfl, hB9, _, _, _, hg9⟩ := ownBy_shape HO3.out
            have HB9 := hid hB9
            have HG9 := hid (fun gx ox e => (hg9 gx ox e).1)
            have S1 := R1.kept hb3 R1.lt
            have S2 := R2.kept hb3 R2.lt
            have HS1 := hid S1
            have HS2 := hid S2
            have HB3 := hid (hbx.trans (hb3.mono hbx.size))
            have HW1 := hid hbx.size
            have HLT2 := hid R2.lt
            have x5 : w1.drew.cell? ⟨w.heap.size, 5, none⟩ = _ := R1.cell 5 _ rfl
            have t0 := S1.cell 0 _ rfl
            have t1 := S1.cell 1 _ rfl
            have t2 := S1.cell 2 _ rfl
            have t3 := S1.cell 3 _ rfl
            have t4 := S1.cell 4 _ rfl
            have t5 := S1.cell 5 _ rfl
            have t6 := S1.frozen 5
            have u0 := S2.cell 0 _ rfl
            have u1 := S2.cell 1 _ rfl
            have u2 := S2.cell 2 _ rfl
            have u3 := S2.cell 3 _ rfl
            have u4 := S2.cell 4 _ rfl
            have u5 := S2.cell 5 _ rfl
            have u6 := fun j => S2.frozen j
            have hcn : ¬ cap = A2 := by omega
            have hrun2 : (Builtin.append_ #[27, 27] 27 #[.slice none 0 0, .slice (some ⟨g, o + A2, none⟩) (A2 + N - A2) (cap - A2)]).run Try.prog w1.drew = .ok (.slice a9 (m.take N).length c9) w3 := by rw [Nat.add_sub_cancel_left]; exact hrun
            have HLL : Hid ((A2 : Int) + (N : Int) = (L : Int) - ((m.drop N).length : Int)) := by show _ = _; rw [List.length_drop]; omega
            have HNT : Hid ((m.take N).length = N) := by show _ = _; rw [List.length_take]; omega
            clear hB hL hm hc hA2 hmd hml hz h16 hsh R1 R2 hbx hB1 ho3 hg3 hb3 hB9 hg9 S1 S2 hml2 hN62 hA
            generalize hNT : (m.take N).length = NT at *
            have HNTT := hid hNT
            clear hNT
            have w1e : IntKind.i64.wrap (N : Int) = (N : Int) := by rw [IntKind.wrap_i64]; omega
            have w2e : IntKind.i64.wrap ((A2 : Int) + (N : Int)) = (A2 : Int) + (N : Int) := by rw [IntKind.wrap_i64]; omega
            have w3e : ((A2 : Int) + (N : Int)).toNat = A2 + N := by omega
            have w4e : (0 : Int) ≤ (A2 : Int) + (N : Int) := by omega
            have w5e : A2 ≤ A2 + N := by omega
            have HRUN := hid hrun
            clear hrun hrun2
            go_region_law (refine step_append_by (by rfl) _ _ _ (by rfl) (by rfl) (by rfl) HRUN.out ?_)
            go_wp2_with fail
            have R4 := six_row F.k F.s F.n F.c F.h (.slice a9 NT c9) (HS2.out.setOther ⟨w.heap.size, 5, none⟩ (by show w.heap.size + 1 ≠ w.heap.size; omega) (.slice a9 NT c9))
            have F4 := six_fr (w3.setCell ⟨w.heap.size, 5, none⟩ (.slice a9 NT c9)) (w.heap.size + 1) F.k F.s F.n F.c F.h (.slice a9 NT c9)
            have F5 := fr_set w3 w.heap.size 5 (.slice a9 NT c9)
            refine cell_door Try.results59 (w4 := six (w3.setCell ⟨w.heap.size, 5, none⟩ (.slice a9 NT c9)) (w.heap.size + 1) F.k F.s F.n F.c F.h (.slice a9 NT c9)) (x := .int .i64 ((A2 : Int) + (N : Int))) (y := .int .i64 0) rfl rfl rfl R4 ?_
            have hz1 := HW1.out
            have hz2 := HB3.out.size
            refine ⟨?_, .inr ⟨by rw [HR2.out], a9, c9, by rw [HR2.out, ← HLL.out]; simp only; rw [HNTT.out], ?_, ?_⟩⟩
            · exact (HB3.out.trans (F5.below (fun x hx => by omega) hz2)).trans (F4.below (fun x hx => by omega) (by have := F5.size; omega))
            · rw [HR2.out]
              refine BytesAt.fr (BytesAt.fr (bs := m.take N) HB9.out F5 (fun gx ox e hx => ?_)) F4 (fun gx ox e hx => ?_)
              · have := HG9.out gx ox e; have := HLT2.out; omega
              · have := HG9.out gx ox e; have := HLT2.out; omega
            · intro gx ox e
              have := HG9.out gx ox e
              omega
    · have HR2 : Hid ((allD [(38, 39)] F (l.drop A)).1 = e0) := by
        show _ = _
        rw [HR.out, if_pos (c := ¬ e0 = 0) h0, if_pos (by exact h0)]
      have h0b : (e0 == 0) = false := by simpa using h0
      clear HR hB hL hm hc hbx hq
      go_enter Try.func59, Try.ntmps59
      go_wp2_with (go_at_call 56; refine HN.out.mono ?_; rintro e w' ⟨rfl, x, rfl, -⟩)
      exact cell_door Try.results59 (x := .int .i64 x) (y := .int .i64 e0) rfl rfl rfl (row_second w _ F.k F.s F.n F.c F.h (.slice none 0 0)) (RpAns.no (below_boxes w _ _) HR2.out h0)
end Go.Proofs.Ytkhogbnoincbeab
