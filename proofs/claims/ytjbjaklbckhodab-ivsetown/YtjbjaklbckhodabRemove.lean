import Derived.Test.YtjbjaklbckhodabAddW
import Derived.Test.YtjbjaklbckhodabFits
namespace Go.Proofs.Ytjbjaklbckhodab
open Go.RowKit
set_option maxRecDepth 100000

set_option maxHeartbeats 1000000 in
theorem rem_none {w : World} {p : Nat} {a : Option Addr} {cap : Nat} {L : List Rg} (V : View w p a cap L) (F : Fit L) (r : Rg) (hAB : ovlA L r = ovlB L r) :
    Calls Try.prog 34 #[.pointer (some ⟨p, 0, none⟩), .agg #[.int .u64 r.1, .int .u64 r.2]] w fun e w' => e = .returned (.int .u64 0) ∧ Below w.heap.size w w' := by
  have hb1 := below_box w (.cells #[.int .u64 r.1, .int .u64 r.2] 25)
  have hO := overlapped_any r (V.kept hb1) F
  obtain ⟨rl, rh⟩ := r
  rw [hAB] at hO
  generalize ovlB L (rl, rh) = B at *
  clear hAB
  simp only at hO
  have HB1 : Hid _ := hb1
  clear V F hb1
  go_enter Try.func34, Try.ntmps34
  go_wp2_with fail
  refine hO.mono ?_
  rintro e w2 ⟨rfl, hb2⟩
  have HB2 : Hid _ := HB1.out.trans (hb2.mono HB1.out.size)
  clear hb2 hO HB1
  go_wp2
  go_ret
  exact ⟨rfl, HB2.out⟩

theorem make2 : ∀ w, (Instr.makeSlice 22 (.int .i64 0) (.int .i64 2)).run Try.prog w = .ok (.slice (some ⟨w.heap.size, 0, none⟩) 0 2) (w.alloc (.cells #[.int .u64 0, .int .u64 0, .int .u64 0, .int .u64 0] 25)) := fun _ => by kernel_rfl

theorem splice_tail {α : Type} (C : List α) (a : Nat) (N : List α) (h : a + N.length ≤ C.length) : (splice C a N).take (a + N.length) = C.take a ++ N := by
  have e := splice_close C N [] a (a + N.length) (a + N.length) rfl (by simp) h
  rw [List.append_nil] at e
  rw [← e]
  congr 1
  simp [splice]
theorem pair_one (x y : Int) : ∀ v ∈ [Value.int .u64 x, Value.int .u64 y], v.oneCell' = true := by
  have := flat_one [(x, y)]
  rwa [flat_cons] at this
theorem three_below (w : World) (o1 o2 o3 : Obj) : Below w.heap.size w (((w.alloc o1).alloc o2).alloc o3).drew.drew :=
  ((((Below.refl _ w).alloc (Nat.le_refl _) o1).alloc (by simp) o2).alloc (by simp; omega) o3).drew.drew
theorem three_size (w : World) (o1 o2 o3 : Obj) : w.heap.size + 1 + 1 < (((w.alloc o1).alloc o2).alloc o3).drew.drew.heap.size := by
  show w.heap.size + 1 + 1 < (((w.alloc o1).alloc o2).alloc o3).heap.size
  simp
theorem three_a (w : World) (o1 o2 o3 : Obj) : (((w.alloc o1).alloc o2).alloc o3).drew.drew.heap[w.heap.size]? = some o1 := by
  show (((w.alloc o1).alloc o2).alloc o3).heap[w.heap.size]? = some o1
  rw [Below.heap_alloc _ _ _ (by simp; omega)]
  exact heap_alloc2_old w o1 o2
theorem three_b (w : World) (o1 o2 o3 : Obj) : (((w.alloc o1).alloc o2).alloc o3).drew.drew.heap[w.heap.size + 1]? = some o2 := by
  show (((w.alloc o1).alloc o2).alloc o3).heap[w.heap.size + 1]? = some o2
  rw [Below.heap_alloc _ _ _ (by simp)]
  exact heap_alloc2_new w o1 o2
theorem three_c (w : World) (o1 o2 o3 : Obj) : (((w.alloc o1).alloc o2).alloc o3).drew.drew.heap[w.heap.size + 1 + 1]? = some o3 := by
  show (((w.alloc o1).alloc o2).alloc o3).heap[w.heap.size + 1 + 1]? = some o3
  have := heap_alloc_new ((w.alloc o1).alloc o2) o3
  simpa using this

set_option maxHeartbeats 1000000 in
theorem rem_some {w : World} {p : Nat} {v : Value} {L : List Rg} (S : SetAt w p v L) (F : Fit L) (hf : (L.length + 2) * 16 ≤ 140737488355328) (r : Rg) (h0 : 0 ≤ r.1) (h1 : r.2 ≤ 18446744073709551615) (hAB : ovlA L r < ovlB L r) :
    Calls Try.prog 34 #[.pointer (some ⟨p, 0, none⟩), .agg #[.int .u64 r.1, .int .u64 r.2]] w fun e w' => e = .returned (.int .u64 (total (clipL L r))) ∧ ∃ v', SetAt w' p v' (L.take (ovlA L r) ++ restL L r ++ L.drop (ovlB L r)) ∧ Turned w w' p v v' := by
  obtain ⟨a, cap, rfl, V⟩ := S.view (by omega)
  have htl := ovl_le F r
  have hAl : ovlA L r < L.length := by omega
  have hBl : ovlB L r - 1 < L.length := by omega
  obtain ⟨g, rfl, ca, _⟩ := V.row _ hAl
  have cb := (V.at _ hBl).2
  rw [← nth_eq hAl] at ca
  rw [← nth_eq hBl] at cb
  have hbox := box_cells w (.int .u64 r.1) (.int .u64 r.2)
  have hb1 : Below w.heap.size w (w.alloc (.cells #[.int .u64 r.1, .int .u64 r.2] 25)) := below_box _ _
  have hO := overlapped_any r (V.kept hb1) F
  have HC : Hid (∀ W, View W p (some ⟨g, 0, none⟩) cap L → Calls Try.prog 44 #[.pointer (some ⟨p, 0, none⟩), .agg #[.int .u64 r.1, .int .u64 r.2]] W fun e w' => e = .returned (.int .u64 (total (clipL L r))) ∧ Below W.heap.size W w') := fun W V => common_any r h0 h1 V F
  have HR : Hid (restL L r = (if (nth L (ovlA L r)).1 < r.1 then [((nth L (ovlA L r)).1, r.1)] else []) ++ (if r.2 < (nth L (ovlB L r - 1)).2 then [(r.2, (nth L (ovlB L r - 1)).2)] else [])) := rfl
  obtain ⟨rl, rh⟩ := r
  simp only at hO h0 h1 hbox HC HR
  have HV : Hid _ := V
  have HBOX : Hid _ := hbox
  have HB1 : Hid _ := hb1
  have HS : Hid (SetAt w p (.slice (some ⟨g, 0, none⟩) L.length cap) L) := S
  have HCA : Hid _ := ca
  have HCB : Hid _ := cb
  clear V F hbox hb1 S ca cb
  generalize total (clipL L (rl, rh)) = T at *
  generalize restL L (rl, rh) = N at *
  generalize ovlA L (rl, rh) = A at *
  generalize ovlB L (rl, rh) = B at *
  generalize (nth L A).1 = xa at *
  generalize (nth L (B - 1)).2 = xb at *
  have hABf : ((A : Int) == (B : Int)) = false := by simp; omega
  have hAli : (A : Int) < (L.length : Int) := by omega
  have hB1 : (0 : Int) ≤ (B : Int) - 1 := by omega
  have hB2 : (B : Int) - 1 < (L.length : Int) := by omega
  have hB3 : ((B : Int) - 1).toNat = B - 1 := by omega
  have hB4 : IntKind.i64.wrap ((B : Int) - 1) = (B : Int) - 1 := by rw [IntKind.wrap_i64]; omega
  obtain ⟨N1, HN1⟩ : ∃ N1 : List Rg, Hid (N1 = if xa < rl then [(xa, rl)] else []) := ⟨_, rfl⟩
  obtain ⟨N2, HN2⟩ : ∃ N2 : List Rg, Hid (N2 = if rh < xb then [(rh, xb)] else []) := ⟨_, rfl⟩
  have HNN : Hid (N = N1 ++ N2) := by
    show N = N1 ++ N2
    rw [HR.out, HN1.out, HN2.out]
  clear HR
  have hmk := make2
  go_enter Try.func34, Try.ntmps34
  go_wp2_with fail
  refine hO.mono ?_
  rintro e w2 ⟨rfl, hb2⟩
  have HV2 : Hid _ := (HV.out.kept HB1.out).kept hb2
  have c0 := cell_kept hb2 HBOX.out.1
  have c1 := cell_kept hb2 HBOX.out.2
  have ka := cell_kept hb2 (cell_kept HB1.out HCA.out)
  have kb := cell_kept hb2 (cell_kept HB1.out HCB.out)
  have HB2 : Hid _ := HB1.out.trans (hb2.mono HB1.out.size)
  clear hb2 hO HBOX HCA HCB
  go_wp2_with fail
  refine (HC.out _ HV2.out).mono ?_
  rintro e w3 ⟨rfl, hb3⟩
  have d0 := cell_kept hb3 c0
  have d1 := cell_kept hb3 c1
  have ja := cell_kept hb3 ka
  have jb := cell_kept hb3 kb
  have hd := cell_kept hb3 HV2.out.head
  have HB3 : Hid _ := HB2.out.trans (hb3.mono HB2.out.size)
  clear hb3 HB2 c0 c1 ka kb HC HV HV2
  have d0' := fun o => cell_kept (below_box w3 o) d0
  have d1' := fun o => cell_kept (below_box w3 o) d1
  have ja' := fun o => cell_kept (below_box w3 o) ja
  have jb' := fun o => cell_kept (below_box w3 o) jb
  have hd' := fun o => cell_kept (below_box w3 o) hd
  have d1'' := fun o o' => cell_kept (below_box _ o') (d1' o)
  have jb'' := fun o o' => cell_kept (below_box _ o') (jb' o)
  have hd'' := fun o o' => cell_kept (below_box _ o') (hd' o)
  go_wp2
  go_region
  go_wp2
  go_region
  clear d0 d1 ja jb hd d0' d1' ja' jb' hd' d1'' jb'' hd'' hB1 hB2 hB3 hB4 hAli hABf
  go_upto_region 7 with fail
  go_cut [8, 9, 10] from 11 (fun s8 s9 s10 wc => s8 = .pointer (some ⟨w3.heap.size, 0, none⟩) ∧ s9 = .pointer (some ⟨w3.heap.size + 1, 0, none⟩) ∧ s10 = .slice (some ⟨w3.heap.size + 1 + 1, 0, none⟩) 0 2 ∧ Below w3.heap.size w3 wc ∧ w3.heap.size + 1 + 1 < wc.heap.size ∧
    wc.heap[w3.heap.size]? = some (.cells #[.int .u64 xa, .int .u64 rl] 25 (0, 0)) ∧ wc.heap[w3.heap.size + 1]? = some (.cells #[.int .u64 rh, .int .u64 xb] 25 (0, 0)) ∧ wc.heap[w3.heap.size + 1 + 1]? = some (.cells #[.int .u64 0, .int .u64 0, .int .u64 0, .int .u64 0] 25 (0, 0)))
  case first =>
    go_wp2
    go_meet
    exact ⟨rfl, rfl, rfl, three_below w3 _ _ _, three_size w3 _ _ _, three_a w3 _ _ _, three_b w3 _ _ _, three_c w3 _ _ _⟩
  case rest =>
    obtain ⟨rfl, rfl, rfl, hbc, hsz, hx8, hx9, hx10⟩ := hcut
    clear hmk
    have c8 := cells_pair hx8
    have HX9 : Hid _ := hx9
    have HX10 : Hid _ := hx10
    have HX8 : Hid _ := hx8
    have HBC : Hid _ := hbc
    have c80 := c8.1
    have c81 := c8.2
    clear hx8 hx9 hx10 hbc c8
    go_wp2_with fail
    refine (empty_any xa rl _).mono ?_
    rintro e w5 ⟨rfl, rfl⟩
    have hbe := below_box wc (.cells #[.int .u64 xa, .int .u64 rl] 25)
    have HBE : Hid _ := hbe
    have e80 := cell_kept hbe c80
    have e81 := cell_kept hbe c81
    clear hbe c80 c81
    go_upto_if 49 with fail
    go_cut [10] from 11 (fun s10 wd => s10 = .slice (some ⟨w3.heap.size + 1 + 1, 0, none⟩) N1.length 2 ∧ Below w3.heap.size w3 wd ∧ wd.heap[w3.heap.size + 1]? = some (.cells #[.int .u64 rh, .int .u64 xb] 25 (0, 0)) ∧
      ∃ row : List Value, wd.heap[w3.heap.size + 1 + 1]? = some (.cells row.toArray 25 (0, 0)) ∧ row.length = 4 ∧ row.take (N1.length * 2) = flat N1)
    case first =>
      by_cases hl : xa < rl
      · have hdec : decide (rl ≤ xa) = false := by simp; omega
        have HE1 : Hid (N1 = [(xa, rl)]) := HN1.out.trans (if_pos hl)
        have HG1 : Hid (((wc.alloc (.cells #[.int .u64 xa, .int .u64 rl] 25)).alloc (.cells #[.int .u64 xa, .int .u64 rl] 25)).heap[w3.heap.size + 1 + 1]? = some (.cells [.int .u64 0, .int .u64 0, .int .u64 0, .int .u64 0].toArray 25 (0, 0))) := by
          show _ = _
          rw [Below.heap_alloc _ _ _ (by simp; omega), Below.heap_alloc _ _ _ hsz]
          exact HX10.out
        have HG9 : Hid (((wc.alloc (.cells #[.int .u64 xa, .int .u64 rl] 25)).alloc (.cells #[.int .u64 xa, .int .u64 rl] 25)).heap[w3.heap.size + 1]? = some (.cells #[.int .u64 rh, .int .u64 xb] 25 (0, 0))) := by
          show _ = _
          rw [Below.heap_alloc _ _ _ (by simp; omega), Below.heap_alloc _ _ _ (by omega)]
          exact HX9.out
        have HBB : Hid _ := boxes (w := wc) (.cells #[.int .u64 xa, .int .u64 rl] 25) (.cells #[.int .u64 xa, .int .u64 rl] 25)
        have HNW : Hid _ := row_cells (w := (wc.alloc (.cells #[.int .u64 xa, .int .u64 rl] 25)).alloc (.cells #[.int .u64 xa, .int .u64 rl] 25)) (g := wc.heap.size + 1) (row := [.int .u64 xa, .int .u64 rl]) (heap_alloc2_new wc _ _) 0 [.int .u64 xa, .int .u64 rl] rfl
        rw [hdec]
        go_wp2_with (at_builtin; refine wpList_room2 rfl _ _ rfl (w3.heap.size + 1 + 1) 0 2 rfl [.int .u64 0, .int .u64 0, .int .u64 0, .int .u64 0] HG1.out ⟨wc.heap.size + 1, 0, none⟩ 1 1 rfl [.int .u64 xa, .int .u64 rl] rfl HNW.out (pair_one xa rl) (by omega) (by simp) ?_; intro w6 hr6 hg6)
        go_meet
        rw [HE1.out]
        refine ⟨rfl, ?_, ?_, _, hr6.out, rfl, rfl⟩
        · exact (HBC.out.trans (HBB.out.mono HBC.out.size)).grown hg6.out (Nat.le_trans HBC.out.size HBB.out.size) (fun k e => by simp at e; omega)
        · exact heap_grown hg6.out HG9.out (by simp)
      · have hdec : decide (rl ≤ xa) = true := by simp; omega
        have HE1 : Hid (N1 = []) := HN1.out.trans (if_neg hl)
        rw [hdec]
        go_wp2
        go_meet
        rw [HE1.out]
        exact ⟨rfl, HBC.out.trans (HBE.out.mono HBC.out.size), by rw [HBE.out.block _ (by omega)]; exact HX9.out, _, by rw [HBE.out.block _ hsz]; exact HX10.out, rfl, rfl⟩
    case rest =>
      obtain ⟨rfl, hb6, h69, row, h6r, hrl, hrt⟩ := hcut
      clear HX8 HX9 HX10 HBC HBE e80 e81 hsz
      have c9 := cells_pair h69
      have c90 := c9.1
      have c91 := c9.2
      have hM : w3.heap.size + 1 + 1 < wc.heap.size := (Array.getElem?_eq_some_iff.1 h6r).1
      have H6R : Hid _ := h6r
      have HRL : Hid _ := hrl
      have HRT : Hid _ := hrt
      have HB6 : Hid _ := hb6
      clear c9 h69 h6r hrl hrt hb6
      have hN1l : N1.length ≤ 1 := by rw [HN1.out]; split <;> simp
      go_wp2_with fail
      refine (empty_any rh xb _).mono ?_
      rintro e w5 ⟨rfl, rfl⟩
      have hbe := below_box wc (.cells #[.int .u64 rh, .int .u64 xb] 25)
      have HBE : Hid _ := hbe
      have e90 := cell_kept hbe c90
      have e91 := cell_kept hbe c91
      clear hbe c90 c91
      go_upto_if 56 with fail
      go_cut [10] from 11 (fun s10 wd => s10 = .slice (some ⟨w3.heap.size + 1 + 1, 0, none⟩) N.length 2 ∧ Below w3.heap.size w3 wd ∧
        ∃ row : List Value, wd.heap[w3.heap.size + 1 + 1]? = some (.cells row.toArray 25 (0, 0)) ∧ row.length = 4 ∧ row.take (N.length * 2) = flat N)
      case first =>
        by_cases hl : rh < xb
        · have hdec : decide (xb ≤ rh) = false := by simp; omega
          have HE1 : Hid (N = N1 ++ [(rh, xb)]) := HNN.out.trans (by rw [HN2.out, if_pos hl])
          have HG1 : Hid (((wc.alloc (.cells #[.int .u64 rh, .int .u64 xb] 25)).alloc (.cells #[.int .u64 rh, .int .u64 xb] 25)).heap[w3.heap.size + 1 + 1]? = some (.cells row.toArray 25 (0, 0))) := by
            show _ = _
            rw [Below.heap_alloc _ _ _ (by simp; omega), Below.heap_alloc _ _ _ hM]
            exact H6R.out
          have HBB : Hid _ := boxes (w := wc) (.cells #[.int .u64 rh, .int .u64 xb] 25) (.cells #[.int .u64 rh, .int .u64 xb] 25)
          have HNW : Hid _ := row_cells (w := (wc.alloc (.cells #[.int .u64 rh, .int .u64 xb] 25)).alloc (.cells #[.int .u64 rh, .int .u64 xb] 25)) (g := wc.heap.size + 1) (row := [.int .u64 rh, .int .u64 xb]) (heap_alloc2_new wc _ _) 0 [.int .u64 rh, .int .u64 xb] rfl
          rw [hdec]
          go_wp2_with (at_builtin; refine wpList_room2 rfl _ _ rfl (w3.heap.size + 1 + 1) N1.length 2 rfl row HG1.out ⟨wc.heap.size + 1, 0, none⟩ 1 1 rfl [.int .u64 rh, .int .u64 xb] rfl HNW.out (pair_one rh xb) (by omega) (by rw [HRL.out]; simp; omega) ?_; intro w6 hr6 hg6)
          go_meet
          rw [HE1.out]
          refine ⟨by simp, ?_, _, hr6.out, ?_, ?_⟩
          · exact (HB6.out.trans (HBB.out.mono HB6.out.size)).grown hg6.out (Nat.le_trans HB6.out.size HBB.out.size) (fun k e => by simp at e; omega)
          · rw [length_splice _ _ _ (by rw [HRL.out]; simp; omega), HRL.out]
          · rw [flat_append, ← HRT.out, flat_cons]
            have e := splice_tail row (N1.length * 2) [.int .u64 rh, .int .u64 xb] (by rw [HRL.out]; simp; omega)
            rw [show (N1 ++ [(rh, xb)]).length * 2 = N1.length * 2 + [Value.int .u64 rh, Value.int .u64 xb].length by simp; omega, e]
            rfl
        · have hdec : decide (xb ≤ rh) = true := by simp; omega
          have HE1 : Hid (N = N1) := HNN.out.trans (by rw [HN2.out, if_neg hl, List.append_nil])
          rw [hdec]
          go_wp2
          go_meet
          rw [HE1.out]
          exact ⟨rfl, HB6.out.trans (HBE.out.mono HB6.out.size), row, by rw [HBE.out.block _ hM]; exact H6R.out, HRL.out, HRT.out⟩
      case rest =>
        obtain ⟨rfl, hb7, row7, h7r, h7l, h7t⟩ := hcut
        clear HBE e90 e91 H6R HRL HRT HB6 hM HN1 HN2
        have hbw := HB3.out.trans (hb7.mono HB3.out.size)
        have S7 := HS.out.kept hbw
        have hNl : N.length * 2 ≤ row7.length := by
          have := congrArg List.length h7t
          rw [List.length_take, length_flat] at this
          omega
        have hgw := (HS.out.own.lt g rfl).2
        have hR := replace_set wc (.slice (some ⟨g, 0, none⟩) L.length cap) L S7.own A B htl.1 htl.2 (w3.heap.size + 1 + 1) N.length 2 row7 N h7t rfl
          (fun e => by simp only [Value.ownBlock, Option.some.injEq] at e; have := HB3.out.size; omega) h7r hNl (fun e => by omega) (by omega)
        have HX : Hid (∀ w7 a' n' cap', Hid (Placed wc w7 (.slice (some ⟨g, 0, none⟩) L.length cap) (.slice a' n' cap') (L.take A ++ N ++ L.drop B).length (flat (L.take A ++ N ++ L.drop B))) →
            w7.cell? ⟨p, 0, none⟩ = some (.slice (some ⟨g, 0, none⟩) L.length cap) ∧ w7.frozen? ⟨p, 0, none⟩ = false ∧ Hid (SetAt (w7.setCell ⟨p, 0, none⟩ (.slice a' n' cap')) p (.slice a' n' cap') (L.take A ++ N ++ L.drop B) ∧ Turned w (w7.setCell ⟨p, 0, none⟩ (.slice a' n' cap')) p (.slice (some ⟨g, 0, none⟩) L.length cap) (.slice a' n' cap'))) := by
          intro w7 a' n' cap' hP
          have hp7 : w7.heap[p]? = some (.cells #[.slice (some ⟨g, 0, none⟩) L.length cap] 55 (0, 0)) := heap_grown hP.out.grown S7.hp (fun e => S7.apart e.symm)
          refine ⟨by rw [cell_of_row w7 p 0 _ _ _ hp7]; rfl, frozen_of_row _ _ _ _ _ hp7, ?_⟩
          exact set_stored hbw (Array.getElem?_eq_some_iff.1 HS.out.hp).1 S7.hp S7.apart hP.out
        have hd7 : wc.cell? ⟨p, 0, none⟩ = some (.slice (some ⟨g, 0, none⟩) L.length cap) := by rw [cell_of_row wc p 0 _ _ _ S7.hp]; rfl
        clear S7 hbw HS hb7 h7r h7l h7t hNl HB3
        go_wp2_with fail
        refine hR.mono ?_
        rintro e w7 ⟨a', n', cap', rfl, hP⟩
        have hx := HX.out w7 a' n' cap' hP
        have q1 := hx.1
        have q2 := hx.2.1
        have HQ : Hid _ := hx.2.2
        clear hx hP HX hR
        go_wp2
        go_ret
        exact ⟨rfl, _, HQ.out⟩

/-- Remove, at whatever range. -/
theorem rem_any {w : World} {p : Nat} {v : Value} {L : List Rg} (S : SetAt w p v L) (F : Fit L) (hf : (L.length + 2) * 16 ≤ 140737488355328) (r : Rg) (h0 : 0 ≤ r.1) (h1 : r.2 ≤ 18446744073709551615) :
    Calls Try.prog 34 #[.pointer (some ⟨p, 0, none⟩), .agg #[.int .u64 r.1, .int .u64 r.2]] w fun e w' => e = .returned (.int .u64 (total (clipL L r))) ∧ ∃ v', SetAt w' p v' (remL L r) ∧ Turned w w' p v v' := by
  unfold remL
  have ho := ovl_le F r
  by_cases hAB : ovlA L r = ovlB L r
  · rw [if_pos hAB]
    obtain ⟨a, cap, rfl, V⟩ := S.view (by omega)
    have hz : clipL L r = [] := List.eq_nil_of_length_eq_zero (by rw [clipL_length F r]; omega)
    rw [hz]
    refine (rem_none V F r hAB).mono ?_
    rintro e w' ⟨rfl, hb⟩
    exact ⟨rfl, _, S.kept hb, ⟨hb.os, hb.tape, hb.output, hb.size, fun k hk _ _ => hb.block k hk, .inl rfl⟩⟩
  · rw [if_neg hAB]
    exact rem_some S F hf r h0 h1 (by omega)

end Go.Proofs.Ytjbjaklbckhodab
