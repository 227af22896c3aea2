import Derived.Test.YtaklbofbhanjgaaDoorIvAddW
import Derived.Test.YtaklbofbhanjgaaDoorIvFits
namespace Go.Proofs.YtaklbofbhanjgaaDoor
open Go.RowKit
set_option maxRecDepth 100000

/-- The set at p: its list v holds these stretches. -/
structure BvAt (w : World) (p : Nat) (v : Value) (R : List Value) (L : List Rg) : Prop where
  hp : w.heap[p]? = some (.cells (v :: R).toArray 65 (0, 0))
  own : w.ownsRow 0 92 2 v L.length (flat L)
theorem BvAt.view {w : World} {p : Nat} {v : Value} {R : List Value} {L : List Rg} (S : BvAt w p v R L) (hf : (L.length + 1) * 16 ≤ 140737488355328) : ∃ a cap, v = .slice a L.length cap ∧ View w p a cap L := by
  have hc : w.cell? ⟨p, 0, none⟩ = some v := by rw [cell_of_row w p 0 _ _ _ S.hp]; simp
  obtain ⟨hl, ⟨rfl, hn⟩ | ⟨g, cap, cur, rfl, _, hg, hnc, hcm, hcs, htk⟩⟩ := S.own
  · refine ⟨none, 0, by rw [hn], ⟨by rw [hn]; exact hc, fun i h => by omega, by omega, by unfold maxLen; omega, by omega, .inl ⟨rfl, rfl⟩⟩⟩
  · refine ⟨some ⟨g, 0, none⟩, cap, rfl, ⟨hc, fun i h => ⟨g, rfl, ?_, ?_⟩, hnc, hcm, by omega, .inr ⟨g, rfl⟩⟩⟩
    · rw [cell_of_row w g _ _ _ _ hg, ← (flat_get L i h).1, ← htk, List.getElem?_take, if_pos (by omega), Array.getElem?_toList]
    · rw [cell_of_row w g _ _ _ _ hg, ← (flat_get L i h).2, ← htk, List.getElem?_take, if_pos (by omega), Array.getElem?_toList]
theorem BvAt.kept {w w' : World} {p : Nat} {v : Value} {R : List Value} {L : List Rg} (S : BvAt w p v R L) (hb : Below w.heap.size w w') : BvAt w' p v R L := by
  refine ⟨by rw [hb.block p (Array.getElem?_eq_some_iff.1 S.hp).1]; exact S.hp, S.own.1, ?_⟩
  obtain h | ⟨g, cap, cur, hv, h1, hg, h2⟩ := S.own.2
  · exact .inl h
  · exact .inr ⟨g, cap, cur, hv, h1, by rw [hb.block g (Array.getElem?_eq_some_iff.1 hg).1]; exact hg, h2⟩
theorem BvAt.apart {w : World} {p : Nat} {v : Value} {R : List Value} {L : List Rg} (S : BvAt w p v R L) : v.ownBlock ≠ some p := by
  obtain ⟨rfl, _⟩ | ⟨g, cap, cur, rfl, _, hg, _⟩ := S.own.2
  · simp [Value.ownBlock]
  · intro e
    simp only [Value.ownBlock, Option.some.injEq] at e
    rw [e, S.hp] at hg
    simp at hg
end Go.Proofs.YtaklbofbhanjgaaDoor
namespace Go.Proofs.YtaklbofbhanjgaaDoor
open Go.RowKit
set_option maxRecDepth 100000

theorem bv_box_cells (w : World) (x y : Value) : (w.alloc (.cells #[x, y] 92)).cell? ⟨w.heap.size, 0, none⟩ = some x ∧ (w.alloc (.cells #[x, y] 92)).cell? ⟨w.heap.size, 1, none⟩ = some y := by
  rw [cell_of_row _ _ _ _ _ _ (heap_alloc_new w _), cell_of_row _ _ _ _ _ _ (heap_alloc_new w _)]; exact ⟨rfl, rfl⟩
theorem bv_below_of_drewN {B q : Nat} {w w' : World} (h : Below B (w.drewN q) w') : Below B w w' := ⟨h.os, h.tape, h.output, h.size, h.block⟩
theorem bv_below_box (w : World) (o : Obj) : Below w.heap.size w (w.alloc o) := (Below.refl _ _).alloc (Nat.le_refl _) _

theorem bv_hull_rel {w w4 : World} {rl rh xa xb x0 x1 : Int} {H : Rg} (hb : Below w.heap.size w w4) (d0 : w4.cell? ⟨w.heap.size, 0, none⟩ = some (.int .u64 rl)) (d1 : w4.cell? ⟨w.heap.size, 1, none⟩ = some (.int .u64 rh)) (e : H = (min rl xa, max rh xb)) (e0 : x0 = min rl xa) (e1 : x1 = max rh xb) :
    Below w.heap.size w ((w4.setCell ⟨w.heap.size, 0, none⟩ (.int .u64 x0)).setCell ⟨w.heap.size, 1, none⟩ (.int .u64 x1)).drew.drew ∧
      ((w4.setCell ⟨w.heap.size, 0, none⟩ (.int .u64 x0)).setCell ⟨w.heap.size, 1, none⟩ (.int .u64 x1)).drew.drew.cell? ⟨w.heap.size, 0, none⟩ = some (.int .u64 H.1) ∧
      ((w4.setCell ⟨w.heap.size, 0, none⟩ (.int .u64 x0)).setCell ⟨w.heap.size, 1, none⟩ (.int .u64 x1)).drew.drew.cell? ⟨w.heap.size, 1, none⟩ = some (.int .u64 H.2) := by
  subst e; subst e0; subst e1
  refine ⟨((hb.setCell (Nat.le_refl _) _).setCell (Nat.le_refl _) _).drew.drew, ?_, ?_⟩
  · show World.cell? ((w4.setCell _ _).setCell _ _) _ = _
    rw [World.cell?_setCell_other _ _ _ _ (by simp)]
    exact World.cell?_setCell_same _ _ _ d0
  · show World.cell? ((w4.setCell _ _).setCell _ _) _ = _
    exact World.cell?_setCell_same _ _ _ (by rw [World.cell?_setCell_other _ _ _ _ (by simp)]; exact d1)

theorem bv_own_shape {w : World} {v : Value} {n : Nat} {xs : List Value} (h : w.ownsRow 0 92 2 v n xs) : ∃ a cap, v = .slice a n cap := by
  obtain ⟨rfl, rfl⟩ | ⟨g, cap, cur, rfl, _⟩ := h.2
  · exact ⟨none, 0, rfl⟩
  · exact ⟨_, _, rfl⟩
/-- slices.Replace on the set's list: the answer's shape, and the stretches. -/
theorem bv_replace_set (w : World) (s : Value) (L : List Rg) (own : w.ownsRow 0 92 2 s L.length (flat L)) (i j : Nat) (hij : i ≤ j) (hj : j ≤ L.length)
    (h m c : Nat) (src : List Value) (N : List Rg) (hN : src.take (m * 2) = flat N) (hmN : N.length = m) (hne : s.ownBlock ≠ some h) (hh : w.heap[h]? = some (.cells src.toArray 92 (0, 0))) (hm : m * 2 ≤ src.length) (h0 : i = j → 0 < m) (hb : (L.length + m) * 16 ≤ 140737488355328) :
    Calls Tryd.prog 83 #[s, .int .i64 i, .int .i64 j, .slice (some ⟨h, 0, none⟩) m c] w fun e w' => ∃ a' n' cap', e = .returned (.slice a' n' cap') ∧ Hid (Placed w w' s (.slice a' n' cap') (L.take i ++ N ++ L.drop j).length (flat (L.take i ++ N ++ L.drop j))) := by
  refine (replace_any w s L.length (flat L) own (flat_one L) i j hij hj h m c src hne hh hm (by rw [hN]; exact flat_one N) h0 hb).mono ?_
  rintro e w' ⟨v', rfl, hP⟩
  obtain ⟨a', cap', rfl⟩ := bv_own_shape hP.own
  refine ⟨a', _, cap', rfl, ?_⟩
  rw [hN, ← flat_take, ← flat_drop, ← flat_append, ← flat_append, show i + m + (L.length - j) = (L.take i ++ N ++ L.drop j).length by simp only [List.length_append, List.length_take, List.length_drop, hmN]; omega] at hP
  rw [show i + m + (L.length - j) = (L.take i ++ N ++ L.drop j).length by simp only [List.length_append, List.length_take, List.length_drop, hmN]; omega]
  exact hP
theorem bv_heap_set_other (w : World) (a : Addr) (v : Value) (k : Nat) (h : k ≠ a.block) : (w.setCell a v).heap[k]? = w.heap[k]? := Below.heap_setCell w a v k h
/-- Behind the store of the new list. -/
theorem bv_set_stored {w W w7 : World} {p : Nat} {v v' : Value} {R : List Value} {L' : List Rg} (hb : Below w.heap.size w W) (hpw : p < w.heap.size) (hp : W.heap[p]? = some (.cells (v :: R).toArray 65 (0, 0))) (hv : v.ownBlock ≠ some p)
    (P : Placed W w7 v v' L'.length (flat L')) : BvAt (w7.setCell ⟨p, 0, none⟩ v') p v' R L' ∧ Turned w (w7.setCell ⟨p, 0, none⟩ v') p v v' := by
  have hp7 : w7.heap[p]? = some (.cells (v :: R).toArray 65 (0, 0)) := heap_grown P.grown hp (fun e => hv e.symm)
  have hnp : ∀ g, v'.ownBlock = some g → g ≠ p := by
    intro g hg e
    subst e
    obtain ⟨rfl, _⟩ | ⟨g', cap, cur, rfl, _, hgg, _⟩ := P.own.2
    · simp [Value.ownBlock] at hg
    · simp only [Value.ownBlock, Option.some.injEq] at hg
      subst hg
      rw [hp7] at hgg
      simp at hgg
  refine ⟨⟨?_, P.own.1, ?_⟩, ⟨P.grown.os.trans hb.os, P.grown.tape.trans hb.tape, P.grown.output.trans hb.output, ?_, ?_, ?_⟩⟩
  · rw [heap_setCell_same w7 p 0 (v :: R).toArray 65 v' hp7]
    simp
  · obtain h | ⟨g', cap, cur, hv', h1, hgg, h2⟩ := P.own.2
    · exact .inl h
    · refine .inr ⟨g', cap, cur, hv', h1, ?_, h2⟩
      rw [bv_heap_set_other _ _ _ _ (hnp g' (by rw [hv']; rfl))]
      exact hgg
  · exact Nat.le_trans hb.size (Nat.le_trans P.grown.size (by simp [World.setCell]))
  · intro k hk hkp hkr
    rw [bv_heap_set_other _ _ _ _ hkp, P.grown.block k (Nat.lt_of_lt_of_le hk hb.size) hkr, hb.block k hk]
  · rcases P.block with h | ⟨g, h, hg⟩
    · exact .inl h
    · exact .inr ⟨g, h, Nat.le_trans hb.size hg⟩

set_option maxHeartbeats 1000000 in
theorem bv_add_none {w : World} (p : Nat) (r : Rg) (hr : r.2 ≤ r.1) :
    Calls Tryd.prog 55 #[.pointer (some ⟨p, 0, none⟩), .agg #[.int .u64 r.1, .int .u64 r.2]] w fun e w' => e = .returned (.int .u64 0) ∧ Below w.heap.size w w' := by
  obtain ⟨rl, rh⟩ := r
  have HB : Hid _ := (bv_below_box w (.cells #[.int .u64 rl, .int .u64 rh] 92)).trans ((bv_below_box _ (.cells #[.int .u64 rl, .int .u64 rh] 92)).mono (bv_below_box _ _).size)
  simp only at hr
  go_enter Tryd.func55, Tryd.ntmps55
  go_wp2_with fail
  refine (empty_any rl rh _).mono ?_
  rintro e w2 ⟨rfl, rfl⟩
  go_wp2
  go_ret
  exact ⟨rfl, HB.out⟩

set_option maxHeartbeats 1000000 in
theorem bv_add_some {w : World} {p : Nat} {v : Value} {R : List Value} {L : List Rg} (S : BvAt w p v R L) (F : Fit L) (hf : (L.length + 1) * 16 ≤ 140737488355328) (r : Rg) (h0 : 0 ≤ r.1) (h1 : r.2 ≤ 18446744073709551615) (hr : r.1 < r.2) :
    Calls Tryd.prog 55 #[.pointer (some ⟨p, 0, none⟩), .agg #[.int .u64 r.1, .int .u64 r.2]] w fun e w' => e = .returned (.int .u64 (r.2 - r.1 - total (clipL L r))) ∧ ∃ v', BvAt w' p v' R (L.take (tchA L r) ++ [hull L r] ++ L.drop (tchB L r)) ∧ Turned w w' p v v' := by
  obtain ⟨a, cap, rfl, V⟩ := S.view hf
  have hct := clip_total F r h0 h1 hr
  have htl := tch_le F r hr
  have hbox := bv_box_cells w (.int .u64 r.1) (.int .u64 r.2)
  have hb1 : Below w.heap.size w (w.alloc (.cells #[.int .u64 r.1, .int .u64 r.2] 92)) := bv_below_box _ _
  have hz1 : (w.alloc (.cells #[.int .u64 r.1, .int .u64 r.2] 92)).heap.size = w.heap.size + 1 := by simp
  have hb2 := bv_below_box (w.alloc (.cells #[.int .u64 r.1, .int .u64 r.2] 92)) (.cells #[.int .u64 r.1, .int .u64 r.2] 92)
  have HC : Hid _ := common_any (w := World.drewN _ 1) r h0 h1 (((V.kept hb1).kept hb2).kept (below_drewN (Below.refl _ _) 1)) F
  obtain ⟨rl, rh⟩ := r
  simp only at hr h0 h1 hct hbox
  have HV : Hid _ := V
  have HT : Hid (∀ W, View W p a cap L → Calls Tryd.prog 82 #[.pointer (some ⟨p, 0, none⟩), .agg #[.int .u64 rl, .int .u64 rh]] W fun e w' => e = .returned (.tuple #[.int .i64 (tchA L (rl, rh)), .int .i64 (tchB L (rl, rh))]) ∧ Below W.heap.size W w') := fun W V => touched_any (rl, rh) V F
  have HH : Hid (hull L (rl, rh) = if tchA L (rl, rh) < tchB L (rl, rh) then (min rl (nth L (tchA L (rl, rh))).1, max rh (nth L (tchB L (rl, rh) - 1)).2) else (rl, rh)) := rfl
  have HGZ : Hid (∀ g i, i < L.length → a = some ⟨g, 0, none⟩ → ¬ g = w.heap.size) := fun g i hi e => by
    obtain ⟨g', e', k, _⟩ := V.row i hi
    rw [e] at e'
    simp only [Option.some.injEq, Addr.mk.injEq, and_true] at e'
    subst e'
    exact Nat.ne_of_lt (World.block_lt_of_cell? w _ k)
  have hpz : ¬ p = w.heap.size := Nat.ne_of_lt (World.block_lt_of_cell? w _ V.head)
  have HBOX : Hid _ := hbox
  have HB1 : Hid _ := hb1
  have HB2 : Hid _ := hb2
  have HZ1 : Hid _ := hz1
  have HS : Hid (BvAt w p (.slice a L.length cap) R L) := S
  have HFR : Hid ((w.alloc (.cells #[.int .u64 rl, .int .u64 rh] 92)).frozen? ⟨w.heap.size, 0, none⟩ = false ∧ (w.alloc (.cells #[.int .u64 rl, .int .u64 rh] 92)).frozen? ⟨w.heap.size, 1, none⟩ = false) := by
    constructor <;> exact frozen_of_row _ _ _ _ _ (heap_alloc_new w _)
  clear V F hbox hb1 hb2 hz1 S
  generalize hull L (rl, rh) = H at *
  generalize tchA L (rl, rh) = A at *
  generalize tchB L (rl, rh) = B at *
  generalize hT : total (clipL L (rl, rh)) = T at *
  clear hT
  have hwr : IntKind.u64.wrap (rh - rl) = rh - rl := by rw [IntKind.wrap_u64]; omega
  have hwr2 : IntKind.u64.wrap (rh - rl - T) = rh - rl - T := by rw [IntKind.wrap_u64]; omega
  go_enter Tryd.func55, Tryd.ntmps55
  go_wp2_with fail
  refine (empty_any rl rh _).mono ?_
  rintro e w2 ⟨rfl, rfl⟩
  go_upto_region 3 with fail
  go_cut [5] from 8 (fun f wc => f = .int .u64 (rh - rl - T) ∧ Below (w.alloc (.cells #[.int .u64 rl, .int .u64 rh] 92)).heap.size (w.alloc (.cells #[.int .u64 rl, .int .u64 rh] 92)) wc)
  case first =>
    go_region_with (go_at_call 81; refine Calls.mono HC.out ?_; rintro e w3 ⟨rfl, hb3⟩; have d0 := cell_kept hb3 (cell_drewN (m := 1) (cell_kept HB2.out HBOX.out.1)); have d1 := cell_kept hb3 (cell_drewN (m := 1) (cell_kept HB2.out HBOX.out.2)); have HB3 : Hid _ := hb3; clear hb3)
    all_goals (go_wp2_with fail; go_meet; exact ⟨rfl, HB2.out.trans (Below.mono (bv_below_of_drewN HB3.out) HB2.out.size)⟩)
  case rest =>
    obtain ⟨rfl, hbc⟩ := hcut
    clear HC HB2 hwr hwr2
    have HV1 : Hid _ := (HV.out.kept HB1.out).kept hbc
    have c0 := cell_kept hbc HBOX.out.1
    have c1 := cell_kept hbc HBOX.out.2
    have HBC : Hid _ := hbc
    clear hbc
    go_wp2_with fail
    refine (HT.out _ HV1.out).mono ?_
    rintro e w4 ⟨rfl, hb4⟩
    have HV4 : Hid _ := HV1.out.kept hb4
    have d0 := cell_kept hb4 c0
    have d1 := cell_kept hb4 c1
    have HB4 : Hid _ := HBC.out.trans (hb4.mono HBC.out.size)
    have f0 : w4.frozen? ⟨w.heap.size, 0, none⟩ = false := by rw [HB4.out.frozen (by rw [HZ1.out]; exact Nat.lt_succ_self _)]; exact HFR.out.1
    have f1 : w4.frozen? ⟨w.heap.size, 1, none⟩ = false := by rw [HB4.out.frozen (by rw [HZ1.out]; exact Nat.lt_succ_self _)]; exact HFR.out.2
    have HB5 : Hid _ := HB1.out.trans (HB4.out.mono HB1.out.size)
    clear HT HV HV1 c0 c1 HBC hb4 HBOX HFR HB4
    go_upto_if 27 with fail
    go_cut [] from 8 (fun wd => Below w.heap.size w wd ∧ wd.cell? ⟨w.heap.size, 0, none⟩ = some (.int .u64 H.1) ∧ wd.cell? ⟨w.heap.size, 1, none⟩ = some (.int .u64 H.2))
    case first =>
      by_cases hAB : A < B
      · have hAl : A < L.length := by omega
        have hBl : B - 1 < L.length := by omega
        obtain ⟨g, rfl, c1, c2⟩ := HV4.out.row A hAl
        have c3 := (HV4.out.at (B - 1) hBl).2
        rw [← nth_eq hAl] at c1
        rw [← nth_eq hBl] at c3
        have HE : Hid _ := HH.out.trans (if_pos hAB)
        have hd := HV4.out.head
        have hgz : ¬ g = w.heap.size := HGZ.out g A hAl rfl
        generalize (nth L A).1 = xa at *
        generalize (nth L (B - 1)).2 = xb at *
        have hAi : (A : Int) < (B : Int) := by omega
        have hAli : (A : Int) < (L.length : Int) := by omega
        have hB1 : (0 : Int) ≤ (B : Int) - 1 := by omega
        have hB2 : (B : Int) - 1 < (L.length : Int) := by omega
        have hB3 : ((B : Int) - 1).toNat = B - 1 := by omega
        have hB4 : IntKind.i64.wrap ((B : Int) - 1) = (B : Int) - 1 := by rw [IntKind.wrap_i64]; omega
        clear c2 HH
        go_wp2
        go_region
        go_wp2
        all_goals go_region
        all_goals go_wp2
        all_goals (go_meet; exact bv_hull_rel HB5.out d0 d1 HE.out (by omega) (by omega))
      · have HE : Hid _ := HH.out.trans (if_neg hAB)
        have hAi : ¬ (A : Int) < (B : Int) := by omega
        go_wp2
        go_meet
        exact ⟨HB5.out, by rw [HE.out]; exact d0, by rw [HE.out]; exact d1⟩
    case rest =>
      obtain ⟨hb6, k0, k1⟩ := hcut
      clear d0 d1 f0 f1 HB5 HV4 HH HB1 HGZ HZ1
      have S6 := HS.out.kept hb6
      have hd6 : wc.cell? ⟨p, 0, none⟩ = some (.slice a L.length cap) := by rw [cell_of_row wc p 0 _ _ _ S6.hp]; simp
      have hbx := bv_below_box wc (.cells #[.int .u64 H.1, .int .u64 H.2] 92)
      have S7 := S6.kept hbx
      have hR := bv_replace_set (World.drewN (wc.alloc (.cells #[.int .u64 H.1, .int .u64 H.2] 92)) 1) (.slice a L.length cap) L S7.own A B htl.1 htl.2 wc.heap.size 1 1 [.int .u64 H.1, .int .u64 H.2] [H] (by rw [flat_cons]; rfl) rfl
        (fun e => by have := (S6.own.lt _ e).2; omega) (by exact heap_alloc_new wc _) (by simp) (fun _ => by omega) hf
      have HX : Hid (∀ w7 a' n' cap', Hid (Placed (World.drewN (wc.alloc (.cells #[.int .u64 H.1, .int .u64 H.2] 92)) 1) w7 (.slice a L.length cap) (.slice a' n' cap') (L.take A ++ [H] ++ L.drop B).length (flat (L.take A ++ [H] ++ L.drop B))) →
          w7.cell? ⟨p, 0, none⟩ = some (.slice a L.length cap) ∧ w7.frozen? ⟨p, 0, none⟩ = false ∧ Hid (BvAt (w7.setCell ⟨p, 0, none⟩ (.slice a' n' cap')) p (.slice a' n' cap') R (L.take A ++ [H] ++ L.drop B) ∧ Turned w (w7.setCell ⟨p, 0, none⟩ (.slice a' n' cap')) p (.slice a L.length cap) (.slice a' n' cap'))) := by
        intro w7 a' n' cap' hP
        have hp7 : w7.heap[p]? = some (.cells (Value.slice a L.length cap :: R).toArray 65 (0, 0)) := heap_grown hP.out.grown S7.hp (fun e => S7.apart e.symm)
        refine ⟨by rw [cell_of_row w7 p 0 _ _ _ hp7]; simp, frozen_of_row _ _ _ _ _ hp7, ?_⟩
        exact bv_set_stored (w := w) (W := World.drewN (wc.alloc (.cells #[.int .u64 H.1, .int .u64 H.2] 92)) 1) (below_drewN (hb6.trans (hbx.mono hb6.size)) 1) (Array.getElem?_eq_some_iff.1 HS.out.hp).1 S7.hp S7.apart hP.out
      have hd7 : ∀ o, (wc.alloc o).cell? ⟨p, 0, none⟩ = some (.slice a L.length cap) := fun o => cell_kept (bv_below_box wc o) hd6
      clear S6 S7 hbx hb6 HS
      go_wp2_with fail
      go_region_with (go_at_call 83; refine hR.mono ?_; rintro e w7 ⟨a', n', cap', rfl, hP⟩; have hx := HX.out w7 a' n' cap' hP; have q1 := hx.1; have q2 := hx.2.1; have HQ : Hid _ := hx.2.2; clear hx hP)
      all_goals go_wp2
      all_goals go_ret
      all_goals exact ⟨rfl, _, HQ.out⟩

/-- Add, at whatever range. -/
theorem bv_add_any {w : World} {p : Nat} {v : Value} {R : List Value} {L : List Rg} (S : BvAt w p v R L) (F : Fit L) (hf : (L.length + 1) * 16 ≤ 140737488355328) (r : Rg) (h0 : 0 ≤ r.1) (h1 : r.2 ≤ 18446744073709551615) :
    Calls Tryd.prog 55 #[.pointer (some ⟨p, 0, none⟩), .agg #[.int .u64 r.1, .int .u64 r.2]] w fun e w' => e = .returned (.int .u64 (freshOf L r)) ∧ ∃ v', BvAt w' p v' R (addL L r) ∧ Turned w w' p v v' := by
  unfold freshOf addL
  by_cases hr : r.2 ≤ r.1
  · rw [if_pos hr, if_pos hr]
    refine (bv_add_none p r hr).mono ?_
    rintro e w' ⟨rfl, hb⟩
    exact ⟨rfl, v, S.kept hb, ⟨hb.os, hb.tape, hb.output, hb.size, fun k hk _ _ => hb.block k hk, .inl rfl⟩⟩
  · rw [if_neg hr, if_neg hr]
    exact bv_add_some S F hf r h0 h1 (by omega)

end Go.Proofs.YtaklbofbhanjgaaDoor
