import Derived.Test.YtjbjaklbckhodabMiss0
import Derived.Test.YtjbjaklbckhodabRemove
namespace Go.Proofs.Ytjbjaklbckhodab
open Go.RowKit
set_option maxRecDepth 100000

/-- What the round keeps: the list so far, and the range's box. -/
structure Hunt (w wr : World) (L : List Rg) (r : Rg) (k : Nat) (v : Value) : Prop where
  row : wr.ownsRow (w.heap.size + 1) 25 2 v (missAt L r k).1.length (flat (missAt L r k).1)
  box : wr.heap[w.heap.size]? = some (.cells #[.int .u64 (missAt L r k).2, .int .u64 r.2] 25 (0, 0))
  bel : Below w.heap.size w wr
theorem Hunt.lt {w wr : World} {L : List Rg} {r : Rg} {k : Nat} {v : Value} (H : Hunt w wr L r k v) : w.heap.size < wr.heap.size := (Array.getElem?_eq_some_iff.1 H.box).1
theorem Hunt.apart {w wr : World} {L : List Rg} {r : Rg} {k : Nat} {v : Value} (H : Hunt w wr L r k v) : some w.heap.size ≠ v.ownBlock := fun e => by
  have := (H.row.lt _ e.symm).1; omega
theorem Hunt.alloc {w wr : World} {L : List Rg} {r : Rg} {k : Nat} {v : Value} (H : Hunt w wr L r k v) (o : Obj) : Hunt w (wr.alloc o) L r k v :=
  ⟨H.row.alloc o, (heap_alloc_old wr o H.lt).trans H.box, H.bel.alloc H.bel.size o⟩
theorem Hunt.cells {w wr : World} {L : List Rg} {r : Rg} {k : Nat} {v : Value} (H : Hunt w wr L r k v) : wr.cell? ⟨w.heap.size, 0, none⟩ = some (.int .u64 (missAt L r k).2) ∧ wr.cell? ⟨w.heap.size, 1, none⟩ = some (.int .u64 r.2) ∧ wr.frozen? ⟨w.heap.size, 0, none⟩ = false :=
  ⟨by rw [cell_of_row wr _ 0 _ _ _ H.box]; rfl, by rw [cell_of_row wr _ 1 _ _ _ H.box]; rfl, frozen_of_row _ _ _ _ _ H.box⟩
theorem box_stored {W : World} {b : Nat} {x y z : Value} (h : W.heap[b]? = some (.cells #[x, y] 25 (0, 0))) : (W.setCell ⟨b, 0, none⟩ z).heap[b]? = some (.cells #[z, y] 25 (0, 0)) := by
  rw [heap_setCell_same W b 0 #[x, y] 25 z h]; rfl
/-- Nothing is missing ahead of t. -/
theorem hunt_drop {w wr : World} {L : List Rg} {r : Rg} {k : Nat} {v : Value} {tl th : Int} (H : Hunt w wr L r k v) (ht : nth L (ovlA L r + k) = (tl, th)) (hlt : ¬ (missAt L r k).2 < tl) (o : Obj) : Hunt w ((wr.setCell ⟨w.heap.size, 0, none⟩ (.int .u64 th)).alloc o) L r (k + 1) v := by
  have e : missAt L r (k + 1) = ((missAt L r k).1, th) := by simp only [missAt, ht, if_neg hlt]
  refine Hunt.alloc ⟨?_, ?_, H.bel.setCell (Nat.le_refl _) _⟩ o
  · rw [e]; exact ownsRow_setCell_below H.row (Nat.lt_succ_self _) _
  · rw [e]; exact box_stored H.box
/-- Something is. -/
theorem hunt_keep {w wr w2 : World} {L : List Rg} {r : Rg} {k : Nat} {v v' : Value} {tl th : Int} (H : Hunt w wr L r k v) (ht : nth L (ovlA L r + k) = (tl, th)) (hlt : (missAt L r k).2 < tl)
    (hown : w2.ownsRow (w.heap.size + 1) 25 2 v' ((missAt L r k).1.length + 1) (flat (missAt L r k).1 ++ [.int .u64 (missAt L r k).2, .int .u64 tl])) (hg : wr.grownBy w2 v.ownBlock) : Hunt w (w2.setCell ⟨w.heap.size, 0, none⟩ (.int .u64 th)) L r (k + 1) v' := by
  have e : missAt L r (k + 1) = ((missAt L r k).1 ++ [((missAt L r k).2, tl)], th) := by simp only [missAt, ht, if_pos hlt]
  have hb : Below w.heap.size w w2 := by
    refine ⟨hg.os.trans H.bel.os, hg.tape.trans H.bel.tape, hg.output.trans H.bel.output, Nat.le_trans H.bel.size hg.size, fun j hj => ?_⟩
    rw [hg.block j (Nat.lt_of_lt_of_le hj H.bel.size) (fun e => by have := (H.row.lt _ e.symm).1; omega)]
    exact H.bel.block j hj
  refine ⟨?_, ?_, hb.setCell (Nat.le_refl _) _⟩
  · rw [e, flat_append, flat_cons, List.length_append]
    exact ownsRow_setCell_below hown (Nat.lt_succ_self _) _
  · rw [e]
    refine box_stored ((hg.block _ H.lt H.apart).trans H.box)

theorem hunt_after {w wr w2 : World} {L : List Rg} {r : Rg} {k : Nat} {v x y : Value} {o2 : Obj} (H : Hunt w wr L r k v) (hg : ((wr.alloc (.cells #[x, y] 25)).alloc o2).grownBy w2 v.ownBlock) :
    w2.cell? ⟨wr.heap.size, 1, none⟩ = some y ∧ w2.cell? ⟨w.heap.size, 0, none⟩ = some (.int .u64 (missAt L r k).2) ∧ w2.frozen? ⟨w.heap.size, 0, none⟩ = false := by
  have H2 := (H.alloc (.cells #[x, y] 25)).alloc o2
  have hb := (hg.block _ H2.lt H2.apart).trans H2.box
  refine ⟨hg.cell (box0 #[x, y] 25 o2 1) (fun e => ?_), by rw [cell_of_row w2 _ 0 _ _ _ hb]; rfl, frozen_of_row _ _ _ _ _ hb⟩
  have := (H.row.lt _ e.symm).2
  simp only at this
  omega

theorem hunt_end {w wr : World} {L : List Rg} {r : Rg} {v : Value} {A B : Nat} (H : Hunt w wr L r (B - A) v) (hA : A = ovlA L r) (hB : B = ovlB L r) :
    (¬ (missAt L r (B - A)).2 < r.2 → wr.ownsRow (w.heap.size + 1) 25 2 v (missL L r).length (flat (missL L r))) ∧
    ((missAt L r (B - A)).2 < r.2 → ∀ (w2 : World) v', w2.ownsRow (w.heap.size + 1) 25 2 v' ((missAt L r (B - A)).1.length + 1) (flat (missAt L r (B - A)).1 ++ [.int .u64 (missAt L r (B - A)).2, .int .u64 r.2]) → w2.ownsRow (w.heap.size + 1) 25 2 v' (missL L r).length (flat (missL L r))) := by
  subst hA hB
  unfold missL
  constructor
  · intro h
    rw [if_neg h]
    exact H.row
  · intro h w2 v' hw
    rw [if_pos h, flat_append, flat_cons, List.length_append]
    exact hw

theorem info29' : (Try.prog.info? 25).map (fun i => (i.zero, i.size, i.bytes)) = some (some (.agg #[.int .u64 0, .int .u64 0]), 2, 16) := info29

set_option maxHeartbeats 1000000 in
theorem missing_any {w : World} {p : Nat} {a : Option Addr} {cap : Nat} {L : List Rg} (r : Rg) (h0 : 0 ≤ r.1) (h1 : r.1 ≤ 18446744073709551615) (hf : (L.length + 2) * 16 ≤ 140737488355328) (V : View w p a cap L) (F : Fit L) :
    Calls Try.prog 13 #[.pointer (some ⟨p, 0, none⟩), .agg #[.int .u64 r.1, .int .u64 r.2]] w fun e w' => ∃ v, e = .returned v ∧ w'.ownsRow (w.heap.size + 1) 25 2 v (missL L r).length (flat (missL L r)) ∧ Below w.heap.size w w' := by
  have HSO : Hid _ := miss_so F r h1
  have hle := ovl_le F r
  obtain ⟨rl, rh⟩ := r
  have hb : Below w.heap.size w (w.alloc (.cells #[.int .u64 rl, .int .u64 rh] 25)) := below_box _ _
  have hz : (w.alloc (.cells #[.int .u64 rl, .int .u64 rh] 25)).heap.size = w.heap.size + 1 := by simp
  have HBX : Hid ((w.alloc (.cells #[.int .u64 rl, .int .u64 rh] 25)).heap[w.heap.size]? = some (.cells #[.int .u64 rl, .int .u64 rh] 25 (0, 0))) := heap_alloc_new w _
  have hO := overlapped_any (rl, rh) (V.kept hb) F
  simp only at hO
  have HVW : Hid _ := V
  have HV : Hid _ := V.kept hb
  have HB : Hid _ := hb
  clear V F hb
  obtain ⟨A, hA⟩ : ∃ A, A = ovlA L (rl, rh) := ⟨_, rfl⟩
  obtain ⟨B, hB⟩ : ∃ B, B = ovlB L (rl, rh) := ⟨_, rfl⟩
  rw [← hA, ← hB] at hO hle
  have HA : Hid _ := hA
  have HBB : Hid _ := hB
  clear hA hB
  obtain ⟨i0, hi, hz0, hz1, hz2⟩ := info_parts info29'
  go_enter Try.func13, Try.ntmps13
  go_wp2_with fail
  refine hO.mono ?_
  rintro e w1 ⟨rfl, hb1⟩
  have HV1 : Hid _ := HV.out.kept hb1
  have hzz := hb1.size
  rw [hz] at hzz
  have HB1 : Hid _ := HB.out.trans (hb1.mono HB.out.size)
  have HBX1 : Hid _ := (hb1.block w.heap.size (by rw [hz]; exact Nat.lt_succ_self _)).trans HBX.out
  clear hO hb1 hz HV HB HBX
  have hd := HV1.out.head
  have hAl : (A : Int) ≤ (L.length : Int) := by omega
  have hAB : (A : Int) ≤ (B : Int) := by omega
  have hfew := HV1.out.few
  have hBc : (B : Int) ≤ (cap : Int) := by have := HV1.out.le; omega
  go_upto_region 3 with fail
  go_cut [22, 23, 24] from 10 (fun s l i wc => wc = w1 ∧ l = .int .i64 ((B - A : Nat) : Int) ∧ i = .int .i64 0 ∧ ∃ ax cx, s = .slice ax (B - A) cx ∧ (A < B → ∃ g, a = some ⟨g, 0, none⟩ ∧ ax = some ⟨g, A * 2, none⟩))
  case first =>
    by_cases hlt : A < B
    · obtain ⟨g, rfl, _, _⟩ := HV1.out.row A (by omega)
      have hAc : ¬ cap = A := by omega
      go_wp2
      go_meet
      exact ⟨rfl, by go_num, rfl, _, _, rfl, fun _ => ⟨g, rfl, rfl⟩⟩
    · obtain rfl : A = B := by omega
      rcases HV1.out.shape with ⟨rfl, rfl⟩ | ⟨g, rfl⟩
      · have hA0 : A = 0 := by omega
        subst hA0
        go_wp2
        go_meet
        exact ⟨rfl, by go_num, rfl, _, _, rfl, fun h => absurd h hlt⟩
      · go_wp2
        all_goals go_meet
        all_goals exact ⟨rfl, by go_num, rfl, _, _, by rw [Nat.sub_self], fun h => absurd h hlt⟩
  case rest =>
    obtain ⟨rfl, rfl, rfl, ax, cx, rfl, hax⟩ := hcut
    have HAX : Hid _ := hax
    clear hax hd hAl hAB hBc
    go_wp2
    go_loopg [5, 24] (B - A) (fun kx v i wr => ∃ k : Nat, k ≤ B - A ∧ (B - A) - k ≤ kx ∧ i = .int .i64 k ∧ Hunt w wr L (rl, rh) k v)
    case atStart => exact ⟨0, Nat.zero_le _, by omega, rfl, ⟨World.ownsRow_nil _ _ _ _, HBX1.out, HB1.out⟩⟩
    case round =>
      obtain ⟨k, hk, hkx, rfl, hH⟩ := hrel
      obtain ⟨v, hv⟩ : ∃ v, v = u5 := ⟨_, rfl⟩
      subst hv
      have HH : Hid _ := hH
      clear hH
      by_cases hlt : k < B - A
      · have hki : (k : Int) < ((B - A : Nat) : Int) := by omega
        obtain ⟨g, rfl, rfl⟩ := HAX.out (by omega)
        have hnl : A + k < L.length := by omega
        obtain ⟨c1, c2⟩ := HVW.out.at (A + k) hnl
        have e1 := cell_kept HH.out.bel c1
        have e2 := cell_kept HH.out.bel c2
        obtain ⟨b0, b1, bf⟩ := HH.out.cells
        have hso := HSO.out k (by rw [← HA.out, ← HBB.out]; exact hk)
        have hl := hso.len
        have HNT : Hid (nth L (A + k) = L[A + k]) := nth_eq hnl
        have hsz := HH.out.lt
        have HDR : Hid _ := fun tl th => @hunt_drop w wr L (rl, rh) k v tl th HH.out
        have HKP : Hid _ := fun o1 o2 tl th w2 v' => @hunt_keep w ((wr.alloc o1).alloc o2) w2 L (rl, rh) k v v' tl th ((HH.out.alloc o1).alloc o2)
        have HAF : Hid _ := fun x y o2 w2 => @hunt_after w wr w2 L (rl, rh) k v x y o2 HH.out
        rw [← HA.out] at HDR HKP
        clear c1 c2
        generalize L[A + k] = t at *
        obtain ⟨tl, th⟩ := t
        rw [HNT.out] at HDR HKP
        simp only at e1 e2
        rw [show (A + k) * 2 = A * 2 + k * 2 by omega] at e1
        rw [show (A + k) * 2 + 1 = A * 2 + k * 2 + 1 by omega] at e2
        have hrow := HH.out.row
        generalize (missAt L (rl, rh) k).1 = o at *
        generalize (missAt L (rl, rh) k).2 = lo at *
        have HROW : Hid _ := hrow
        clear hrow HNT
        have g0 := fun o => cell_kept (below_box wr o) b0
        have g1 := fun o => cell_kept (below_box wr o) b1
        by_cases hc : lo < tl
        · have hcd : decide (lo < tl) = true := by simp; omega
          go_wp2_with (at_builtin; refine wpList_append_own _ rfl _ _ 22 rfl (w.heap.size + 1) 25 i0 (.agg #[.int .u64 0, .int .u64 0]) 2 16 Try.underlying22 hi hz0 hz1 hz2 rfl (by decide) _ _ _ rfl (World.ownsRow.alloc (World.ownsRow.alloc HROW.out _) _) ⟨wr.heap.size + 1, 0, none⟩ 1 1 [.int .u64 lo, .int .u64 tl] rfl rfl ?c1 ?c2 ?c3 ?c4 ?c5 ?_)
          case c2 => first | exact pair_one lo tl | exact ⟨rfl, rfl⟩
          case c3 => unfold maxLen; omega
          case c4 => omega
          case c5 => first | omega | (simp; omega)
          · intro v' w2 hown' hgrow _
            obtain ⟨q1, q2, q3⟩ := HAF.out _ _ _ _ hgrow
            have HR : Hid _ := HKP.out _ _ tl th w2 v' rfl hc hown' hgrow
            clear hown' hgrow b0 b1 bf g0 g1 e1 e2 hcd
            go_wp2
            go_roundg (B - A - (k + 1))
            case measure => omega
            case rel => exact ⟨k + 1, hlt, Nat.le_refl _, by go_num, HR.out⟩
        · have hcd : decide (lo < tl) = false := by simp; omega
          have HR : Hid _ := HDR.out tl th rfl hc
          go_wp2
          go_roundg (B - A - (k + 1))
          case measure => omega
          case rel => exact ⟨k + 1, hlt, Nat.le_refl _, by go_num, HR.out _⟩
      · obtain rfl : k = B - A := by omega
        have hki : ¬ ((B - A : Nat) : Int) < ((B - A : Nat) : Int) := by omega
        obtain ⟨b0, b1, bf⟩ := HH.out.cells
        have hso := HSO.out (B - A) (by rw [← HA.out, ← HBB.out]; exact Nat.le_refl _)
        have hl := hso.len
        have HML : Hid _ := hunt_end HH.out HA.out HBB.out
        have HROW : Hid _ := HH.out.row
        have HBE : Hid _ := HH.out.bel
        have hsz := HH.out.lt
        have HAP : Hid (∀ j, j < w.heap.size + 1 → some j ≠ v.ownBlock) := fun j hj e => by have := (HH.out.row.lt _ e.symm).1; omega
        clear HH HSO HBX1 HB1 HAX hso
        generalize (missAt L (rl, rh) (B - A)).1 = o at *
        generalize (missAt L (rl, rh) (B - A)).2 = lo at *
        have g0 := fun o => cell_kept (below_box wr o) b0
        have g1 := fun o => cell_kept (below_box wr o) b1
        go_wp2_with fail
        refine (empty_any lo rh _).mono ?_
        rintro e w2 ⟨rfl, rfl⟩
        by_cases hc : lo < rh
        · have hcd : decide (rh ≤ lo) = false := by simp; omega
          have HE : Hid _ := HML.out.2 hc
          go_wp2_with (at_builtin; refine wpList_append_own _ rfl _ _ 22 rfl (w.heap.size + 1) 25 i0 (.agg #[.int .u64 0, .int .u64 0]) 2 16 Try.underlying22 hi hz0 hz1 hz2 rfl (by decide) _ _ _ rfl (World.ownsRow.alloc (World.ownsRow.alloc HROW.out _) _) ⟨wr.heap.size + 1, 0, none⟩ 1 1 [.int .u64 lo, .int .u64 rh] rfl rfl ?d1 ?d2 ?d3 ?d4 ?d5 ?_)
          case d1 =>
            intro j u hj
            match j, hj with
            | 0, hj => simp at hj; subst hj; first | exact box1 _ #[.int .u64 lo, .int .u64 rh] 25 0 | (rw [Addr.add_lit]; exact box1 _ #[.int .u64 lo, .int .u64 rh] 25 0)
            | 1, hj => simp at hj; subst hj; first | exact box1 _ #[.int .u64 lo, .int .u64 rh] 25 1 | (rw [Addr.add_lit]; exact box1 _ #[.int .u64 lo, .int .u64 rh] 25 1)
          case d2 => first | exact pair_one lo rh | exact ⟨rfl, rfl⟩
          case d3 => unfold maxLen; omega
          case d4 => omega
          case d5 => first | omega | (simp; omega)
          · intro v' w3 hown' hgrow _
            have HX : Hid _ := HE.out w3 v' hown'
            have HBF : Hid (Below w.heap.size w w3) := by
              have hb := HBE.out.trans (Below.mono (boxes (.cells #[.int .u64 lo, .int .u64 rh] 25) (.cells #[.int .u64 lo, .int .u64 rh] 25)) HBE.out.size)
              exact ⟨hgrow.os.trans hb.os, hgrow.tape.trans hb.tape, hgrow.output.trans hb.output, Nat.le_trans hb.size hgrow.size, fun j hj => (hgrow.block j (Nat.lt_of_lt_of_le hj hb.size) (HAP.out j (by omega))).trans (hb.block j hj)⟩
            clear hown' hgrow
            go_wp2
            go_ret
            exact ⟨_, rfl, HX.out, HBF.out⟩
        · have hcd : decide (rh ≤ lo) = true := by simp; omega
          have HE : Hid _ := HML.out.1 (by omega)
          go_wp2
          go_ret
          exact ⟨_, rfl, World.ownsRow.alloc HE.out _, HBE.out.alloc HBE.out.size _⟩

end Go.Proofs.Ytjbjaklbckhodab
