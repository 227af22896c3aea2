import Derived.Test.YtfhjiggaacgncaaDoorJg6
namespace Go.Proofs.YtfhjiggaacgncaaDoor
open Go.RowKit Go.Maps Go.Sort
set_option maxRecDepth 100000

/-- Records as they are handed out: the list and each body in new memory of its own. -/
structure RecW (w : World) (B : Nat) (v : Value) (L : List (BitVec 8 × List (BitVec 8))) : Prop where
  ex : ∃ R : List Rc, R.map (fun x => (x.k, x.b)) = L ∧ w.ownsRow B 41 3 v R.length (flatR 0 R) ∧ (∀ i (h : i < R.length), OwnBy w B R[i].v R[i].b) ∧ ∀ i j (hi : i < R.length) (hj : j < R.length), i ≠ j → ∀ g, R[i].v.ownBlock = some g → R[j].v.ownBlock ≠ some g
theorem RecW.v {w : World} {B : Nat} {v : Value} {L : List (BitVec 8 × List (BitVec 8))} (h : RecW w B v L) : RecV w B v L := by
  obtain ⟨R, h1, h2, h3, _⟩ := h.ex
  refine ⟨R, h1, h2, fun x hx => ?_⟩
  obtain ⟨i, hi, rfl⟩ := List.getElem_of_mem hx
  exact own_less (h3 i hi) (Nat.zero_le _)
/-- The bodies of the first k are in new memory. -/
structure FrontN (w : World) (B : Nat) (R : List Rc) (k : Nat) : Prop where
  own : ∀ i (h : i < R.length), i < k → OwnBy w B R[i].v R[i].b
  apart : ∀ i j (hi : i < R.length) (hj : j < R.length), i < k → j < k → i ≠ j → ∀ g, R[i].v.ownBlock = some g → R[j].v.ownBlock ≠ some g
theorem FrontN.next {wr w5 : World} {B g' k off : Nat} {R : List Rc} {v x : Value} {cur : Array Value} (h : FrontN wr B R k) (hgb : B ≤ g') (hB : B ≤ wr.heap.size) (hb : Below wr.heap.size wr w5) (hkR : k < R.length) (ho : OwnBy w5 wr.heap.size v R[k].b) (hg5 : w5.heap[g']? = some (.cells cur 41 (0, 0))) :
    FrontN (w5.setCell ⟨g', off, none⟩ x) B (R.set k { R[k] with v := v }) (k + 1) := by
  have hF := (Fr.refl (fun x => x = g') w5).setCell g' off x (.inl rfl)
  have hkeep : ∀ {C : Nat} {u : Value} {b : List (BitVec 8)}, OwnBy w5 C u b → OwnBy (w5.setCell ⟨g', off, none⟩ x) C u b := fun ho => hF.own ho (fun x e e' => by
    obtain ⟨c', hc'⟩ := own_blk ho e
    subst e'
    exact absurd (cells_type hg5 hc') (by decide))
  refine ⟨fun i hi hk => ?_, fun i j hi hj hik hjk hij g e => ?_⟩
  · rw [List.length_set] at hi
    by_cases e : i = k
    · subst e
      simp only [List.getElem_set_self]
      exact hkeep (own_less ho hB)
    · simp only [List.getElem_set_ne (Ne.symm e)]
      exact hkeep (own_below (h.own i hi (by omega)) hb)
  · have hi' : i < R.length := by simpa using hi
    have hj' : j < R.length := by simpa using hj
    have key : ∀ i (hi : i < R.length), i < k → ∀ g, R[i].v.ownBlock = some g → v.ownBlock ≠ some g := fun i hi hk g e e' => by
      have h1 := own_lt (h.own i hi hk) e
      have h2 := own_ge ho e'
      omega
    by_cases ei : i = k
    · subst ei
      simp only [List.getElem_set_self] at e
      simp only [List.getElem_set_ne hij]
      exact fun e' => key j hj' (by omega) g e' e
    · simp only [List.getElem_set_ne (Ne.symm ei)] at e
      by_cases ej : j = k
      · subst ej
        simp only [List.getElem_set_self]
        exact key i hi' (by omega) g e
      · simp only [List.getElem_set_ne (Ne.symm ej)]
        exact h.apart i j hi' hj' (by omega) (by omega) hij g e
set_option maxHeartbeats 2000000 in
theorem records_own {w : World} {q : Nat} {G : Lg} (h : LgAt w q G) (hl : G.R.length ≤ 1099511627776) (hb : ∀ x ∈ G.R, x.b.length ≤ 65536) : Calls Tryd.prog 17 #[pt q 0] w fun e w' => ∃ v, e = .returned v ∧ RecW w' w.heap.size v (G.R.map fun x => (x.k, x.b)) ∧ Below w.heap.size w w' := by
  have HC := hid (clone41 h hl)
  have c4 := h.row.cell 4 _ rfl
  obtain ⟨ra, rc, er, -⟩ := own_len h.recs
  rw [er] at HC c4
  have HB0 : Hid (∀ w1, Below w.heap.size w w1 → ∀ x ∈ G.R, OwnBy w1 0 x.v x.b) := fun w1 hb1 x hx => own_below (h.by_ x hx) hb1
  have hli : (G.R.length : Int) ≤ 1099511627776 := by omega
  have HBL := hid hb
  clear h er hl hb
  go_enter Tryd.func17, Tryd.ntmps17
  go_upto_region 2 with (go_at_call 36; refine HC.out.mono ?_; rintro e w1 ⟨v1, rfl, hO1, hb1⟩; have HO1 := hid hO1; have HB1 := hid hb1; obtain ⟨va, vc, ev, hv1, hv2, hv3⟩ := own_len hO1; subst ev; clear hO1 hb1)
  go_wp2
  go_loopw [12] (fun i wr => ∃ (k : Nat) (R : List Rc), k ≤ G.R.length ∧ i = .int .i64 k ∧ Hid (R.map (fun x => (x.k, x.b)) = G.R.map fun x => (x.k, x.b)) ∧ Hid (wr.ownsRow w.heap.size 41 3 (.slice va G.R.length vc) G.R.length (flatR 0 R)) ∧ Hid (∀ x ∈ R, OwnBy wr 0 x.v x.b) ∧ Hid (FrontN wr w.heap.size R k) ∧ Hid (Below w.heap.size w wr)) (fun i _ => G.R.length - (intOf i).toNat)
  case atStart => exact ⟨0, G.R, Nat.zero_le _, rfl, rfl, HO1.out, HB0.out _ HB1.out, ⟨fun i hi hk => by omega, fun i j hi hj hik => by omega⟩, HB1.out⟩
  case round =>
    obtain ⟨k, R, hk, rfl, HM, HO, HA, HFN, HB⟩ := hrel
    have hRl : R.length = G.R.length := by have := congrArg List.length HM.out; simpa using this
    by_cases hlt : k < G.R.length
    · have hkR : k < R.length := by omega
      obtain ⟨hl', ⟨e', hz⟩ | ⟨g', cap', cur, e', hgb, hg, hnc, hcm, hcs, htk⟩⟩ := HO.out
      · injection e' with e1 e2 e3
        omega
      · injection e' with e1 e2 e3
        subst e1 e3
        have cell2 := flatR_at R 0 k 2 hkR (by omega)
        rw [← htk, List.getElem?_take, if_pos (by omega), Array.getElem?_toList] at cell2
        have d2 : wr.cell? ⟨g', k * 3 + 2, none⟩ = some R[k].v := by rw [cell_of_row wr g' _ _ _ _ hg]; exact cell2
        have hx := HA.out _ (List.getElem_mem hkR)
        obtain ⟨xa, xc, ex, hBx, _⟩ := ownBy_shape hx
        have hxb : R[k].b.length ≤ 65536 := by
          have h1 : (R.map fun x => (x.k, x.b))[k]? = some (R[k].k, R[k].b) := by simp [hkR]
          rw [HM.out] at h1
          simp at h1
          obtain ⟨y, hy, _, e2⟩ := h1
          rw [← e2]
          exact HBL.out y (List.mem_of_getElem? hy)
        have HCL := hid (clone_any (cap := xc) hBx rfl (by omega))
        rw [ex] at d2
        have fz : wr.frozen? ⟨g', k * 3 + 2, none⟩ = false := by simp [World.frozen?, hg]
        have HG := hid (And.intro hgb hg)
        have HX := hid ex
        generalize hbk : R[k].b = bk at *
        clear hl' hgb hg hcs htk cell2 hBx ex hx hxb
        go_upto_region 6 with (go_at_call 35; refine HCL.out.mono ?_; rintro e w5 ⟨v5, rfl, hO5, hb5⟩; have d5 := cell_kept hb5 d2; have f5 : w5.frozen? ⟨g', k * 3 + 2, none⟩ = false := (by have h1 := hb5.block g' (Array.getElem?_eq_some_iff.1 HG.out.2).1; rw [HG.out.2] at h1; simp [World.frozen?, h1]); have HO5 := hid hO5; have HB5 := hid hb5; obtain ⟨a5, c5, e5, -⟩ := own_len hO5; subst e5; clear hO5 hb5)
        go_wp2
        go_roundw
        case rel =>
          have hF := (Fr.refl (fun x => x = g') w5).setCell g' (k * 3 + 2) (.slice a5 bk.length c5) (.inl rfl)
          have hg5 : w5.heap[g']? = some (.cells cur 41 (0, 0)) := (HB5.out.block g' (Array.getElem?_eq_some_iff.1 HG.out.2).1).trans HG.out.2
          have hkeep : ∀ (u : Value) (b : List (BitVec 8)), OwnBy w5 0 u b → OwnBy (w5.setCell ⟨g', k * 3 + 2, none⟩ (.slice a5 bk.length c5)) 0 u b := fun u b ho => hF.own ho (fun x e e' => by
            obtain ⟨c', hc'⟩ := own_blk ho e
            subst e'
            exact absurd (cells_type hg5 hc') (by decide))
          refine ⟨k + 1, R.set k { R[k] with v := .slice a5 bk.length c5 }, hlt, by go_num, ?_, ?_, ?_, ?_, ?_⟩
          · show _ = _
            rw [List.map_set, ← HM.out]
            exact List.ext_getElem (by simp) (fun i h1 h2 => by
              rw [List.getElem_set]
              split
              · rename_i e; subst e; simp
              · rfl)
          · have := own_set (own_below HO.out HB5.out) (k * 3 + 2) (.slice a5 bk.length c5)
            rw [flatR_set R 0 k hkR] at this
            exact this
          · intro x hx
            rcases List.mem_or_eq_of_mem_set hx with hx | rfl
            · exact hkeep _ _ (own_below (HA.out x hx) HB5.out)
            · exact hkeep (.slice a5 bk.length c5) R[k].b (by rw [hbk]; exact own_less HO5.out (Nat.zero_le _))
          · exact HFN.out.next HG.out.1 HB.out.size HB5.out hkR (by rw [hbk]; exact HO5.out) hg5
          · exact (below_two HB.out HB5.out (Nat.le_refl _)).trans (hF.below (fun x e => by subst e; exact HG.out.1) (Nat.le_trans HB.out.size HB5.out.size))
        case measure => simp [intOf]; omega
    · obtain rfl : k = G.R.length := by omega
      have HZ : Hid (RecW wr w.heap.size (.slice va G.R.length vc) (G.R.map fun x => (x.k, x.b))) := ⟨R, HM.out, by rw [hRl]; exact HO.out, fun i hi => HFN.out.own i hi (by omega), fun i j hi hj hij g e => HFN.out.apart i j hi hj (by omega) (by omega) hij g e⟩
      clear HM HO HA HFN HO1 HB0 HBL
      go_wp2
      go_ret
      exact ⟨_, rfl, HZ.out, HB.out⟩
end Go.Proofs.YtfhjiggaacgncaaDoor
