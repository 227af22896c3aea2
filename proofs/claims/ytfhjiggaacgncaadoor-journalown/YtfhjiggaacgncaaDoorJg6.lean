import Derived.Test.YtfhjiggaacgncaaDoorJg2
namespace Go.Proofs.YtfhjiggaacgncaaDoor
open Go.RowKit Go.Maps Go.Sort
set_option maxRecDepth 100000

theorem flatR_one : ∀ (i : Nat) (R : List Rc), (∀ x ∈ R, x.v.oneCell' = true) → ∀ v ∈ flatR i R, v.oneCell' = true
  | _, [], _, v, hv => by cases hv
  | i, x :: r, h, v, hv => by
    rw [flatR] at hv
    rcases List.mem_append.1 hv with hv | hv
    · have : v = .int .u64 (i : Nat) ∨ v = .int .u8 (ub x.k) ∨ v = x.v := by simpa [rcells] using hv
      rcases this with rfl | rfl | rfl
      · rfl
      · rfl
      · exact h x (by simp)
    · exact flatR_one (i + 1) r (fun y hy => h y (List.mem_cons_of_mem _ hy)) v hv
theorem own_one {w : World} {base : Nat} {t : TypeId} {sz : Nat} {v : Value} {n : Nat} {xs : List Value} (h : w.ownsRow base t sz v n xs) : v.oneCell' = true := by
  obtain ⟨a, c, rfl, -⟩ := own_len h
  rfl
set_option maxHeartbeats 1000000 in
/-- A copy of the list of records. -/
theorem clone41 {w : World} {q : Nat} {G : Lg} (h : LgAt w q G) (hl : G.R.length ≤ 1099511627776) : Calls Tryd.prog 36 #[G.rv] w fun e w' => ∃ v, e = .returned v ∧ w'.ownsRow w.heap.size 41 3 v G.R.length (flatR 0 G.R) ∧ Below w.heap.size w w' := by
  have hone := flatR_one 0 G.R (fun x hx => own_one (h.by_ x hx))
  obtain ⟨hlen, ⟨er, hn⟩ | ⟨g, cap, cur, er, hb, hg, hnc, hcm, hcs, htk⟩⟩ := h.recs
  · rw [er]
    have hR : G.R = [] := List.eq_nil_of_length_eq_zero hn
    have HP : Hid (w.ownsRow w.heap.size 41 3 (.slice none 0 0) G.R.length (flatR 0 G.R)) := by rw [hR]; exact ⟨rfl, .inl ⟨rfl, rfl⟩⟩
    have he : ∀ w : World, (binOp .eql 38 (.slice none 0 0) (.slice none 0 0)).run Tryd.prog w = .ok (.bool true) w := fun _ => rfl
    clear hlen hone h er hn hR
    go_enter Tryd.func36, Tryd.ntmps36
    go_wp2
    go_ret
    exact ⟨_, rfl, HP.out, Below.refl _ _⟩
  · rw [er]
    obtain ⟨i, h1, h2, h3, h4⟩ := info41
    have hba := below_new w (.cells #[] 41)
    have hcell : ∀ j u, (flatR 0 G.R)[j]? = some u → (w.alloc (.cells #[] 41)).cell? ((⟨g, 0, none⟩ : Addr).add j) = some u := fun j u hu => by
      rw [Addr.add_mid, Nat.zero_add]
      refine cell_kept hba ?_
      rw [cell_of_row w g _ _ _ _ hg, ← Array.getElem?_toList, ← hu, ← htk, List.getElem?_take, if_pos]
      have := (List.getElem?_eq_some_iff.1 hu).1
      omega
    obtain ⟨v', w', hr, ho, hgr, _, ha⟩ := run_append_own_at (P := Tryd.prog) (w.alloc (.cells #[] 41)) w.heap.size 38 38 41 i (.agg #[.int .u64 0, .int .u8 0, .slice none 0 0]) 3 40 Tryd.underlying38 h1 h2 h3 h4 rfl (by decide) (.slice (some ⟨w.heap.size, 0, none⟩) 0 0) 0 [] ⟨rfl, .inr ⟨w.heap.size, 0, #[], rfl, Nat.le_refl _, heap_alloc_last w _, Nat.le_refl _, by decide, rfl, rfl⟩⟩ ⟨g, 0, none⟩ G.R.length cap (flatR 0 G.R) (flatR_len 0 G.R) hcell hone (by unfold maxLen; omega) (by omega) (by simp)
    have hb2 : Below w.heap.size w w' := hba.trans ((Below.refl _ _).grown hgr (by simp) (fun g e => by simp [Value.ownBlock] at e; omega))
    rw [Nat.zero_add, List.nil_append] at ho
    have HX := hid (And.intro ho hb2)
    have HR := hid hr
    have he : ∀ w : World, (binOp .eql 38 (.slice (some ⟨g, 0, none⟩) G.R.length cap) (.slice none 0 0)).run Tryd.prog w = .ok (.bool false) w := fun _ => rfl
    clear hlen hone h er hb hg hnc hcm hcs htk hcell hr ho hgr ha hb2 hba
    go_enter Tryd.func36, Tryd.ntmps36
    go_wp2_with (at_builtin; refine wpList_append_by rfl (.tmp 5) (.tmp 6) 38 rfl rfl rfl HR.out ?_)
    go_ret
    exact ⟨_, rfl, HX.out.1, HX.out.2⟩
/-- Records as they are handed out: in new memory. -/
structure RecV (w : World) (B : Nat) (v : Value) (L : List (BitVec 8 × List (BitVec 8))) : Prop where
  ex : ∃ R : List Rc, R.map (fun x => (x.k, x.b)) = L ∧ w.ownsRow B 41 3 v R.length (flatR 0 R) ∧ ∀ x ∈ R, OwnBy w 0 x.v x.b
/-- A cell of an own row is set. -/
theorem own_set {w : World} {B : Nat} {t : TypeId} {sz : Nat} {g n cap : Nat} {xs : List Value} (h : w.ownsRow B t sz (.slice (some ⟨g, 0, none⟩) n cap) n xs) (j : Nat) (x : Value) : (w.setCell ⟨g, j, none⟩ x).ownsRow B t sz (.slice (some ⟨g, 0, none⟩) n cap) n (xs.set j x) := by
  obtain ⟨hl, ⟨e, _⟩ | ⟨g', cap', cur, e, hb, hg, hnc, hcm, hcs, htk⟩⟩ := h
  · cases e
  · cases e
    refine ⟨by rw [List.length_set]; exact hl, .inr ⟨g, cap, cur.setIfInBounds j x, rfl, hb, ?_, hnc, hcm, by simpa using hcs, ?_⟩⟩
    · rw [setCell_eq_setRow w g j cur t (0, 0) x hg, setRow_heap w g _ _ t (0, 0) hg]
    · rw [Array.toList_setIfInBounds, List.take_set, htk]
theorem flatR_set : ∀ (R : List Rc) (s i : Nat) (h : i < R.length) (v : Value), (flatR s R).set (i * 3 + 2) v = flatR s (R.set i { R[i] with v := v })
  | x :: r, s, 0, _, v => by
    rw [flatR, List.set_append_left _ _ (by simp [rcells])]
    rfl
  | x :: r, s, i + 1, h, v => by
    rw [flatR, List.set_append_right _ _ (by simp [rcells]; omega), show (i + 1) * 3 + 2 - (rcells s x).length = i * 3 + 2 by simp [rcells]; omega, flatR_set r (s + 1) i (by simpa using h) v]
    rfl
set_option maxHeartbeats 2000000 in
theorem records_any {w : World} {q : Nat} {G : Lg} (h : LgAt w q G) (hl : G.R.length ≤ 1099511627776) (hb : ∀ x ∈ G.R, x.b.length ≤ 65536) : Calls Tryd.prog 17 #[pt q 0] w fun e w' => ∃ v, e = .returned v ∧ RecV w' w.heap.size v (G.R.map fun x => (x.k, x.b)) ∧ Below w.heap.size w w' := by
  have HC := hid (clone41 h hl)
  have c4 := h.row.cell 4 _ rfl
  obtain ⟨ra, rc, er, -⟩ := own_len h.recs
  rw [er] at HC c4
  have HB0 : Hid (∀ w1, Below w.heap.size w w1 → ∀ x ∈ G.R, OwnBy w1 0 x.v x.b) := fun w1 hb1 x hx => own_below (h.by_ x hx) hb1
  have hli : (G.R.length : Int) ≤ 1099511627776 := by omega
  have HBL := hid hb
  clear h er hl hb
  go_enter Tryd.func17, Tryd.ntmps17
  go_upto_region 2 with (go_at_call 36; refine HC.out.mono ?_; rintro e w1 ⟨v1, rfl, hO1, hb1⟩; have HO1 := hid hO1; have HB1 := hid hb1; obtain ⟨va, vc, ev, hv1, hv2, hv3⟩ := own_len hO1; subst ev; clear hO1 hb1)
  go_wp2
  go_loopw [12] (fun i wr => ∃ (k : Nat) (R : List Rc), k ≤ G.R.length ∧ i = .int .i64 k ∧ Hid (R.map (fun x => (x.k, x.b)) = G.R.map fun x => (x.k, x.b)) ∧ Hid (wr.ownsRow w.heap.size 41 3 (.slice va G.R.length vc) G.R.length (flatR 0 R)) ∧ Hid (∀ x ∈ R, OwnBy wr 0 x.v x.b) ∧ Hid (Below w.heap.size w wr)) (fun i _ => G.R.length - (intOf i).toNat)
  case atStart => exact ⟨0, G.R, Nat.zero_le _, rfl, rfl, HO1.out, HB0.out _ HB1.out, HB1.out⟩
  case round =>
    obtain ⟨k, R, hk, rfl, HM, HO, HA, HB⟩ := hrel
    have hRl : R.length = G.R.length := by have := congrArg List.length HM.out; simpa using this
    by_cases hlt : k < G.R.length
    · have hkR : k < R.length := by omega
      obtain ⟨hl', ⟨e', hz⟩ | ⟨g', cap', cur, e', hgb, hg, hnc, hcm, hcs, htk⟩⟩ := HO.out
      · injection e' with e1 e2 e3
        omega
      · injection e' with e1 e2 e3
        subst e1 e3
        have cell2 := flatR_at R 0 k 2 hkR (by omega)
        rw [← htk, List.getElem?_take, if_pos (by omega), Array.getElem?_toList] at cell2
        have d2 : wr.cell? ⟨g', k * 3 + 2, none⟩ = some R[k].v := by rw [cell_of_row wr g' _ _ _ _ hg]; exact cell2
        have hx := HA.out _ (List.getElem_mem hkR)
        obtain ⟨xa, xc, ex, hBx, _⟩ := ownBy_shape hx
        have hxb : R[k].b.length ≤ 65536 := by
          have h1 : (R.map fun x => (x.k, x.b))[k]? = some (R[k].k, R[k].b) := by simp [hkR]
          rw [HM.out] at h1
          simp at h1
          obtain ⟨y, hy, _, e2⟩ := h1
          rw [← e2]
          exact HBL.out y (List.mem_of_getElem? hy)
        have HCL := hid (clone_any (cap := xc) hBx rfl (by omega))
        rw [ex] at d2
        have fz : wr.frozen? ⟨g', k * 3 + 2, none⟩ = false := by simp [World.frozen?, hg]
        have HG := hid (And.intro hgb hg)
        have HX := hid ex
        generalize hbk : R[k].b = bk at *
        clear hl' hgb hg hcs htk cell2 hBx ex hx hxb
        go_upto_region 6 with (go_at_call 35; refine HCL.out.mono ?_; rintro e w5 ⟨v5, rfl, hO5, hb5⟩; have d5 := cell_kept hb5 d2; have f5 : w5.frozen? ⟨g', k * 3 + 2, none⟩ = false := (by have h1 := hb5.block g' (Array.getElem?_eq_some_iff.1 HG.out.2).1; rw [HG.out.2] at h1; simp [World.frozen?, h1]); have HO5 := hid hO5; have HB5 := hid hb5; obtain ⟨a5, c5, e5, -⟩ := own_len hO5; subst e5; clear hO5 hb5)
        go_wp2
        go_roundw
        case rel =>
          have hF := (Fr.refl (fun x => x = g') w5).setCell g' (k * 3 + 2) (.slice a5 bk.length c5) (.inl rfl)
          have hg5 : w5.heap[g']? = some (.cells cur 41 (0, 0)) := (HB5.out.block g' (Array.getElem?_eq_some_iff.1 HG.out.2).1).trans HG.out.2
          have hkeep : ∀ (u : Value) (b : List (BitVec 8)), OwnBy w5 0 u b → OwnBy (w5.setCell ⟨g', k * 3 + 2, none⟩ (.slice a5 bk.length c5)) 0 u b := fun u b ho => hF.own ho (fun x e e' => by
            obtain ⟨c', hc'⟩ := own_blk ho e
            subst e'
            exact absurd (cells_type hg5 hc') (by decide))
          refine ⟨k + 1, R.set k { R[k] with v := .slice a5 bk.length c5 }, hlt, by go_num, ?_, ?_, ?_, ?_⟩
          · show _ = _
            rw [List.map_set, ← HM.out]
            exact List.ext_getElem (by simp) (fun i h1 h2 => by
              rw [List.getElem_set]
              split
              · rename_i e; subst e; simp
              · rfl)
          · have := own_set (own_below HO.out HB5.out) (k * 3 + 2) (.slice a5 bk.length c5)
            rw [flatR_set R 0 k hkR] at this
            exact this
          · intro x hx
            rcases List.mem_or_eq_of_mem_set hx with hx | rfl
            · exact hkeep _ _ (own_below (HA.out x hx) HB5.out)
            · exact hkeep (.slice a5 bk.length c5) R[k].b (by rw [hbk]; exact own_less HO5.out (Nat.zero_le _))
          · exact (below_two HB.out HB5.out (Nat.le_refl _)).trans (hF.below (fun x e => by subst e; exact HG.out.1) (Nat.le_trans HB.out.size HB5.out.size))
        case measure => simp [intOf]; omega
    · obtain rfl : k = G.R.length := by omega
      have HZ : Hid (RecV wr w.heap.size (.slice va G.R.length vc) (G.R.map fun x => (x.k, x.b))) := ⟨R, HM.out, by rw [hRl]; exact HO.out, HA.out⟩
      clear HM HO HA HO1 HB0 HBL
      go_wp2
      go_ret
      exact ⟨_, rfl, HZ.out, HB.out⟩
end Go.Proofs.YtfhjiggaacgncaaDoor
