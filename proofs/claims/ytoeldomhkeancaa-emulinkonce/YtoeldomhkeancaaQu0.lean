import Derived.Test.YtoeldomhkeancaaTu0
namespace Go.Proofs.Ytoeldomhkeancaa
open Go.RowKit Go.Maps
set_option maxRecDepth 100000

theorem lat_perm {t : Int} {L L' : List (It Value)} (h : L.Perm L') : (lat t L).Perm (lat t L') := by
  unfold lat
  exact h.filter _
/-- Two links of one configuration: the first was asked more often; E: what came of it early. -/
structure QuI (K M : Lk) (E : List (Int × Int)) (t : Int) : Prop where
  rate : K.rate = M.rate
  delay : K.delay = M.delay
  queue : K.queue = M.queue
  loss : K.loss = M.loss
  jit : K.jit = M.jit
  put : K.put = M.put
  busy : K.busy = M.busy
  nowK : K.now = t
  nowM : M.now = t
  S : (lat t K.S).Perm (lat t M.S)
  D : K.D = M.D
  fl : (E ++ K.Fl.map It.key).Perm (M.Fl.map It.key)
  early : ∀ e ∈ E, e.1 ≤ t
theorem QuI.loss_eq {K M : Lk} {E : List (Int × Int)} {t : Int} (h : QuI K M E t) : lossE K K.put = lossE M M.put := by
  unfold lossE; rw [h.loss, h.put]
theorem GoE.fields {K K1 : Lk} {t : Int} (h : GoE K t K1) : K1.rate = K.rate ∧ K1.delay = K.delay ∧ K1.queue = K.queue ∧ K1.loss = K.loss ∧ K1.jit = K.jit ∧ K1.put = K.put ∧ K1.busy = K.busy ∧ K1.now = t ∧ K1.D = K.D ∧ K1.Fl = K.Fl := by
  have := h.eq
  generalize K1.S = q1 at this
  generalize K1.sv = q2 at this
  generalize K1.wait = q3 at this
  rw [this]
  exact ⟨rfl, rfl, rfl, rfl, rfl, rfl, rfl, rfl, rfl, rfl⟩
/-- Time goes on for both. -/
theorem QuI.go {K M K1 M1 : Lk} {E : List (Int × Int)} {t t' : Int} (h : QuI K M E t) (ht : t ≤ t') (hK : GoE K t' K1) (hM : GoE M t' M1) : QuI K1 M1 E t' ∧ K1.S.Perm M1.S ∧ K1.wait = M1.wait := by
  obtain ⟨a1, a2, a3, a4, a5, a6, a7, a8, a9, a10⟩ := hK.fields
  obtain ⟨b1, b2, b3, b4, b5, b6, b7, b8, b9, b10⟩ := hM.fields
  have hS : K1.S.Perm M1.S := by
    refine hK.S.trans (.trans ?_ hM.S.symm)
    rw [← lat_lat ht K.S, ← lat_lat ht M.S]
    exact lat_perm h.S
  refine ⟨⟨?_, ?_, ?_, ?_, ?_, ?_, ?_, a8, b8, lat_perm hS, ?_, ?_, fun e he => Int.le_trans (h.early e he) ht⟩, hS, ?_⟩
  · rw [a1, b1]; exact h.rate
  · rw [a2, b2]; exact h.delay
  · rw [a3, b3]; exact h.queue
  · rw [a4, b4]; exact h.loss
  · rw [a5, b5]; exact h.jit
  · rw [a6, b6]; exact h.put
  · rw [a7, b7]; exact h.busy
  · rw [a9, b9]; exact h.D
  · rw [a10, b10]; exact h.fl
  · rw [hK.wait, hM.wait]; exact sumW_perm hS
/-- Time goes on for the first alone, to where it stands. -/
theorem QuI.goK {K M K1 : Lk} {E : List (Int × Int)} {t : Int} (h : QuI K M E t) (hK : GoE K t K1) : QuI K1 M E t := by
  obtain ⟨a1, a2, a3, a4, a5, a6, a7, a8, a9, a10⟩ := hK.fields
  refine ⟨a1.trans h.rate, a2.trans h.delay, a3.trans h.queue, a4.trans h.loss, a5.trans h.jit, a6.trans h.put, a7.trans h.busy, a8, h.nowM, ?_, a9.trans h.D, by rw [a10]; exact h.fl, h.early⟩
  refine (lat_perm hK.S).trans ?_
  rw [lat_lat (Int.le_refl _)]
  exact h.S
theorem overE_eq {K M : Lk} (h1 : K.now = M.now) (h2 : K.busy = M.busy) (h3 : K.rate = M.rate) (n : Nat) : overE K n = overE M n := by
  unfold overE; rw [h1, h2, h3]
theorem SendE.fields {K K' : Lk} {num : Int} {bs : List (BitVec 8)} (h : SendE K num bs K') : K'.rate = K.rate ∧ K'.delay = K.delay ∧ K'.queue = K.queue ∧ K'.loss = K.loss ∧ K'.jit = K.jit ∧ K'.put = K.put ∧ K'.busy = overE K bs.length ∧ K'.now = K.now ∧ K'.D = fun k => if k = num then bs else K.D k := by
  have := h.eq
  generalize K'.S = q1 at this
  generalize K'.sv = q2 at this
  generalize K'.wait = q3 at this
  generalize K'.Fl = q4 at this
  generalize K'.fv = q5 at this
  rw [this]
  exact ⟨rfl, rfl, rfl, rfl, rfl, rfl, rfl, rfl, rfl⟩
/-- A Put on both: they answer alike. -/
theorem QuI.put_both {K M K1 M1 K' M' : Lk} {E : List (Int × Int)} {t t' : Int} {bs : List (BitVec 8)} {ok ok' : Bool} (h : QuI K M E t) (ht : t ≤ t') (hK : GoE K t' K1) (hM : GoE M t' M1) (cK : PutQ K K1 K' bs ok) (cM : PutQ M M1 M' bs ok') : ok = ok' ∧ QuI K' M' E t' := by
  obtain ⟨g, hS, hw⟩ := h.go ht hK hM
  have hl := h.loss_eq
  have hq := h.queue
  rcases cK with ⟨rfl, l1, rfl⟩ | ⟨rfl, l1, r1, rfl⟩ | ⟨rfl, l1, r1, s1⟩ <;> rcases cM with ⟨rfl, l2, rfl⟩ | ⟨rfl, l2, r2, rfl⟩ | ⟨rfl, l2, r2, s2⟩
  · exact ⟨rfl, g.rate, g.delay, g.queue, g.loss, g.jit, by show K.put + 1 = M.put + 1; rw [h.put], g.busy, g.nowK, g.nowM, g.S, g.D, g.fl, g.early⟩
  · rw [hl, l2] at l1; cases l1
  · rw [hl, l2] at l1; cases l1
  · rw [hl, l2] at l1; cases l1
  · exact ⟨rfl, g.rate, g.delay, g.queue, g.loss, g.jit, by show K.put + 1 = M.put + 1; rw [h.put], g.busy, g.nowK, g.nowM, g.S, g.D, g.fl, g.early⟩
  · omega
  · rw [hl, l2] at l1; cases l1
  · omega
  · obtain ⟨a1, a2, a3, a4, a5, a6, a7, a8, a9⟩ := s1.fields
    obtain ⟨b1, b2, b3, b4, b5, b6, b7, b8, b9⟩ := s2.fields
    have eo : overE { K1 with put := K.put + 1 } bs.length = overE { M1 with put := M.put + 1 } bs.length := overE_eq (g.nowK.trans g.nowM.symm) g.busy g.rate _
    have ej : jitE { K1 with put := K.put + 1 } K.put = jitE { M1 with put := M.put + 1 } M.put := by
      unfold jitE
      rw [show ({ K1 with put := K.put + 1 } : Lk).jit = ({ M1 with put := M.put + 1 } : Lk).jit from g.jit, h.put]
    have ed : ({ K1 with put := K.put + 1 } : Lk).delay = ({ M1 with put := M.put + 1 } : Lk).delay := g.delay
    obtain ⟨v1, f1⟩ := s1.Fl
    obtain ⟨v2, f2⟩ := s2.Fl
    have hWt : Waits { K1 with put := K.put + 1 } bs.length ↔ Waits { M1 with put := M.put + 1 } bs.length := by
      unfold Waits
      rw [eo, show ({ K1 with put := K.put + 1 } : Lk).now = ({ M1 with put := M.put + 1 } : Lk).now from g.nowK.trans g.nowM.symm]
    have hS' : K'.S.Perm M'.S := by
      refine s1.S.trans (.trans ?_ s2.S.symm)
      refine List.Perm.append hS ?_
      by_cases hw2 : Waits { M1 with put := M.put + 1 } bs.length
      · rw [if_pos (hWt.2 hw2), if_pos hw2, eo, h.put]
      · rw [if_neg (fun e => hw2 (hWt.1 e)), if_neg hw2]
    refine ⟨rfl, ?_, ?_, ?_, ?_, ?_, ?_, ?_, a8.trans g.nowK, b8.trans g.nowM, lat_perm hS', ?_, ?_, g.early⟩
    · rw [a1, b1]; exact g.rate
    · rw [a2, b2]; exact g.delay
    · rw [a3, b3]; exact g.queue
    · rw [a4, b4]; exact g.loss
    · rw [a5, b5]; exact g.jit
    · rw [a6, b6]; show K.put + 1 = M.put + 1; rw [h.put]
    · rw [a7, b7]; exact eo
    · rw [a9, b9, h.put, show ({ K1 with put := K.put + 1 } : Lk).D = ({ M1 with put := M.put + 1 } : Lk).D from g.D]
    · refine (List.Perm.append_left _ (f1.map _)).trans (.trans ?_ (f2.map _).symm)
      rw [List.map_append, List.map_append, ← List.append_assoc]
      refine List.Perm.append g.fl ?_
      simp only [List.map_cons, List.map_nil, It.key]
      rw [eo, ej, ed, h.put]
/-- A Take on the first. -/
theorem QuI.take_one {K M K1 K' : Lk} {E : List (Int × Int)} {t : Int} {xs : List (It Value)} (h : QuI K M E t) (hK : GoE K t K1) (hT : TkI K1 xs K') : QuI K' M (E ++ xs.map It.key) t := by
  have g := h.goK hK
  have f := hT.eq
  have f1 : K'.rate = K1.rate ∧ K'.delay = K1.delay ∧ K'.queue = K1.queue ∧ K'.loss = K1.loss ∧ K'.jit = K1.jit ∧ K'.put = K1.put ∧ K'.busy = K1.busy ∧ K'.now = K1.now ∧ K'.S = K1.S ∧ K'.D = K1.D := by
    generalize K'.Fl = q1 at f
    generalize K'.fv = q2 at f
    rw [f]
    exact ⟨rfl, rfl, rfl, rfl, rfl, rfl, rfl, rfl, rfl, rfl⟩
  obtain ⟨a1, a2, a3, a4, a5, a6, a7, a8, a9, a10⟩ := f1
  refine ⟨a1.trans g.rate, a2.trans g.delay, a3.trans g.queue, a4.trans g.loss, a5.trans g.jit, a6.trans g.put, a7.trans g.busy, a8.trans g.nowK, g.nowM, by rw [a9]; exact g.S, a10.trans g.D, ?_, fun e he => ?_⟩
  · refine .trans ?_ g.fl
    rw [List.append_assoc, ← List.map_append]
    exact List.Perm.append_left _ (hT.perm.map _)
  · rcases List.mem_append.1 he with he | he
    · exact g.early e he
    · obtain ⟨x, hx, rfl⟩ := List.mem_map.1 he
      have := hT.le x hx
      have h2 := g.nowK
      show x.at_ ≤ t
      omega
/-- The last Take on both: what came is the same. -/
theorem QuI.last {K M K1 M1 K' M' : Lk} {E : List (Int × Int)} {t T : Int} {xs ys : List (It Value)} (h : QuI K M E t) (ht : t ≤ T) (hK : GoE K T K1) (hM : GoE M T M1) (hT : TkI K1 xs K') (hU : TkI M1 ys M') (k1 : ∀ y ∈ K'.Fl, T < y.at_) (m1 : ∀ y ∈ M'.Fl, T < y.at_) : (E ++ xs.map It.key).Perm (ys.map It.key) ∧ ∀ k, K1.D k = M1.D k := by
  obtain ⟨g, -, -⟩ := h.go ht hK hM
  refine ⟨?_, fun k => by rw [g.D]⟩
  have p1 : (E ++ (xs.map It.key ++ K'.Fl.map It.key)).Perm (ys.map It.key ++ M'.Fl.map It.key) := by
    refine .trans ?_ (g.fl.trans ?_)
    · rw [← List.map_append]; exact List.Perm.append_left _ (hT.perm.map _)
    · rw [← List.map_append]; exact (hU.perm.map _).symm
  have p2 := p1.filter (fun e : Int × Int => decide (e.1 ≤ T))
  rw [List.filter_append, List.filter_append, List.filter_append] at p2
  have e1 : E.filter (fun e : Int × Int => decide (e.1 ≤ T)) = E := List.filter_eq_self.2 (fun e he => decide_eq_true (g.early e he))
  have e2 : (xs.map It.key).filter (fun e : Int × Int => decide (e.1 ≤ T)) = xs.map It.key := List.filter_eq_self.2 (fun e he => by
    obtain ⟨x, hx, rfl⟩ := List.mem_map.1 he
    have := hT.le x hx
    have h2 := g.nowK
    exact decide_eq_true (show x.at_ ≤ T by omega))
  have e3 : (ys.map It.key).filter (fun e : Int × Int => decide (e.1 ≤ T)) = ys.map It.key := List.filter_eq_self.2 (fun e he => by
    obtain ⟨x, hx, rfl⟩ := List.mem_map.1 he
    have := hU.le x hx
    have h2 := g.nowM
    exact decide_eq_true (show x.at_ ≤ T by omega))
  have e4 : (K'.Fl.map It.key).filter (fun e : Int × Int => decide (e.1 ≤ T)) = [] := List.filter_eq_nil_iff.2 (fun e he => by
    obtain ⟨x, hx, rfl⟩ := List.mem_map.1 he
    have := k1 x hx
    exact fun hd => absurd (of_decide_eq_true (p := x.at_ ≤ T) hd) (by omega))
  have e5 : (M'.Fl.map It.key).filter (fun e : Int × Int => decide (e.1 ≤ T)) = [] := List.filter_eq_nil_iff.2 (fun e he => by
    obtain ⟨x, hx, rfl⟩ := List.mem_map.1 he
    have := m1 x hx
    exact fun hd => absurd (of_decide_eq_true (p := x.at_ ≤ T) hd) (by omega))
  rw [e1, e2, e3, e4, e5, List.append_nil, List.append_nil] at p2
  exact p2
end Go.Proofs.Ytoeldomhkeancaa
