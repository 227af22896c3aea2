import Derived.Test.YtoeldomhkeancaaQu1
namespace Go.Proofs.Ytoeldomhkeancaa
open Go.RowKit Go.Maps
set_option maxRecDepth 100000

section
variable {base i p : Nat} {K : Lk} {w w' : World}
/-- What a Take comes to, in a law. -/
def TakeR2 (base i p : Nat) (K : Lk) (t : Int) (w : World) (e : Ending) (w' : World) : Prop :=
  ∃ K1 K' v xs, e = .returned v ∧ Lw base i p K' w' ∧ Below base w w' ∧ Lm p K w K' w' ∧ GoE K t K1 ∧ K1.Ok ∧ TkI K1 xs K' ∧ (∀ y ∈ K'.Fl, t < y.at_) ∧ w'.ownsRow w.heap.size 55 3 v xs.length (flatI xs) ∧ ∀ x ∈ xs, OwnBy w' 0 x.what (K.D x.num)
theorem Lw.take_any2 (h : Lw base i p K w) (hi : i ≤ 2932031007402) (now : Int) :
    Calls Try.prog 11 #[pt p 0, .int .u64 now] w fun e w' => TakeR2 base i p K (tm K.now now) w e w' := by
  have hfl := h.fl hi
  have c1 := h.cons
  have c2 := h.put
  have c3 := h.l0
  have c4 := h.f0
  have c5 := h.c0
  refine (Go.Proofs.Ytoeldomhkeancaa.take_any h.at_ h.ok now hfl c5 (by omega)).mono fun e w' hp => ?_
  obtain ⟨K1, K', v, xs, he, hG, hL, hT, hy, hO, hB⟩ := hp
  have hb := tm_bd h.ok now
  have hk1 := hG.ok h.ok hb.1 hb.2
  obtain ⟨hft, hbl⟩ := hL.ge h.foot h.bw
  have e0 : K1.put = K.put ∧ K1.lost = K.lost ∧ K1.full = K.full ∧ K1.come = K.come ∧ K1.Fl = K.Fl := by
    have := hG.eq
    generalize K1.S = q1 at this
    generalize K1.sv = q2 at this
    generalize K1.wait = q3 at this
    rw [this]
    exact ⟨rfl, rfl, rfl, rfl, rfl⟩
  obtain ⟨g1, g2, g3, g4, g5⟩ := e0
  have f0 : K'.put = K1.put ∧ K'.lost = K1.lost ∧ K'.full = K1.full ∧ K'.come = K1.come + xs.length := by
    have := hT.eq
    generalize K'.Fl = q1 at this
    generalize K'.fv = q2 at this
    rw [this]
    exact ⟨rfl, rfl, rfl, rfl⟩
  obtain ⟨f1, f2, f3, f4⟩ := f0
  have hpm := hT.perm
  rw [g5] at hpm
  have hlen := hpm.length_eq
  simp at hlen
  refine ⟨K1, K', v, xs, he, ⟨hL.at_, hT.ok hk1, hft, Nat.le_trans h.bw hL.fr.size, by omega, by omega, by omega, by omega, by omega, ?_, ?_⟩, hbl, hL, hG, hk1, hT, hy, hO, hB⟩
  · intro x hx
    have := h.nums x (hpm.mem_iff.1 (List.mem_append_right _ hx))
    omega
  · exact (List.pairwise_append.1 (nd_perm h.nd hpm.symm)).2.1
end

section
variable {base i p q : Nat} {K M : Lk} {v : Value} {xs : List (It Value)} {t : Int} {w w' : World}
/-- Take on the first link: what was handed out, and what it is behind the early ones. -/
theorem Qm.take_step {e : Ending} (h : Qm base i p q K M v xs t w) (hi : i ≤ 2932031007402) (hT : TakeR2 base i p K t w e w') :
    ∃ K' u ys, e = .returned u ∧ w'.ownsRow w.heap.size 55 3 u ys.length (flatI ys) ∧ w'.ownsRow base 55 3 v xs.length (flatI xs) ∧ Below base w w' ∧ (∀ y ∈ ys, y.what.oneCell' = true) ∧ xs.length + ys.length ≤ 2932031007402 ∧
      ∀ w'' v', Below w'.heap.size w' w'' ∨ Fr (fun k => v.ownBlock = some k) w' w'' → w''.ownsRow base 55 3 v' (xs ++ ys).length (flatI (xs ++ ys)) → Qm base i p q K' M v' (xs ++ ys) t w'' := by
  obtain ⟨K1, K', u, ys, he, hl, hbl, hL, hG, hk1, hTk, hy, hO, hB⟩ := hT
  have hm' := h.m.other h.l.at_ hL h.ap
  have ha := ap_turn h.m.at_ hL h.ap
  have hr := own_lm h.l.at_ hL h.row (by decide) (by decide) (by decide)
  have hq := h.two.take_one hG hTk
  rw [← List.map_append] at hq
  obtain ⟨a1, a2, a3, a4, a5, a6, a7, a8, a9, a10⟩ := hG.fields
  have f1 : K'.put = K1.put ∧ K'.D = K1.D := by
    have f := hTk.eq
    generalize K'.Fl = q1 at f
    generalize K'.fv = q2 at f
    rw [f]
    exact ⟨rfl, rfl⟩
  have hb : ∀ x ∈ xs ++ ys, x.num < K'.put ∧ OwnBy w' 0 x.what (K'.D x.num) := fun x hx => by
    rw [f1.1, f1.2, a6, a9]
    rcases List.mem_append.1 hx with hx | hx
    · obtain ⟨b1, b2⟩ := h.by_ x hx
      exact ⟨b1, own_lm h.l.at_ hL b2 (by decide) (by decide) (by decide)⟩
    · have hx1 : x ∈ K.Fl := a10 ▸ hTk.perm.mem_iff.1 (List.mem_append_left _ hx)
      exact ⟨(h.l.nums x hx1).2, hB x hx⟩
  have hone : ∀ y ∈ ys, y.what.oneCell' = true := fun y hy => by
    obtain ⟨a, c, e, -⟩ := ownBy_shape (hB y hy)
    rw [e]; rfl
  have hlen : xs.length + ys.length ≤ 2932031007402 := by
    have l1 := h.two.fl.length_eq
    have l2 := h.m.fl hi
    have l3 := hTk.perm.length_eq
    rw [a10] at l3
    simp at l1 l3
    omega
  refine ⟨K', u, ys, he, hO, hr, hbl, hone, hlen, fun w'' v' hw hrow => ?_⟩
  have hF : Fr (fun k => v.ownBlock = some k) w' w'' := by
    rcases hw with hw | hw
    · exact Fr.of_below hw (Nat.le_refl _)
    · exact hw
  have ky : ∀ {P : Nat} {G : Lk}, LkAt w' P G → LkAt w'' P G := fun {P G} hA => hA.kept hF (fun k hk e => by
    rcases hk with (rfl | e2 | e2) | e2 | e2 | ⟨x, hx, e2⟩
    · exact own_row hr hA.row (by decide) e
    · exact own_two hr hA.hs.own (by decide) e e2
    · exact own_two hr hA.hf.own (by decide) e e2
    · exact own_two hr hA.lo (by decide) e e2
    · exact own_two hr hA.ji (by decide) e e2
    · exact own_two hr (hA.by_ x hx) (by decide) e e2)
  exact ⟨⟨ky hl.at_, hl.ok, hl.foot, Nat.le_trans hl.bw hF.size, hl.put, hl.l0, hl.f0, hl.c0, hl.cons, hl.nums, hl.nd⟩,
    ⟨ky hm'.at_, hm'.ok, hm'.foot, Nat.le_trans hm'.bw hF.size, hm'.put, hm'.l0, hm'.f0, hm'.c0, hm'.cons, hm'.nums, hm'.nd⟩, ha, hq, hrow,
    fun x hx => ⟨(hb x hx).1, hF.own (hb x hx).2 (fun g e e2 => own_two hr (hb x hx).2 (by decide) e2 e)⟩⟩
/-- Behind the last Take on the first link. -/
structure Lst (base i q : Nat) (M : Lk) (T : Int) (v : Value) (zs : List (It Value)) (w : World) : Prop where
  m : Lw base i q M w
  row : w.ownsRow base 55 3 v zs.length (flatI zs)
  by_ : ∀ x ∈ zs, OwnBy w 0 x.what (M.D x.num)
  fin : ∀ M1 M' ys, GoE M T M1 → TkI M1 ys M' → (∀ y ∈ M'.Fl, T < y.at_) → (zs.map It.key).Perm (ys.map It.key)
theorem Qm.last_step {T : Int} {e : Ending} (h : Qm base i p q K M v xs t w) (hi : i ≤ 2932031007402) (ht : t ≤ T) (hT : TakeR2 base i p K T w e w') :
    ∃ u ys, e = .returned u ∧ w'.ownsRow w.heap.size 55 3 u ys.length (flatI ys) ∧ w'.ownsRow base 55 3 v xs.length (flatI xs) ∧ Below base w w' ∧ (∀ y ∈ ys, y.what.oneCell' = true) ∧ xs.length + ys.length ≤ 2932031007402 ∧
      ∀ w'' v', Fr (fun k => v.ownBlock = some k) w' w'' → w''.ownsRow base 55 3 v' (xs ++ ys).length (flatI (xs ++ ys)) → Lst base i q M T v' (xs ++ ys) w'' := by
  obtain ⟨K1, K', u, ys, he, hl, hbl, hL, hG, hk1, hTk, hy, hO, hB⟩ := hT
  have hm' := h.m.other h.l.at_ hL h.ap
  have hr := own_lm h.l.at_ hL h.row (by decide) (by decide) (by decide)
  obtain ⟨a1, a2, a3, a4, a5, a6, a7, a8, a9, a10⟩ := hG.fields
  have hb : ∀ x ∈ xs ++ ys, OwnBy w' 0 x.what (M.D x.num) := fun x hx => by
    rw [← h.two.D]
    rcases List.mem_append.1 hx with hx | hx
    · exact own_lm h.l.at_ hL (h.by_ x hx).2 (by decide) (by decide) (by decide)
    · exact hB x hx
  have hone : ∀ y ∈ ys, y.what.oneCell' = true := fun y hy => by
    obtain ⟨a, c, e, -⟩ := ownBy_shape (hB y hy)
    rw [e]; rfl
  have hlen : xs.length + ys.length ≤ 2932031007402 := by
    have l1 := h.two.fl.length_eq
    have l2 := h.m.fl hi
    have l3 := hTk.perm.length_eq
    rw [a10] at l3
    simp at l1 l3
    omega
  refine ⟨u, ys, he, hO, hr, hbl, hone, hlen, fun w'' v' hF hrow => ⟨?_, hrow, fun x hx => hF.own (hb x hx) (fun g e e2 => own_two hr (hb x hx) (by decide) e2 e), fun M1 M' zs g1 g2 g3 => ?_⟩⟩
  · have ky : LkAt w'' q M := hm'.at_.kept hF (fun k hk e => by
      rcases hk with (rfl | e2 | e2) | e2 | e2 | ⟨x, hx, e2⟩
      · exact own_row hr hm'.at_.row (by decide) e
      · exact own_two hr hm'.at_.hs.own (by decide) e e2
      · exact own_two hr hm'.at_.hf.own (by decide) e e2
      · exact own_two hr hm'.at_.lo (by decide) e e2
      · exact own_two hr hm'.at_.ji (by decide) e e2
      · exact own_two hr (hm'.at_.by_ x hx) (by decide) e e2)
    exact ⟨ky, hm'.ok, hm'.foot, Nat.le_trans hm'.bw hF.size, hm'.put, hm'.l0, hm'.f0, hm'.c0, hm'.cons, hm'.nums, hm'.nd⟩
  · rw [List.map_append]
    exact (h.two.last ht hG g1 hTk g2 hy g3).1
/-- The last Take on the second. -/
theorem Lst.both {T : Int} {zs : List (It Value)} {e : Ending} (h : Lst base i q M T v zs w) (hT : TakeR2 base i q M T w e w') :
    ∃ u ys, e = .returned u ∧ Below base w w' ∧ w'.ownsRow w.heap.size 55 3 u ys.length (flatI ys) ∧ w'.ownsRow base 55 3 v zs.length (flatI zs) ∧ (∀ x ∈ zs, OwnBy w' 0 x.what (M.D x.num)) ∧ (∀ y ∈ ys, OwnBy w' 0 y.what (M.D y.num)) ∧ (zs.map It.key).Perm (ys.map It.key) := by
  obtain ⟨K1, K', u, ys, he, hl, hbl, hL, hG, hk1, hTk, hy, hO, hB⟩ := hT
  exact ⟨u, ys, he, hbl, hO, own_lm h.m.at_ hL h.row (by decide) (by decide) (by decide), fun x hx => own_lm h.m.at_ hL (h.by_ x hx) (by decide) (by decide) (by decide), hB, h.fin _ _ _ hG hTk hy⟩
end
end Go.Proofs.Ytoeldomhkeancaa
