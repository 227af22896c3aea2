import Derived.Test.YtoeldomhkeancaaFi0
namespace Go.Proofs.Ytoeldomhkeancaa
open Go.RowKit Go.Maps
set_option maxRecDepth 100000

/-- A link in a law: all that it turns is new, and its counts add up. -/
structure Lw (base i p : Nat) (K : Lk) (w : World) : Prop where
  at_ : LkAt w p K
  ok : K.Ok
  foot : ∀ k, Foot p K k → base ≤ k
  bw : base ≤ w.heap.size
  put : K.put ≤ i
  l0 : 0 ≤ K.lost
  f0 : 0 ≤ K.full
  c0 : 0 ≤ K.come
  cons : K.put = K.lost + K.full + K.come + K.Fl.length
  nums : ∀ x ∈ K.Fl, 0 ≤ x.num ∧ x.num < K.put
  nd : K.Fl.Pairwise (fun a b => a.num ≠ b.num)
theorem nd_perm {L L' : List (It Value)} (h : L.Pairwise (fun a b => a.num ≠ b.num)) (hp : L.Perm L') : L'.Pairwise (fun a b => a.num ≠ b.num) := List.Pairwise.perm h hp (fun h e => h e.symm)
section
variable {base i p : Nat} {K : Lk} {w w' : World}
theorem Lw.below (h : Lw base i p K w) (hb : Below w.heap.size w w') : Lw base i p K w' :=
  ⟨h.at_.below hb, h.ok, h.foot, Nat.le_trans h.bw hb.size, h.put, h.l0, h.f0, h.c0, h.cons, h.nums, h.nd⟩
theorem Lw.fl (h : Lw base i p K w) (hi : i ≤ 2932031007402) : K.Fl.length ≤ 2932031007402 := by
  have h1 := h.cons
  have h2 := h.put
  have h3 := h.l0
  have h4 := h.f0
  have h5 := h.c0
  omega
theorem Lw.fresh {r d q : Int} {loss : List Bool} {jit : List Int} {lv jv : Value} (h : LkAt w p (Lk.fresh r d q loss jit lv jv)) (hf : fitE r d q loss.length jit = 0) (hp : base ≤ p) (hb : base ≤ w.heap.size) : Lw base 0 p (Lk.fresh r d q loss jit lv jv) w :=
  ⟨h, fresh_ok hf, fun k hk => by
    rcases hk with rfl | e | e
    · exact hp
    · exact absurd e (by simp [Lk.fresh, Value.ownBlock])
    · exact absurd e (by simp [Lk.fresh, Value.ownBlock]), hb, Int.le_refl _, Int.le_refl _, Int.le_refl _, Int.le_refl _, rfl, fun x hx => absurd hx List.not_mem_nil, List.Pairwise.nil⟩
/-- What a Put comes to, in a law. -/
def PutR (base i p : Nat) (K : Lk) (t : Int) (bs : List (BitVec 8)) (w : World) (e : Ending) (w' : World) : Prop :=
  ∃ K1 K', Lw base (i + 1) p K' w' ∧ Below base w w' ∧ Lm p K w K' w' ∧ GoE K t K1 ∧ K1.Ok ∧ K'.put = K.put + 1 ∧
    ((e = .returned (.bool false) ∧ lossE K K.put = true ∧ K' = { K1 with put := K.put + 1, lost := K.lost + 1 }) ∨
     (e = .returned (.bool false) ∧ lossE K K.put = false ∧ K.queue < K1.wait + bs.length ∧ K' = { K1 with put := K.put + 1, full := K.full + 1 }) ∨
     (e = .returned (.bool true) ∧ lossE K K.put = false ∧ K1.wait + bs.length ≤ K.queue ∧ SendE { K1 with put := K.put + 1 } K.put bs K'))
theorem Lw.put_any (h : Lw base i p K w) (hi : i ≤ 2932031007402) (now : Int) {a : Option Addr} {n cap : Nat} {bs : List (BitVec 8)} (hB : BytesAt w a bs) (hn : bs.length = n) (hn1 : n ≤ 140737488355328) (hgs : ∀ ad, a = some ad → bs ≠ [] → ad.block < base) :
    Calls Try.prog 9 #[pt p 0, .int .u64 now, .slice a n cap] w fun e w' => PutR base i p K (tm K.now now) bs w e w' := by
  have hfl := h.fl hi
  have c1 := h.cons
  have c2 := h.put
  have c3 := h.l0
  have c4 := h.f0
  have c5 := h.c0
  have p0 : 0 ≤ K.put := by omega
  refine (Go.Proofs.Ytoeldomhkeancaa.put_any h.at_ h.ok now p0 (by omega) c3 (by omega) c4 (by omega) hB hn hn1 hfl (fun y hy e => by have := (h.nums y hy).2; omega) (fun ad e hne => ⟨Nat.lt_of_lt_of_le (hgs ad e hne) h.bw, fun hf => by have := h.foot _ hf; have := hgs ad e hne; omega⟩)).mono fun e w' hp => ?_
  obtain ⟨K', hok, hL, K1, hk1, hG, hc⟩ := PutP.ok hp h.ok
  obtain ⟨hft, hbl⟩ := hL.ge h.foot h.bw
  have e0 : K1.put = K.put ∧ K1.lost = K.lost ∧ K1.full = K.full ∧ K1.come = K.come ∧ K1.Fl = K.Fl := by
    have := hG.eq
    generalize K1.S = q1 at this
    generalize K1.sv = q2 at this
    generalize K1.wait = q3 at this
    rw [this]
    exact ⟨rfl, rfl, rfl, rfl, rfl⟩
  obtain ⟨g1, g2, g3, g4, g5⟩ := e0
  have hbs : base ≤ w'.heap.size := Nat.le_trans h.bw hL.fr.size
  rcases hc with ⟨h1, h2, h3⟩ | ⟨h1, h2, h3, h4⟩ | ⟨h1, h2, h3, h4⟩
  · refine ⟨K1, K', ⟨hL.at_, hok, hft, hbs, ?_, ?_, ?_, ?_, ?_, ?_, ?_⟩, hbl, hL, hG, hk1, by rw [h3], .inl ⟨h1, h2, h3⟩⟩
    · rw [h3]; show K.put + 1 ≤ _; omega
    · rw [h3]; show 0 ≤ K.lost + 1; omega
    · rw [h3]; show 0 ≤ K1.full; omega
    · rw [h3]; show 0 ≤ K1.come; omega
    · rw [h3]; show K.put + 1 = K.lost + 1 + K1.full + K1.come + K1.Fl.length; rw [g3, g4, g5]; omega
    · rw [h3]
      intro x hx
      have := h.nums x (g5 ▸ hx)
      exact ⟨this.1, show x.num < K.put + 1 by omega⟩
    · rw [h3]; show K1.Fl.Pairwise _; rw [g5]; exact h.nd
  · refine ⟨K1, K', ⟨hL.at_, hok, hft, hbs, ?_, ?_, ?_, ?_, ?_, ?_, ?_⟩, hbl, hL, hG, hk1, by rw [h4], .inr (.inl ⟨h1, h2, h3, h4⟩)⟩
    · rw [h4]; show K.put + 1 ≤ _; omega
    · rw [h4]; show 0 ≤ K1.lost; omega
    · rw [h4]; show 0 ≤ K.full + 1; omega
    · rw [h4]; show 0 ≤ K1.come; omega
    · rw [h4]; show K.put + 1 = K1.lost + (K.full + 1) + K1.come + K1.Fl.length; rw [g2, g4, g5]; omega
    · rw [h4]
      intro x hx
      have := h.nums x (g5 ▸ hx)
      exact ⟨this.1, show x.num < K.put + 1 by omega⟩
    · rw [h4]; show K1.Fl.Pairwise _; rw [g5]; exact h.nd
  · have f := h4.eq
    obtain ⟨v, hF⟩ := h4.Fl
    have hF' : K'.Fl.Perm (K.Fl ++ [⟨overE { K1 with put := K.put + 1 } bs.length + K1.delay + jitE { K1 with put := K.put + 1 } K.put, K.put, v⟩]) := g5 ▸ hF
    have e1 : K'.put = K.put + 1 := by rw [f]
    have e2 : K'.lost = K.lost := by rw [f]; exact g2
    have e3 : K'.full = K.full := by rw [f]; exact g3
    have e4 : K'.come = K.come := by rw [f]; exact g4
    have e5 : K'.Fl.length = K.Fl.length + 1 := by rw [hF'.length_eq]; simp
    refine ⟨K1, K', ⟨hL.at_, hok, hft, hbs, by omega, by omega, by omega, by omega, by omega, ?_, ?_⟩, hbl, hL, hG, hk1, e1, .inr (.inr ⟨h1, h2, h3, h4⟩)⟩
    · intro x hx
      rcases List.mem_append.1 (hF'.mem_iff.1 hx) with hm | hm
      · have := h.nums x hm; omega
      · simp at hm
        subst hm
        exact ⟨p0, by show K.put < _; omega⟩
    · refine nd_perm ?_ hF'.symm
      refine List.pairwise_append.2 ⟨h.nd, by simp, fun x hx y hy e => ?_⟩
      simp at hy
      subst hy
      have h1 := (h.nums x hx).2
      have h2 : x.num = K.put := e
      omega
/-- What a Take comes to, in a law. -/
def TakeR (base i p : Nat) (K : Lk) (t : Int) (w : World) (e : Ending) (w' : World) : Prop :=
  ∃ K1 K' v xs, e = .returned v ∧ Lw base i p K' w' ∧ Below base w w' ∧ GoE K t K1 ∧ K1.Ok ∧ TkI K1 xs K' ∧ (∀ y ∈ K'.Fl, t < y.at_) ∧ w'.ownsRow w.heap.size 55 3 v xs.length (flatI xs) ∧ ∀ x ∈ xs, OwnBy w' 0 x.what (K.D x.num)
theorem Lw.take_any (h : Lw base i p K w) (hi : i ≤ 2932031007402) (now : Int) :
    Calls Try.prog 11 #[pt p 0, .int .u64 now] w fun e w' => TakeR base i p K (tm K.now now) w e w' := by
  have hfl := h.fl hi
  have c1 := h.cons
  have c2 := h.put
  have c3 := h.l0
  have c4 := h.f0
  have c5 := h.c0
  refine (Go.Proofs.Ytoeldomhkeancaa.take_any h.at_ h.ok now hfl c5 (by omega)).mono fun e w' hp => ?_
  obtain ⟨K1, K', v, xs, he, hG, hL, hT, hy, hO, hB⟩ := hp
  have hb := tm_bd h.ok now
  have hk1 := hG.ok h.ok hb.1 hb.2
  obtain ⟨hft, hbl⟩ := hL.ge h.foot h.bw
  have e0 : K1.put = K.put ∧ K1.lost = K.lost ∧ K1.full = K.full ∧ K1.come = K.come ∧ K1.Fl = K.Fl := by
    have := hG.eq
    generalize K1.S = q1 at this
    generalize K1.sv = q2 at this
    generalize K1.wait = q3 at this
    rw [this]
    exact ⟨rfl, rfl, rfl, rfl, rfl⟩
  obtain ⟨g1, g2, g3, g4, g5⟩ := e0
  have f0 : K'.put = K1.put ∧ K'.lost = K1.lost ∧ K'.full = K1.full ∧ K'.come = K1.come + xs.length := by
    have := hT.eq
    generalize K'.Fl = q1 at this
    generalize K'.fv = q2 at this
    rw [this]
    exact ⟨rfl, rfl, rfl, rfl⟩
  obtain ⟨f1, f2, f3, f4⟩ := f0
  have hpm := hT.perm
  rw [g5] at hpm
  have hlen := hpm.length_eq
  simp at hlen
  refine ⟨K1, K', v, xs, he, ⟨hL.at_, hT.ok hk1, hft, Nat.le_trans h.bw hL.fr.size, by omega, by omega, by omega, by omega, by omega, ?_, ?_⟩, hbl, hG, hk1, hT, hy, hO, hB⟩
  · intro x hx
    have := h.nums x (hpm.mem_iff.1 (List.mem_append_right _ hx))
    omega
  · exact (List.pairwise_append.1 (nd_perm h.nd hpm.symm)).2.1
end
/-- A call of a script. -/
structure Opv where
  kind : Int
  sec : Bool
  now : Int
  fa : Option Addr
  fc : Nat
  bs : List (BitVec 8)
/-- The script, as it came in; no memory of it is above base. -/
def OpsAt (w : World) (base : Nat) (a : Option Addr) (l : List Opv) : Prop := ∀ (k : Nat) o, l[k]? = some o → (∃ g f, a = some ⟨g, f, none⟩ ∧ g < base ∧ w.cell? ⟨g, f + k * 4, none⟩ = some (.int .i64 o.kind) ∧ w.cell? ⟨g, f + k * 4 + 1, none⟩ = some (.bool o.sec) ∧ w.cell? ⟨g, f + k * 4 + 2, none⟩ = some (.int .u64 o.now) ∧ w.cell? ⟨g, f + k * 4 + 3, none⟩ = some (.slice o.fa o.bs.length o.fc)) ∧ BytesAt w o.fa o.bs ∧ o.bs.length ≤ 140737488355328 ∧ (∀ ad, o.fa = some ad → o.bs ≠ [] → ad.block < base)
theorem bytes_below {w w' : World} {base : Nat} {a : Option Addr} {bs : List (BitVec 8)} (h : BytesAt w a bs) (hb : Below base w w') (hg : ∀ ad, a = some ad → bs ≠ [] → ad.block < base) : BytesAt w' a bs := fun k hk => by
  obtain ⟨g, o, e, hc⟩ := h k hk
  exact ⟨g, o, e, (hb.cell (p := ⟨g, o + k, none⟩) (show g < base from hg _ e (fun h => by rw [h] at hk; simp at hk))).trans hc⟩
theorem OpsAt.kept {w w' : World} {base : Nat} {a : Option Addr} {l : List Opv} (h : OpsAt w base a l) (hb : Below base w w') : OpsAt w' base a l := fun k o ho => by
  obtain ⟨⟨g, f, e, hg, c0, c1, c2, c3⟩, hB, hl, hd⟩ := h k o ho
  exact ⟨⟨g, f, e, hg, (hb.cell hg).trans c0, (hb.cell hg).trans c1, (hb.cell hg).trans c2, (hb.cell hg).trans c3⟩, bytes_below hB hb hd, hl, hd⟩
/-- Arrivals that are read. -/
theorem own3 {w : World} {b : Nat} {v : Value} {xs : List (It Value)} (h : w.ownsRow b 55 3 v xs.length (flatI xs)) : ∃ a cap, v = .slice a xs.length cap ∧ ∀ (k : Nat) x, xs[k]? = some x → ∃ g, a = some ⟨g, 0, none⟩ ∧ w.cell? ⟨g, k * 3, none⟩ = some (.int .u64 x.at_) ∧ w.cell? ⟨g, k * 3 + 1, none⟩ = some (.int .u64 x.num) ∧ w.cell? ⟨g, k * 3 + 2, none⟩ = some x.what := by
  obtain ⟨hl, ⟨rfl, hn⟩ | ⟨g, cap, cur, rfl, hb, hg, hnc, hcm, hcs, htk⟩⟩ := h
  · refine ⟨none, 0, by rw [hn], fun k x hx => ?_⟩
    have := (List.getElem?_eq_some_iff.1 hx).1
    omega
  · refine ⟨_, cap, rfl, fun k x hx => ⟨g, rfl, ?_⟩⟩
    have hk := (List.getElem?_eq_some_iff.1 hx).1
    have hc : ∀ (j : Nat) u, (icells x)[j]? = some u → w.cell? ⟨g, k * 3 + j, none⟩ = some u := fun j u hu => by
      have hj := flatI_cell _ hu
      have h1 := flatI_get hx hu
      rw [cell_of_row w g _ _ _ _ hg, ← Array.getElem?_toList, ← h1, ← htk, List.getElem?_take, if_pos (by omega)]
    exact ⟨hc 0 _ rfl, hc 1 _ rfl, hc 2 _ rfl⟩
end Go.Proofs.Ytoeldomhkeancaa
