import Derived.Test.YtoeldomhkeancaaRa1
namespace Go.Proofs.Ytoeldomhkeancaa
open Go.RowKit Go.Maps
set_option maxRecDepth 100000

/-- Those that were taken are marked. -/
def setAll (cm : List Bool) (xs : List (It Value)) : List Bool := xs.foldl (fun c x => c.set x.num.toNat true) cm
theorem setAll_snoc (cm : List Bool) (xs : List (It Value)) (x : It Value) : setAll cm (xs ++ [x]) = (setAll cm xs).set x.num.toNat true := by
  unfold setAll; rw [List.foldl_append]; rfl
theorem setAll_len : ∀ (xs : List (It Value)) (cm : List Bool), (setAll cm xs).length = cm.length
  | [], _ => rfl
  | x :: r, cm => by
    have := setAll_len r (cm.set x.num.toNat true)
    rw [List.length_set] at this
    exact this
theorem setAll_get : ∀ (xs : List (It Value)) (cm : List Bool) (k : Nat), (∀ y ∈ xs, y.num.toNat ≠ k) → (setAll cm xs)[k]? = cm[k]?
  | [], _, _, _ => rfl
  | x :: r, cm, k, h => by
    have := setAll_get r (cm.set x.num.toNat true) k (fun y hy => h y (List.mem_cons_of_mem _ hy))
    rw [List.getElem?_set_ne (h x List.mem_cons_self)] at this
    exact this
/-- What stands of the notes of a link's Puts, and of the marks of what came. -/
structure OnI (w : World) (base : Nat) (K : Lk) (ns : List Nt) (cm : List Bool) : Prop where
  len : K.put = (ns.length : Int)
  cml : cm.length = ns.length
  fl : ∀ x ∈ K.Fl, 0 ≤ x.num ∧ cm[x.num.toNat]? = some false ∧ ∃ y, ns[x.num.toNat]? = some y ∧ y.ok = true ∧ y.n = (K.D x.num).length ∧ BytesAt w y.fa (K.D x.num) ∧ ∀ ad, y.fa = some ad → K.D x.num ≠ [] → ad.block < base
theorem OnI.kept {w w' : World} {base : Nat} {K : Lk} {ns : List Nt} {cm : List Bool} (h : OnI w base K ns cm) (hb : Below base w w') : OnI w' base K ns cm :=
  ⟨h.len, h.cml, fun x hx => by
    obtain ⟨a, c, y, e1, e2, e3, e4, e5⟩ := h.fl x hx
    exact ⟨a, c, y, e1, e2, e3, bytes_below e4 hb e5, e5⟩⟩
/-- What a Put turns of the counts. -/
theorem put_counts {K K1 K' : Lk} {t : Int} {bs : List (BitVec 8)} {ok : Bool} (hG : GoE K t K1) (hc : PutQ K K1 K' bs ok) : K'.lost + K'.full = K.lost + K.full + (if ok then 0 else 1) ∧ K'.come = K.come ∧ K'.queue = K.queue ∧ K'.lv = K.lv := by
  have e0 : K1.lost = K.lost ∧ K1.full = K.full ∧ K1.come = K.come ∧ K1.queue = K.queue ∧ K1.lv = K.lv := by
    have := hG.eq
    generalize K1.S = q1 at this
    generalize K1.sv = q2 at this
    generalize K1.wait = q3 at this
    rw [this]
    exact ⟨rfl, rfl, rfl, rfl, rfl⟩
  obtain ⟨a1, a2, a3, a4, a5⟩ := e0
  rcases hc with ⟨rfl, _, rfl⟩ | ⟨rfl, _, _, rfl⟩ | ⟨rfl, _, _, s⟩
  · refine ⟨?_, a3, a4, a5⟩
    show K.lost + 1 + K1.full = K.lost + K.full + 1
    omega
  · refine ⟨?_, a3, a4, a5⟩
    show K1.lost + (K.full + 1) = K.lost + K.full + 1
    omega
  · have f := s.eq
    have g : K'.lost = K1.lost ∧ K'.full = K1.full ∧ K'.come = K1.come ∧ K'.queue = K1.queue ∧ K'.lv = K1.lv := by
      generalize K'.S = q1 at f
      generalize K'.sv = q2 at f
      generalize K'.wait = q3 at f
      generalize K'.Fl = q4 at f
      generalize K'.fv = q5 at f
      rw [f]
      exact ⟨rfl, rfl, rfl, rfl, rfl⟩
    refine ⟨?_, g.2.2.1.trans a3, g.2.2.2.1.trans a4, g.2.2.2.2.trans a5⟩
    show K'.lost + K'.full = K.lost + K.full + 0
    omega
theorem OnI.put {w : World} {base : Nat} {K K1 K' : Lk} {ns : List Nt} {cm : List Bool} {t : Int} {bs : List (BitVec 8)} {ok : Bool} (h : OnI w base K ns cm) (hn : ∀ x ∈ K.Fl, x.num < K.put) (hG : GoE K t K1) (hc : PutQ K K1 K' bs ok) {fa : Option Addr} (fc : Nat) (hB : BytesAt w fa bs) (hd : ∀ ad, fa = some ad → bs ≠ [] → ad.block < base) :
    OnI w base K' (ns ++ [⟨0, fa, fc, bs.length, ok⟩]) (cm ++ [false]) := by
  obtain ⟨a1, a2, a3, a4, a5, a6, a7, a8, a9, a10⟩ := hG.fields
  have hlen := h.len
  have hcml := h.cml
  have hpd := putq_D hG hc
  have hold : ∀ x ∈ K.Fl, 0 ≤ x.num ∧ (cm ++ [false])[x.num.toNat]? = some false ∧ ∃ y, (ns ++ [(⟨0, fa, fc, bs.length, ok⟩ : Nt)])[x.num.toNat]? = some y ∧ y.ok = true ∧ y.n = (K'.D x.num).length ∧ BytesAt w y.fa (K'.D x.num) ∧ ∀ ad, y.fa = some ad → K'.D x.num ≠ [] → ad.block < base := fun x hx => by
    obtain ⟨e0, ec, y, e1, e2, e3, e4, e5⟩ := h.fl x hx
    rw [hpd.2 _ (hn x hx)]
    refine ⟨e0, ?_, y, ?_, e2, e3, e4, e5⟩
    · rw [List.getElem?_append_left (List.getElem?_eq_some_iff.1 ec).1]; exact ec
    · rw [List.getElem?_append_left (List.getElem?_eq_some_iff.1 e1).1]; exact e1
  refine ⟨by rw [hpd.1]; simp; omega, by simp; omega, ?_⟩
  rcases hc with ⟨rfl, _, rfl⟩ | ⟨rfl, _, _, rfl⟩ | ⟨rfl, _, _, s⟩
  · intro x hx
    exact hold x (a10 ▸ hx)
  · intro x hx
    exact hold x (a10 ▸ hx)
  · intro x hx
    obtain ⟨v, hF⟩ := s.Fl
    rcases List.mem_append.1 (hF.mem_iff.1 hx) with h1 | h1
    · exact hold x (a10 ▸ h1)
    · have hx2 : x = ⟨overE { K1 with put := K.put + 1 } bs.length + K1.delay + jitE { K1 with put := K.put + 1 } K.put, K.put, v⟩ := by simpa using h1
      have hnum : x.num = K.put := by rw [hx2]
      have hD : K'.D x.num = bs := by
        obtain ⟨b1, b2, b3, b4, b5, b6, b7, b8, b9⟩ := s.fields
        rw [b9, hnum]
        simp
      rw [hD, hnum]
      refine ⟨by omega, ?_, ⟨0, fa, fc, bs.length, true⟩, ?_, rfl, rfl, hB, hd⟩
      · rw [List.getElem?_append_right (by omega), show K.put.toNat - cm.length = 0 by omega]; rfl
      · rw [List.getElem?_append_right (by omega), show K.put.toNat - ns.length = 0 by omega]; rfl
/-- What a Take turns. -/
theorem take_counts {K K1 K' : Lk} {t : Int} {xs : List (It Value)} (hG : GoE K t K1) (hT : TkI K1 xs K') : K'.lost + K'.full = K.lost + K.full ∧ K'.come = K.come + xs.length ∧ K'.queue = K.queue ∧ K'.lv = K.lv ∧ K'.put = K.put ∧ K'.D = K.D ∧ (xs ++ K'.Fl).Perm K.Fl := by
  have e0 : K1.lost = K.lost ∧ K1.full = K.full ∧ K1.come = K.come ∧ K1.queue = K.queue ∧ K1.lv = K.lv ∧ K1.put = K.put ∧ K1.D = K.D ∧ K1.Fl = K.Fl := by
    have := hG.eq
    generalize K1.S = q1 at this
    generalize K1.sv = q2 at this
    generalize K1.wait = q3 at this
    rw [this]
    exact ⟨rfl, rfl, rfl, rfl, rfl, rfl, rfl, rfl⟩
  obtain ⟨a1, a2, a3, a4, a5, a6, a7, a8⟩ := e0
  have hp := hT.perm
  have f := hT.eq
  have g : K'.lost = K1.lost ∧ K'.full = K1.full ∧ K'.come = K1.come + xs.length ∧ K'.queue = K1.queue ∧ K'.lv = K1.lv ∧ K'.put = K1.put ∧ K'.D = K1.D := by
    generalize K'.Fl = q1 at f
    generalize K'.fv = q2 at f
    rw [f]
    exact ⟨rfl, rfl, rfl, rfl, rfl, rfl, rfl⟩
  obtain ⟨b1, b2, b3, b4, b5, b6, b7⟩ := g
  exact ⟨by omega, by omega, b4.trans a4, b5.trans a5, b6.trans a6, b7.trans a7, a8 ▸ hp⟩
theorem OnI.take {w : World} {base : Nat} {K K1 K' : Lk} {ns : List Nt} {cm : List Bool} {t : Int} {xs : List (It Value)} (h : OnI w base K ns cm) (hnd : K.Fl.Pairwise (fun a b => a.num ≠ b.num)) (hG : GoE K t K1) (hT : TkI K1 xs K') : OnI w base K' ns (setAll cm xs) := by
  obtain ⟨_, _, _, _, c5, c6, hp⟩ := take_counts hG hT
  refine ⟨c5.trans h.len, (setAll_len _ _).trans h.cml, fun x hx => ?_⟩
  have hxm : x ∈ K.Fl := hp.mem_iff.1 (List.mem_append_right _ hx)
  obtain ⟨e0, ec, y, e1⟩ := h.fl x hxm
  rw [c6]
  refine ⟨e0, ?_, y, e1⟩
  rw [setAll_get]
  · exact ec
  · intro z hz e
    have h1 := (List.pairwise_append.1 (nd_perm hnd hp.symm)).2.2 z hz x hx
    have h2 := (h.fl z (hp.mem_iff.1 (List.mem_append_left _ hz))).1
    omega
theorem OnI.sub {w : World} {base : Nat} {K K' : Lk} {ns : List Nt} {cm : List Bool} (h : OnI w base K ns cm) (h1 : K'.put = K.put) (h2 : K'.D = K.D) (h3 : ∀ x ∈ K'.Fl, x ∈ K.Fl) : OnI w base K' ns cm :=
  ⟨h1.trans h.len, h.cml, fun x hx => by rw [h2]; exact h.fl x (h3 x hx)⟩
/-- At one that is taken: it stands in its note, it is not marked, and it comes no sooner than the one ahead. -/
theorem OnI.one {w : World} {base : Nat} {K K1 K' : Lk} {ns : List Nt} {cm : List Bool} {t : Int} {xs : List (It Value)} (h : OnI w base K ns cm) (hnd : K.Fl.Pairwise (fun a b => a.num ≠ b.num)) (hG : GoE K t K1) (hT : TkI K1 xs K') {m : Nat} {x : It Value} (hx : xs[m]? = some x) :
    0 ≤ x.num ∧ (setAll cm (xs.take m))[x.num.toNat]? = some false ∧ (∃ y, ns[x.num.toNat]? = some y ∧ y.ok = true ∧ y.n = (K.D x.num).length ∧ BytesAt w y.fa (K.D x.num) ∧ ∀ ad, y.fa = some ad → K.D x.num ≠ [] → ad.block < base) ∧ ∀ z, 0 < m → xs[m - 1]? = some z → z.at_ ≤ x.at_ := by
  obtain ⟨_, _, _, _, c5, c6, hp⟩ := take_counts hG hT
  have hxm : x ∈ K.Fl := hp.mem_iff.1 (List.mem_append_left _ (List.mem_of_getElem? hx))
  obtain ⟨e0, ec, y, e1⟩ := h.fl x hxm
  have hml := (List.getElem?_eq_some_iff.1 hx).1
  have hpw := (List.pairwise_append.1 (nd_perm hnd hp.symm)).1
  refine ⟨e0, ?_, ⟨y, e1⟩, fun z hm hz => ?_⟩
  · rw [setAll_get]
    · exact ec
    · intro z hz e
      obtain ⟨k, hk⟩ := List.getElem?_of_mem hz
      have hk1 := (List.getElem?_eq_some_iff.1 hk).1
      rw [List.length_take] at hk1
      rw [List.getElem?_take, if_pos (by omega)] at hk
      have h1 := List.pairwise_iff_getElem.1 hpw k m (by omega) hml (by omega)
      rw [(List.getElem?_eq_some_iff.1 hk).2, (List.getElem?_eq_some_iff.1 hx).2] at h1
      have h2 := (h.fl z (hp.mem_iff.1 (List.mem_append_left _ (List.mem_of_getElem? hk)))).1
      omega
  · have hzl := (List.getElem?_eq_some_iff.1 hz).1
    have hle := List.pairwise_iff_getElem.1 hT.srt (m - 1) m hzl hml (by omega)
    rw [(List.getElem?_eq_some_iff.1 hx).2, (List.getElem?_eq_some_iff.1 hz).2] at hle
    unfold Le Ah It.key at hle
    simp only at hle
    omega
/-- One of an own row is set. -/
theorem own_set {w : World} {b : Nat} {t : TypeId} {g n c : Nat} {xs : List Value} (h : w.ownsRow b t 1 (.slice (some ⟨g, 0, none⟩) n c) n xs) (k : Nat) (u : Value) : (w.setCell ⟨g, k, none⟩ u).ownsRow b t 1 (.slice (some ⟨g, 0, none⟩) n c) n (xs.set k u) := by
  obtain ⟨hl, ⟨e1, _⟩ | ⟨g', cap, cur, e1, hb, hg, hnc, hcm, hcs, htk⟩⟩ := h
  · cases e1
  · simp only [Value.slice.injEq, Option.some.injEq, Addr.mk.injEq] at e1
    obtain ⟨⟨rfl, _, _⟩, _, rfl⟩ := e1
    have R : Row w g cur.toList t := ⟨by simpa using hg⟩
    have R2 := (R.set k u).at_
    refine ⟨by rw [List.length_set]; exact hl, .inr ⟨g, c, (cur.toList.set k u).toArray, rfl, hb, R2, hnc, hcm, by simpa using hcs, ?_⟩⟩
    rw [Nat.mul_one] at *
    show List.take n ((cur.toList.set k u).toArray).toList = _
    rw [List.take_set, ← htk]
theorem own_get {w : World} {b : Nat} {t : TypeId} {v : Value} {n : Nat} {xs : List Value} (h : w.ownsRow b t 1 v n xs) {k : Nat} {u : Value} (hu : xs[k]? = some u) : ∃ g c, v = .slice (some ⟨g, 0, none⟩) n c ∧ b ≤ g ∧ w.cell? ⟨g, k, none⟩ = some u ∧ w.frozen? ⟨g, k, none⟩ = false := by
  obtain ⟨hl, ⟨e1, hn⟩ | ⟨g, cap, cur, e1, hb, hg, hnc, hcm, hcs, htk⟩⟩ := h
  · have := (List.getElem?_eq_some_iff.1 hu).1
    omega
  · have R : Row w g cur.toList t := ⟨by simpa using hg⟩
    have hk := (List.getElem?_eq_some_iff.1 hu).1
    refine ⟨g, cap, e1, hb, R.cell k u ?_, R.frozen k⟩
    rw [← htk, List.getElem?_take, if_pos (by omega)] at hu
    exact hu
theorem el_one (w : World) (v : Value) (t : TypeId) : ElAt (w.alloc (.cells #[v] t)) (some ⟨w.heap.size, 0, none⟩) [v] := fun k x hx => by
  have hk : k < 1 := (List.getElem?_eq_some_iff.1 hx).1
  obtain rfl : k = 0 := by omega
  exact ⟨w.heap.size, 0, rfl, (Row.new w [v] t).cell 0 _ hx⟩
/-- A link, the notes of its Puts and the marks, in a law. -/
structure OnM (base B2 i p b : Nat) (C : List Value) (K : Lk) (ns : List Nt) (cm : List Bool) (v cv : Value) (q : Int) (w0 w : World) : Prop where
  l : Lw base i p K w
  on : OnI w base K ns cm
  rn : w.ownsRow base 59 3 v ns.length (flat ncells ns)
  rc : w.ownsRow B2 4 1 cv cm.length (cm.map Value.bool)
  conf : Row w b C 28
  below : Below base w0 w
  lvb : ∀ g, K.lv.ownBlock = some g → g < B2
  b2 : base ≤ B2
  b2w : B2 ≤ w.heap.size
  que : K.queue = q
section
variable {base B2 i j p b : Nat} {C : List Value} {K : Lk} {ns : List Nt} {cm : List Bool} {v cv : Value} {q : Int} {w0 w w' : World}
theorem OnM.more (h : OnM base B2 i p b C K ns cm v cv q w0 w) (hij : i ≤ j) : OnM base B2 j p b C K ns cm v cv q w0 w := ⟨h.l.more hij, h.on, h.rn, h.rc, h.conf, h.below, h.lvb, h.b2, h.b2w, h.que⟩
theorem OnM.kept (h : OnM base B2 i p b C K ns cm v cv q w0 w) (hb : Below w.heap.size w w') : OnM base B2 i p b C K ns cm v cv q w0 w' :=
  ⟨h.l.below hb, h.on.kept (hb.mono h.l.bw), own_below h.rn hb, own_below h.rc hb, h.conf.kept hb h.conf.lt, h.below.trans (hb.mono h.l.bw), h.lvb, h.b2, Nat.le_trans h.b2w hb.size, h.que⟩
/-- The marks are not in a link's way. -/
theorem marks_apart {w : World} {K : Lk} {p B2 : Nat} {cv : Value} {n : Nat} {xs : List Value} (hA : LkAt w p K) (hr : w.ownsRow B2 4 1 cv n xs) (hl : ∀ g, K.lv.ownBlock = some g → g < B2) : ∀ k, Mem p K k → ¬ cv.ownBlock = some k := fun k hk e => by
  rcases hk with (rfl | e2 | e2) | e2 | e2 | ⟨x, hx, e2⟩
  · exact own_row hr hA.row (by decide) e
  · exact own_two hr hA.hs.own (by decide) e e2
  · exact own_two hr hA.hf.own (by decide) e e2
  · have h1 := own_ge hr e
    have h2 := hl k e2
    omega
  · exact own_two hr hA.ji (by decide) e e2
  · exact own_two hr (hA.by_ x hx) (by decide) e e2
/-- Where the marks alone are turned. -/
theorem OnM.marks (h : OnM base B2 i p b C K ns cm v cv q w0 w) (hF : Fr (fun k => cv.ownBlock = some k) w w') {cm' : List Bool} (hl : cm'.length = cm.length) (hr : w'.ownsRow B2 4 1 cv cm.length (cm'.map Value.bool)) (hon : OnI w base K ns cm') : OnM base B2 i p b C K ns cm' v cv q w0 w' := by
  have hb : Below base w w' := hF.below (fun k e => by have := own_ge h.rc e; have := h.b2; omega) h.l.bw
  exact ⟨h.l.fr hF (marks_apart h.l.at_ h.rc h.lvb), hon.kept hb, hF.own h.rn (fun g e e' => own_two h.rn h.rc (by decide) e e'), by rw [hl]; exact hr, hF.row h.conf (fun e => own_row h.rc h.conf (by decide) e), h.below.trans hb, h.lvb, h.b2, Nat.le_trans h.b2w hF.size, h.que⟩
end
end Go.Proofs.Ytoeldomhkeancaa
