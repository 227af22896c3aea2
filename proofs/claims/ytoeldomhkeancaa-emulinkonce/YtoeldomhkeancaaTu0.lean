import Derived.Test.YtoeldomhkeancaaLw0
namespace Go.Proofs.Ytoeldomhkeancaa
open Go.RowKit Go.Maps
set_option maxRecDepth 100000

/-- Without jitter: what flies comes in the order of its numbers. -/
structure TuI (K : Lk) (nx : Int) : Prop where
  jit : K.jit = []
  mono : ∀ x ∈ K.Fl, ∀ y ∈ K.Fl, x.num < y.num → x.at_ ≤ y.at_
  low : ∀ x ∈ K.Fl, nx ≤ x.num
  n0 : 0 ≤ nx
  n1 : nx ≤ K.put
  top : ∀ x ∈ K.Fl, x.at_ ≤ K.busy + K.delay
theorem TuI.go {K K1 : Lk} {t nx : Int} (h : TuI K nx) (hG : GoE K t K1) : TuI K1 nx := by
  have := hG.eq
  generalize K1.S = q1 at this
  generalize K1.sv = q2 at this
  generalize K1.wait = q3 at this
  subst this
  exact ⟨h.jit, h.mono, h.low, h.n0, h.n1, h.top⟩
/-- The three ways of a Put. -/
def PutQ (K K1 K' : Lk) (bs : List (BitVec 8)) (ok : Bool) : Prop := (ok = false ∧ lossE K K.put = true ∧ K' = { K1 with put := K.put + 1, lost := K.lost + 1 }) ∨ (ok = false ∧ lossE K K.put = false ∧ K.queue < K1.wait + bs.length ∧ K' = { K1 with put := K.put + 1, full := K.full + 1 }) ∨ (ok = true ∧ lossE K K.put = false ∧ K1.wait + bs.length ≤ K.queue ∧ SendE { K1 with put := K.put + 1 } K.put bs K')
theorem TuI.put {K K1 K' : Lk} {t nx : Int} {bs : List (BitVec 8)} {ok : Bool} (h : TuI K nx) (hk1 : K1.Ok) (hn : ∀ x ∈ K.Fl, x.num < K.put) (hG : GoE K t K1) (hc : PutQ K K1 K' bs ok) : TuI K' nx := by
  have g := h.go hG
  have e1 : K1.put = K.put ∧ K1.Fl = K.Fl := by
    have := hG.eq
    generalize K1.S = q1 at this
    generalize K1.sv = q2 at this
    generalize K1.wait = q3 at this
    rw [this]
    exact ⟨rfl, rfl⟩
  have hn1 := h.n1
  rcases hc with ⟨_, _, rfl⟩ | ⟨_, _, _, rfl⟩ | ⟨_, _, _, hs⟩
  · exact ⟨g.jit, g.mono, g.low, g.n0, show nx ≤ K.put + 1 by omega, g.top⟩
  · exact ⟨g.jit, g.mono, g.low, g.n0, show nx ≤ K.put + 1 by omega, g.top⟩
  · obtain ⟨v, hF⟩ := hs.Fl
    have f := hs.eq
    have hj : jitE { K1 with put := K.put + 1 } K.put = 0 := by
      unfold jitE
      rw [show ({ K1 with put := K.put + 1 } : Lk).jit = [] from g.jit]
      rfl
    rw [hj, Int.add_zero] at hF
    obtain ⟨O, hO⟩ : ∃ O, overE { K1 with put := K.put + 1 } bs.length = O := ⟨_, rfl⟩
    have hOb : K1.busy ≤ O := by
      have h1 := takes_le (n := (bs.length : Int)) hk1.r0 (by omega)
      have h2 : max K1.now K1.busy + takesE K1.rate bs.length = O := hO
      omega
    rw [hO] at hF
    have hF' : K'.Fl.Perm (K1.Fl ++ [⟨O + K1.delay, K.put, v⟩]) := hF
    have eb : K'.busy = O := by rw [f]; exact hO
    have ed : K'.delay = K1.delay := by rw [f]
    have ej : K'.jit = [] := by rw [f]; exact g.jit
    have ep : K'.put = K.put + 1 := by rw [f]
    have hm : ∀ x ∈ K'.Fl, x ∈ K1.Fl ∨ x = ⟨O + K1.delay, K.put, v⟩ := fun x hx => by
      rcases List.mem_append.1 (hF'.mem_iff.1 hx) with h1 | h1
      · exact .inl h1
      · exact .inr (by simpa using h1)
    refine ⟨ej, fun x hx y hy hxy => ?_, fun x hx => ?_, h.n0, by omega, fun x hx => ?_⟩
    · rcases hm x hx with h1 | rfl
      · rcases hm y hy with h2 | rfl
        · exact g.mono x h1 y h2 hxy
        · have := g.top x h1
          show x.at_ ≤ O + K1.delay
          omega
      · rcases hm y hy with h2 | rfl
        · have h3 := hn y (e1.2 ▸ h2)
          have h4 : K.put < y.num := hxy
          omega
        · exact Int.le_refl _
    · rcases hm x hx with h1 | rfl
      · exact g.low x h1
      · exact hn1
    · rw [eb, ed]
      rcases hm x hx with h1 | rfl
      · have := g.top x h1; omega
      · exact Int.le_refl _
/-- What is next behind those. -/
def nxt (nx : Int) : List (It Value) → Int
  | [] => nx
  | x :: r => nxt (x.num + 1) r
theorem nxt_snoc (nx : Int) : ∀ (l : List (It Value)) (x : It Value), nxt nx (l ++ [x]) = x.num + 1
  | [], x => rfl
  | y :: r, x => by simp only [List.cons_append, nxt]; exact nxt_snoc _ r x
/-- Taken in the order of their numbers. -/
structure Seq (nx : Int) (put : Int) (xs : List (It Value)) : Prop where
  inc : xs.Pairwise (fun a b => a.num < b.num)
  low : ∀ x ∈ xs, nx ≤ x.num
  hi : ∀ x ∈ xs, x.num < put
theorem Seq.step {nx put : Int} {xs : List (It Value)} (h : Seq nx put xs) {k : Nat} {x : It Value} (hx : xs[k]? = some x) : nxt nx (xs.take k) ≤ x.num := by
  cases k with
  | zero => exact h.low x (List.mem_of_getElem? hx)
  | succ k =>
    have hk := (List.getElem?_eq_some_iff.1 hx).1
    have hk' : k < xs.length := by omega
    rw [List.take_succ_eq_append_getElem hk', nxt_snoc]
    have h1 := List.pairwise_iff_getElem.1 h.inc k (k + 1) hk' hk (by omega)
    have h2 := (List.getElem?_eq_some_iff.1 hx).2
    rw [h2] at h1
    omega
theorem TuI.take {K K1 K' : Lk} {t nx : Int} {xs : List (It Value)} (h : TuI K nx) (hn : ∀ x ∈ K.Fl, x.num < K.put) (hd : K.Fl.Pairwise (fun a b => a.num ≠ b.num)) (hG : GoE K t K1) (hT : TkI K1 xs K') : Seq nx K.put xs ∧ TuI K' (nxt nx xs) := by
  have g := h.go hG
  have e1 : K1.put = K.put ∧ K1.Fl = K.Fl := by
    have := hG.eq
    generalize K1.S = q1 at this
    generalize K1.sv = q2 at this
    generalize K1.wait = q3 at this
    rw [this]
    exact ⟨rfl, rfl⟩
  have hp : (xs ++ K'.Fl).Perm K1.Fl := hT.perm
  have hd1 : (xs ++ K'.Fl).Pairwise (fun a b => a.num ≠ b.num) := nd_perm (e1.2 ▸ hd) hp.symm
  have hmx : ∀ x ∈ xs, x ∈ K1.Fl := fun x hx => hp.mem_iff.1 (List.mem_append_left _ hx)
  have hmf : ∀ x ∈ K'.Fl, x ∈ K1.Fl := fun x hx => hp.mem_iff.1 (List.mem_append_right _ hx)
  have key : ∀ x ∈ K1.Fl, ∀ y ∈ K1.Fl, Le x.key y.key → x.num ≠ y.num → x.num < y.num := fun x hx y hy hle hne => by
    rcases Int.lt_or_gt_of_ne hne with h1 | h1
    · exact h1
    · have h2 := g.mono y hy x hx h1
      unfold Le Ah It.key at hle
      simp only at hle
      omega
  have hinc : xs.Pairwise (fun a b => a.num < b.num) := by
    have h1 := (List.pairwise_append.1 hd1).1
    have h2 := List.Pairwise.and hT.srt h1
    exact List.Pairwise.imp_of_mem (fun {a b} ha hb hab => key a (hmx a ha) b (hmx b hb) hab.1 hab.2) h2
  have hsq : Seq nx K.put xs := ⟨hinc, fun x hx => g.low x (hmx x hx), fun x hx => hn x (e1.2 ▸ hmx x hx)⟩
  have hcross : ∀ x ∈ xs, ∀ y ∈ K'.Fl, x.num < y.num := fun x hx y hy => key x (hmx x hx) y (hmf y hy) (hT.low x hx y hy) ((List.pairwise_append.1 hd1).2.2 x hx y hy)
  have hlow : ∀ y ∈ K'.Fl, nxt nx xs ≤ y.num := fun y hy => by
    rcases List.eq_nil_or_concat xs with e | ⟨l, z, e⟩
    · rw [e]; exact g.low y (hmf y hy)
    · rw [List.concat_eq_append] at e
      have := hcross z (by rw [e]; simp) y hy
      rw [e, nxt_snoc]
      omega
  have hnb : 0 ≤ nxt nx xs ∧ nxt nx xs ≤ K.put := by
    rcases List.eq_nil_or_concat xs with e | ⟨l, z, e⟩
    · rw [e]; exact ⟨h.n0, h.n1⟩
    · rw [List.concat_eq_append] at e
      have h1 := hsq.hi z (by rw [e]; simp)
      have h2 := hsq.low z (by rw [e]; simp)
      have h3 := h.n0
      rw [e, nxt_snoc]
      omega
  have f := hT.eq
  have f1 : K'.jit = K1.jit ∧ K'.put = K1.put ∧ K'.busy = K1.busy ∧ K'.delay = K1.delay := by
    generalize K'.Fl = q1 at f
    generalize K'.fv = q2 at f
    rw [f]
    exact ⟨rfl, rfl, rfl, rfl⟩
  refine ⟨hsq, by rw [f1.1]; exact g.jit, fun x hx y hy => g.mono x (hmf x hx) y (hmf y hy), hlow, hnb.1, by rw [f1.2.1, e1.1]; exact hnb.2, fun x hx => by rw [f1.2.2.1, f1.2.2.2]; exact g.top x (hmf x hx)⟩
end Go.Proofs.Ytoeldomhkeancaa
