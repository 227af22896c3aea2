import Derived.Test.YtoeldomhkeancaaNl0
namespace Go.Proofs.Ytoeldomhkeancaa
open Go.RowKit Go.Maps
set_option maxRecDepth 100000

theorem takes_zero {r : Int} (hr : 0 ≤ r) : takesE r 0 = 0 := by
  have := takes_le hr (Int.le_refl 0)
  omega
theorem sumW_one (x : It Value) : sumW [x] = intOf x.what := by simp [sumW]
/-- A sending keeps a link what it is. -/
theorem SendE.ok {K K' : Lk} {num : Int} {bs : List (BitVec 8)} (h : SendE K num bs K') (hk : K.Ok) (hroom : K.wait + bs.length ≤ K.queue) : K'.Ok := by
  have hS := h.S
  have hW := h.wait
  have e := h.eq
  have hT := takes_le (n := (bs.length : Int)) hk.r0 (by omega)
  have hwn : K.wait = sumW K.S := hk.wait
  have hov : overE K bs.length = max K.now K.busy + takesE K.rate bs.length := rfl
  have hb0 := hk.busy0
  have hn0 := hk.now0
  have hwt' : ∀ x ∈ K'.S, Wt x := fun x hx => by
    rcases List.mem_append.1 (hS.mem_iff.1 hx) with h1 | h1
    · exact hk.wt x h1
    · by_cases hw : Waits K bs.length
      · rw [if_pos hw] at h1
        simp at h1
        subst h1
        exact ⟨bs.length, rfl, by have := hw.2; omega⟩
      · rw [if_neg hw] at h1
        cases h1
  have hsum : sumW K'.S = sumW K.S + if Waits K bs.length then (bs.length : Int) else 0 := by
    rw [sumW_perm hS, sumW_app]
    split
    · rw [sumW_one]; rfl
    · rfl
  have hbusy : ∀ s, K.now ≤ s → overE K bs.length ≤ s + 1000000 * sumW (lat s K'.S) := fun s hs => by
    have h1 := hk.busy s hs
    have h2 : sumW (lat s K'.S) = sumW (lat s K.S) + sumW (lat s (if Waits K bs.length then [(⟨overE K bs.length, num, .int .i64 (bs.length : Int)⟩ : It Value)] else [])) := by
      rw [sumW_perm (hS.filter _), List.filter_append, sumW_app]
    have h3 : 0 ≤ sumW (lat s K.S) := sumW_nonneg (fun x hx => hk.wt x (List.mem_filter.1 hx).1)
    by_cases hle : overE K bs.length ≤ s
    · have h4 : 0 ≤ sumW (lat s K'.S) := sumW_nonneg (fun x hx => hwt' x (List.mem_filter.1 hx).1)
      omega
    · by_cases hz : bs.length = 0
      · have : takesE K.rate bs.length = 0 := by rw [hz]; exact takes_zero hk.r0
        rw [if_neg (fun hw => by have := hw.2; omega)] at h2
        simp [sumW] at h2
        omega
      · have hw : Waits K bs.length := ⟨by omega, by omega⟩
        rw [if_pos hw] at h2
        have h5 : lat s [(⟨overE K bs.length, num, .int .i64 (bs.length : Int)⟩ : It Value)] = [⟨overE K bs.length, num, .int .i64 (bs.length : Int)⟩] := lat_self (by simp; omega)
        rw [h5, sumW_one] at h2
        have h6 : intOf (Value.int .i64 (bs.length : Int)) = (bs.length : Int) := rfl
        rw [h6] at h2
        omega
  have hov0 : 0 ≤ overE K bs.length := by omega
  have hwq : K'.wait ≤ K.queue := by
    rw [hW]
    split
    · exact hroom
    · have := hk.waitq; omega
  have hwait : K'.wait = sumW K'.S := by rw [hW, hsum, hwn]
  generalize K'.S = s1 at *
  generalize K'.sv = s2 at *
  generalize K'.wait = s3 at *
  generalize K'.Fl = s4 at *
  generalize K'.fv = s5 at *
  subst e
  exact ⟨hk.r0, hk.r1, hk.d0, hk.d1, hk.q0, hk.q1, hk.ln, hk.jn, hk.jt, hk.now0, hk.now1, hwt', hwait, hwq, hov0, hbusy⟩
theorem tm_bd {K : Lk} (hk : K.Ok) (n : Int) : K.now ≤ tm K.now n ∧ tm K.now n ≤ 4611686018427387904 := by
  have := hk.now1
  unfold tm
  omega
theorem Lk.Ok.recount {K : Lk} (h : K.Ok) (a b c d : Int) : Lk.Ok { K with put := a, lost := b, full := c, come := d } :=
  ⟨h.r0, h.r1, h.d0, h.d1, h.q0, h.q1, h.ln, h.jn, h.jt, h.now0, h.now1, h.wt, h.wait, h.waitq, h.busy0, h.busy⟩
theorem PutP.ok {p : Nat} {K : Lk} {n : Int} {bs : List (BitVec 8)} {w w' : World} {e : Ending} (h : PutP p K (tm K.now n) bs w e w') (hk : K.Ok) :
    ∃ K', K'.Ok ∧ Lm p K w K' w' ∧ ∃ K1, K1.Ok ∧ GoE K (tm K.now n) K1 ∧ ((e = .returned (.bool false) ∧ lossE K K.put = true ∧ K' = { K1 with put := K.put + 1, lost := K.lost + 1 }) ∨
     (e = .returned (.bool false) ∧ lossE K K.put = false ∧ K.queue < K1.wait + bs.length ∧ K' = { K1 with put := K.put + 1, full := K.full + 1 }) ∨
     (e = .returned (.bool true) ∧ lossE K K.put = false ∧ K1.wait + bs.length ≤ K.queue ∧ SendE { K1 with put := K.put + 1 } K.put bs K')) := by
  obtain ⟨K1, K', hG, hL, hc⟩ := h
  have hb := tm_bd hk n
  have h1 := hG.ok hk hb.1 hb.2
  refine ⟨K', ?_, hL, K1, h1, hG, hc⟩
  rcases hc with ⟨_, _, rfl⟩ | ⟨_, _, _, rfl⟩ | ⟨_, _, hr, hs⟩
  · exact h1.recount _ _ K1.full K1.come
  · exact h1.recount _ K1.lost _ K1.come
  · have hq : K1.queue = K.queue := by rw [hG.eq]
    exact hs.ok (h1.recount (K.put + 1) K1.lost K1.full K1.come) (by show K1.wait + _ ≤ K1.queue; omega)
theorem TkI.ok {K1 K : Lk} {xs : List (It Value)} (h : TkI K1 xs K) (hk : K1.Ok) : K.Ok := by
  have e := h.eq
  generalize K.Fl = q1 at e
  generalize K.fv = q2 at e
  subst e
  exact ⟨hk.r0, hk.r1, hk.d0, hk.d1, hk.q0, hk.q1, hk.ln, hk.jn, hk.jt, hk.now0, hk.now1, hk.wt, hk.wait, hk.waitq, hk.busy0, hk.busy⟩
/-- The bytes of "abcd", and seven others. -/
def abcd : List (BitVec 8) := [97#8, 98#8, 99#8, 100#8]
def seven : List (BitVec 8) := [49#8, 50#8, 51#8, 52#8, 53#8, 54#8, 55#8]
theorem perm_one {α : Type} {L : List α} {x : α} (h : L.Perm [x]) : L = [x] := List.perm_singleton.1 h
/-- What stands behind the first Put. -/
structure Al1 (K' : Lk) (v : Value) : Prop where
  now : K'.now = 0
  queue : K'.queue = 10
  put : K'.put = 1
  cnt : K'.lost = 0 ∧ K'.full = 0 ∧ K'.come = 0
  loss : K'.loss = []
  S : K'.S = [⟨4000, 0, .int .i64 4⟩]
  wait : K'.wait = 4
  Fl : K'.Fl = [⟨4500, 0, v⟩]
  D : K'.D 0 = abcd
theorem al_one {lv jv : Value} {p : Nat} {w w' : World} {e : Ending} (h : PutP p (Lk.fresh 1000 500 10 [] [] lv jv) (tm 0 0) abcd w e w') (hk : (Lk.fresh 1000 500 10 [] [] lv jv).Ok) :
    e = .returned (.bool true) ∧ ∃ K' v, K'.Ok ∧ Lm p (Lk.fresh 1000 500 10 [] [] lv jv) w K' w' ∧ Al1 K' v := by
  obtain ⟨K', hok, hL, K1, h1, hG, hc⟩ := PutP.ok (n := 0) h hk
  have hS1 : K1.S = [] := List.Perm.eq_nil hG.S
  have hw1 : K1.wait = 0 := by rw [hG.wait, hS1]; rfl
  have hlo : lossE (Lk.fresh 1000 500 10 [] [] lv jv) 0 = false := rfl
  rcases hc with ⟨_, hl, _⟩ | ⟨_, _, hq, _⟩ | ⟨he, _, _, hs⟩
  · exact absurd (hlo.symm.trans hl) (by decide)
  · rw [hw1] at hq
    have hq' : (10 : Int) < 0 + 4 := hq
    omega
  · have e1 := hG.eq
    have e2 := hs.eq
    have f1 := hs.S
    have f2 := hs.wait
    obtain ⟨v, f3⟩ := hs.Fl
    rw [hS1, hw1] at e1
    generalize K1.sv = q at e1
    subst e1
    have hov : overE ({ ({ Lk.fresh 1000 500 10 [] [] lv jv with now := tm (Lk.fresh 1000 500 10 [] [] lv jv).now 0, S := [], sv := q, wait := 0 } : Lk) with put := (Lk.fresh 1000 500 10 [] [] lv jv).put + 1 }) abcd.length = 4000 := by
      show max (tm 0 0) 0 + takesE 1000 4 = 4000
      decide
    have hwt : Waits ({ ({ Lk.fresh 1000 500 10 [] [] lv jv with now := tm (Lk.fresh 1000 500 10 [] [] lv jv).now 0, S := [], sv := q, wait := 0 } : Lk) with put := (Lk.fresh 1000 500 10 [] [] lv jv).put + 1 }) abcd.length := ⟨by rw [hov]; show tm 0 0 < 4000; decide, by decide⟩
    rw [if_pos hwt, hov] at f1
    rw [if_pos hwt] at f2
    rw [hov] at f3
    have g1 := perm_one f1
    have g3 := perm_one f3
    refine ⟨he, K', v, hok, hL, ⟨by rw [e2]; rfl, by rw [e2]; rfl, by rw [e2]; rfl, by rw [e2]; exact ⟨rfl, rfl, rfl⟩, by rw [e2]; rfl, g1, f2, ?_, by rw [e2]; rfl⟩⟩
    rw [g3]
    rfl
/-- And behind the second. -/
theorem al_two {K : Lk} {v : Value} (h : Al1 K v) {p : Nat} {w w' : World} {e : Ending} (hp : PutP p K (tm K.now 0) seven w e w') (hk : K.Ok) :
    e = .returned (.bool false) ∧ ∃ K', K'.Ok ∧ Lm p K w K' w' ∧ K'.now = 0 ∧ K'.queue = 10 ∧ K'.come = 0 ∧ K'.Fl = [⟨4500, 0, v⟩] ∧ K'.D 0 = abcd := by
  obtain ⟨K', hok, hL, K1, h1, hG, hc⟩ := PutP.ok (n := 0) hp hk
  have hS1 : K1.S = [⟨4000, 0, .int .i64 4⟩] := by
    have := hG.S
    rw [h.S, h.now] at this
    exact perm_one this
  have hw1 : K1.wait = 4 := by rw [hG.wait, hS1]; rfl
  have hlo : lossE K K.put = false := by unfold lossE; rw [h.loss]; rfl
  rcases hc with ⟨_, hl, _⟩ | ⟨he, _, hq, e2⟩ | ⟨_, _, hq, _⟩
  · exact absurd (hlo.symm.trans hl) (by decide)
  · have e1 := hG.eq
    have hn : tm K.now 0 = 0 := by rw [h.now]; rfl
    refine ⟨he, K', hok, hL, ?_, ?_, ?_, ?_, ?_⟩
    · rw [e2, e1]; exact hn
    · rw [e2, e1]; exact h.queue
    · rw [e2, e1]; exact h.cnt.2.2
    · rw [e2, e1]; exact h.Fl
    · rw [e2, e1]; exact h.D
  · rw [hw1, h.queue] at hq
    exact absurd hq (by decide)
theorem al_three {K : Lk} {v : Value} (hn : K.now = 0) (hF : K.Fl = [⟨4500, 0, v⟩]) (hD : K.D 0 = abcd) {p : Nat} {w w' : World} {e : Ending} (hp : TakeP p K (tm K.now 4500) w e w') :
    ∃ s, e = .returned s ∧ (∃ K', Lm p K w K' w') ∧ w'.ownsRow w.heap.size 55 3 s 1 (icells ⟨4500, 0, v⟩) ∧ OwnBy w' 0 v abcd := by
  obtain ⟨K1, K', s, xs, he, hG, hL, hT, hy, hO, hB⟩ := hp
  have hF1 : K1.Fl = [⟨4500, 0, v⟩] := by rw [hG.eq]; exact hF
  have hK' : K'.Fl = [] := by
    cases hk : K'.Fl with
    | nil => rfl
    | cons y r =>
      have h1 := hy y (by rw [hk]; simp)
      have h2 : y ∈ K1.Fl := hT.perm.mem_iff.1 (by rw [hk]; simp)
      rw [hF1] at h2
      simp at h2
      rw [h2, hn] at h1
      have h3 : tm 0 4500 < 4500 := h1
      exact absurd h3 (by decide)
  have hxs : xs = [⟨4500, 0, v⟩] := by
    have := hT.perm
    rw [hK', hF1, List.append_nil] at this
    exact perm_one this
  subst hxs
  refine ⟨s, he, ⟨K', hL⟩, by simpa [flatI] using hO, ?_⟩
  have := hB ⟨4500, 0, v⟩ (by simp)
  rw [show (⟨4500, 0, v⟩ : It Value).num = 0 from rfl, hD] at this
  exact this
end Go.Proofs.Ytoeldomhkeancaa
