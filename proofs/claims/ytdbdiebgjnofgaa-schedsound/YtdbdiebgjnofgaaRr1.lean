import Derived.Test.YtdbdiebgjnofgaaRr0
namespace Go.Proofs.Ytdbdiebgjnofgaa
open Go.RowKit Go.Maps Go.Sort
set_option maxRecDepth 100000

/-- Does the path whose turn it is take the next chunk? -/
def stay (T : Pv → Bool) (L : List Pv) (t l : Int) : Bool := decide (t < L.length) && decide (0 < l) && T (pth L t.toNat)
set_option maxHeartbeats 2000000 in
theorem stays_any {w : World} {r B : Nat} {ws : List Int} {wa : Option Addr} {wc : Nat} {t l : Int} (h : RRAt w r B ws wa wc t l) {a : Option Addr} {L : List Pv} (hA : PathsAt w a L) (n cap : Nat) (hn : L.length = n) (hsz : n ≤ 1466015503701) {f : Nat} {c0 : Value} {T : Pv → Bool} (hT : IsT w f [c0] T)
    (eg : ∀ args w, (callFunc f args).run Try.prog w = .ok (.enter f args) w) :
    Calls Try.prog 58 #[.pointer (some ⟨r, 0, none⟩), .slice a n cap, .func (.func f) #[] #[c0]] w fun e w' => e = .returned (.bool (stay T L t l)) ∧ Below w.heap.size w w' := by
  have c1 := h.row.cell 1 _ rfl
  have c2 := h.row.cell 2 _ rfl
  have ht0 := h.t0
  have ht1 := h.t1
  have hl0 := h.l0
  have hsi : (n : Int) ≤ 1466015503701 := by omega
  unfold stay
  rw [hn]
  by_cases h1 : t < n
  · by_cases h2 : 0 < l
    · obtain ⟨k, rfl⟩ : ∃ k : Nat, t = k := ⟨t.toNat, by omega⟩
      have hk : k < L.length := by omega
      rw [Int.toNat_natCast, pth_eq hk]
      obtain ⟨g, o, rfl, q0, q1, q2, q3, q4, q5, q6, q7, q8, q9, q10, q11⟩ := hA.cell hk
      have hC := hT w L[k] (Below.refl _ _)
      generalize L[k] = P at *
      simp only [Pv.val, Pv.cells] at hC
      have HC := hid hC
      clear hC h hA hT
      have e1 : decide ((k : Int) < (n : Int)) = true := by simpa using h1
      have e2 : decide (0 < l) = true := by simpa using h2
      rw [e1, e2]
      go_enter Try.func58, Try.ntmps58
      go_wp2_with (go_at_fn f; refine HC.out.mono ?_; rintro e w' ⟨rfl, hb⟩; have HB := hid hb; clear hb)
      go_ret
      exact ⟨by first | rfl | simp, HB.out⟩
    · have e2 : decide (0 < l) = false := by simpa using h2
      have e1 : decide (t < (n : Int)) = true := by simpa using h1
      rw [e1, e2]
      clear h hA hT
      go_enter Try.func58, Try.ntmps58
      go_wp2
      go_ret
      exact ⟨rfl, Below.refl _ _⟩
  · have e1 : decide (t < (n : Int)) = false := by simpa using h1
    rw [e1]
    clear h hA hT
    go_enter Try.func58, Try.ntmps58
    go_wp2
    go_ret
    exact ⟨rfl, Below.refl _ _⟩
/-- The turn goes on until a path takes the chunk. -/
inductive Turns (ws : List Int) (T : Pv → Bool) (L : List Pv) : Int → Int → Int → Int → Prop
  | stop {t l : Int} (h : stay T L t l = true) : Turns ws T L t l t l
  | step {t l t' l' : Int} (h : stay T L t l = false) (k : Turns ws T L (nxt L.length t) (wgt ws (nxt L.length t)) t' l') : Turns ws T L t l t' l'
/-- So many steps at most: there is a path i that takes. -/
def dist (L : List Pv) (i : Nat) (t l : Int) : Nat := if t < L.length ∧ 0 < l then (if t ≤ i then i - t.toNat else L.length + i - t.toNat) else L.length + 1
theorem dist_lt {ws : List Int} {T : Pv → Bool} {L : List Pv} {i : Nat} (hi : i < L.length) (hT : T (pth L i) = true) {t l : Int} (h0 : 0 ≤ t) (hs : stay T L t l = false) : dist L i (nxt L.length t) (wgt ws (nxt L.length t)) < dist L i t l := by
  have hw := wgt_bd ws (nxt L.length t)
  have hn : 0 ≤ nxt L.length t ∧ nxt L.length t < L.length := by unfold nxt; split <;> omega
  have e1 : dist L i (nxt L.length t) (wgt ws (nxt L.length t)) = if nxt L.length t ≤ i then i - (nxt L.length t).toNat else L.length + i - (nxt L.length t).toNat := by
    unfold dist; rw [if_pos ⟨hn.2, by omega⟩]
  rw [e1]
  unfold dist
  by_cases hc : t < L.length ∧ 0 < l
  · rw [if_pos hc]
    have hne : t ≠ i := by
      rintro rfl
      unfold stay at hs
      rw [Int.toNat_natCast, hT] at hs
      simp at hs
      omega
    unfold nxt
    by_cases h1 : (L.length : Int) ≤ t + 1
    · rw [if_pos h1, if_pos (by omega)]
      rw [if_neg (by omega)]
      omega
    · rw [if_neg h1]
      by_cases h2 : t ≤ i
      · rw [if_pos (by omega), if_pos h2]; omega
      · rw [if_neg (by omega), if_neg h2]; omega
  · rw [if_neg hc]
    split <;> omega
end Go.Proofs.Ytdbdiebgjnofgaa
