import Derived.Test.YtdbdiebgjnofgaaRr4
namespace Go.Proofs.Ytdbdiebgjnofgaa
open Go.RowKit Go.Maps Go.Sort
set_option maxRecDepth 100000

theorem eg57 : ∀ args w, (callFunc 57 args).run Try.prog w = .ok (.enter 57 args) w := enters_of Try.func57 (by kernel_rfl) rfl
theorem cell_same' {w1 w2 : World} {N : Nat} (h : ∀ k, k < N → w2.heap[k]? = w1.heap[k]?) {ad : Addr} {v : Value} (hc : w1.cell? ad = some v) (hl : ad.block < N) : w2.cell? ad = some v := by
  rw [← hc]
  unfold World.cell?
  rw [h ad.block hl]
theorem RRAt.same {w1 w2 : World} {r B N : Nat} {ws : List Int} {a : Option Addr} {c : Nat} {t l : Int} (h : RRAt w1 r B ws a c t l) (hr : r < N) (hg : ∀ g, (Value.slice a ws.length c).ownBlock = some g → g < N) (hs : ∀ k, k < N → w2.heap[k]? = w1.heap[k]?) : RRAt w2 r B ws a c t l := by
  refine ⟨h.row.of_block (hs r hr), ?_, h.ne, h.few, h.t0, h.t1, h.l0, h.l1⟩
  obtain ⟨g1, g2, g3 | ⟨g, o, cap, e, g3⟩⟩ := h.at_
  · exact ⟨g1, g2, .inl g3⟩
  · cases e
    exact ⟨g1, g2, .inr ⟨g, o, c, rfl, fun j u hj => cell_same' hs (g3 j u hj) (hg g rfl)⟩⟩
theorem next1_yes {w : World} {s r B : Nat} {ws : List Int} {wa : Option Addr} {wc : Nat} {t l t' l' : Int} (h : RRAt w r B ws wa wc t l) (hg : ∀ g, (Value.slice wa ws.length wc).ownBlock = some g → g < w.heap.size) (hs : Row w s [.iface 62 (.pointer (some ⟨r, 0, none⟩))] 33) (hne : s ≠ r) {V : Vw} (hV : VwAt w V) (hna : ∀ g o, V.a = some ⟨g, o, none⟩ → g ≠ r) (hh : V.has = true) (hr : V.L.any (rdy V.L) = true) (hT : Turns ws (rdy V.L) V.L t l t' l') :
    Calls Try.prog 11 #[.pointer (some ⟨s, 0, none⟩), V.val] w fun e w' => e = .returned (pkv (some ⟨t', V.want.off, V.want.len⟩)) ∧ Fr (fun k => k = r) w w' ∧ RRAt w' r B ws wa wc t' (l' - 1) :=
  next_by (T := 62) (f := 57) (S := fun k => k = r) (R := fun w' => RRAt w' r B ws wa wc t' (l' - 1)) (hs.cell 0 _ rfl) (fun _ => by rfl) eg57 (fun _ e => by rw [e]; exact h.row.lt) (fun w1 w2 hh hR => hR.same h.row.lt hg hh) hne
    (fun w' hb => (rrnext_yes (h.kept hb) (fun g hk => Nat.lt_of_lt_of_le (hg g hk) hb.size) (hV.kept hb) hna hh hr).mono (by
      rintro e w2 ⟨t2, l2, hT2, rfl, hf, hR⟩
      obtain ⟨rfl, rfl⟩ := turns_det hT2 hT
      exact ⟨rfl, hf, hR⟩))
theorem next1_no {w : World} {s r B : Nat} {ws : List Int} {wa : Option Addr} {wc : Nat} {t l : Int} (_h : RRAt w r B ws wa wc t l) (hs : Row w s [.iface 62 (.pointer (some ⟨r, 0, none⟩))] 33) {V : Vw} (hV : VwAt w V) (hn : V.has = false ∨ V.L.any (rdy V.L) = false) :
    Calls Try.prog 11 #[.pointer (some ⟨s, 0, none⟩), V.val] w fun e w' => e = .returned (pkv none) ∧ Below w.heap.size w w' :=
  (next_by (T := 62) (f := 57) (S := fun _ => False) (R := fun _ => True) (hs.cell 0 _ rfl) (fun _ => by rfl) eg57 (fun _ e => e.elim) (fun _ _ _ _ => trivial) (fun e => e)
    (fun w' hb => (rrnext_no (hV.kept hb) hn).mono (by rintro e w2 ⟨rfl, hb2⟩; exact ⟨rfl, fr0 hb2, trivial⟩))).mono (by rintro e w2 ⟨rfl, hf, _⟩; exact ⟨rfl, below_fr hf (fun _ e => e)⟩)
/-- Numbers as they came in. -/
def IntsAt (w : World) (a : Option Addr) (L : List Int) : Prop := ∀ k (h : k < L.length), ∃ g o, a = some ⟨g, o, none⟩ ∧ w.cell? ⟨g, o + k, none⟩ = some (.int .i64 L[k])
theorem IntsAt.kept {w w' : World} {a : Option Addr} {L : List Int} (h : IntsAt w a L) (hb : Below w.heap.size w w') : IntsAt w' a L := fun i hi => by
  obtain ⟨g, o, e, h1⟩ := h i hi
  exact ⟨g, o, e, cell_kept hb h1⟩
set_option maxHeartbeats 1000000 in
theorem lweight_any {w : World} {a : Option Addr} {ws : List Int} (h : IntsAt w a ws) (n cap : Nat) (hn : ws.length = n) (hf : n ≤ 17592186044416) (i : Int) (hi : 0 ≤ i) :
    Calls Try.prog 13 #[.slice a n cap, .int .i64 i] w fun e w' => e = .returned (.int .i64 (wgt ws i)) ∧ w' = w := by
  unfold wgt
  rw [hn]
  have hfi : (n : Int) ≤ 17592186044416 := by omega
  by_cases hl : (n : Int) ≤ i
  · rw [if_pos hl]
    clear h
    go_enter Try.func13, Try.ntmps13
    go_wp2
    go_ret
    exact ⟨rfl, rfl⟩
  · rw [if_neg hl]
    obtain ⟨k, rfl⟩ : ∃ k : Nat, i = k := ⟨i.toNat, by omega⟩
    have hk : k < ws.length := by omega
    obtain ⟨g, o, rfl, q0⟩ := h k hk
    have hx : ws[(k : Int).toNat]?.getD 0 = ws[k] := by simp [hk]
    rw [hx]
    generalize ws[k] = x at *
    have hk2 : (k : Int) < n := by omega
    clear h hx hk
    go_enter Try.func13, Try.ntmps13
    go_wp2
    go_ret
    exact ⟨rfl, rfl⟩
abbrev pvA : Pv := ⟨true, false, false, 0, 5, 0, false, ⟨0, 0, false, ⟨none, 0, 0⟩, false⟩⟩
abbrev reps (n : Nat) : List Pv := List.replicate n pvA
theorem reps_rdy (n : Nat) (hn : 0 < n) : ∀ i, i < n → rdy (reps n) (pth (reps n) i) = true := by
  intro i hi
  have h1 : pth (reps n) i = pvA := by rw [pth_eq (by simpa using hi)]; simp
  rw [h1]
  have h2 : oth (reps n) = true := by
    unfold oth
    rw [List.any_eq_true]
    exact ⟨pvA, by simp; omega, rfl⟩
  show (pvA.call (oth (reps n)) && pvA.room) = true
  rw [h2]; rfl
theorem reps_any (n : Nat) (hn : 0 < n) : (reps n).any (rdy (reps n)) = true := by
  rw [List.any_eq_true]
  refine ⟨pvA, by simp; omega, ?_⟩
  have := reps_rdy n hn 0 hn
  rwa [pth_eq (by simpa using hn), List.getElem_replicate] at this
/-- The law's own count. -/
theorem reps_turn (ws : List Int) (n : Nat) (hn : 0 < n) (t l : Int) (h0 : 0 ≤ t) (h1 : t < n) (hl : 0 ≤ l) :
    Turns ws (rdy (reps n)) (reps n) t l (if l = 0 then (t + 1) % n else t) (if l = 0 then wgt ws ((t + 1) % n) else l) := by
  have hlen : (reps n).length = n := by simp
  have st : ∀ t l : Int, 0 ≤ t → t < n → 0 < l → stay (rdy (reps n)) (reps n) t l = true := by
    intro t l a b c
    unfold stay
    rw [hlen, reps_rdy n hn t.toNat (by omega)]
    simp [b, c]
  by_cases h : l = 0
  · rw [if_pos h, if_pos h]
    have e : nxt n t = (t + 1) % n := by
      unfold nxt
      by_cases c : (n : Int) ≤ t + 1
      · rw [if_pos c, show t + 1 = (n : Int) by omega, Int.emod_self]
      · rw [if_neg c, Int.emod_eq_of_lt (by omega) (by omega)]
    have hb := nxt_bd (n := n) h0 hn
    refine .step ?_ ?_
    · unfold stay; rw [h]; simp
    · rw [hlen, ← e]
      have hw := wgt_bd ws (nxt n t)
      exact .stop (st _ _ hb.1 hb.2 (by omega))
  · rw [if_neg h, if_neg h]
    exact .stop (st t l h0 h1 (by omega))
end Go.Proofs.Ytdbdiebgjnofgaa
