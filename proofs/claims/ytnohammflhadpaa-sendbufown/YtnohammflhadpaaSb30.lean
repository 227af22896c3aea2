import Derived.Test.YtnohammflhadpaaSb29
namespace Go.Proofs.Ytnohammflhadpaa
open Go.RowKit Go.Maps Go.Sort
set_option maxRecDepth 100000

/-- Where so many bytes are cut. -/
def cutP (m : Nat) : Nat → Int → Nat → List (Int × Nat)
  | 0, _, _ => []
  | t + 1, e, n => if n = 0 then [] else (e, min m n) :: cutP m t (e + (min m n : Nat)) (n - m)
theorem cutP_zero (m : Nat) : ∀ (t : Nat) (e : Int), cutP m t e 0 = []
  | 0, _ => rfl
  | t + 1, e => by simp [cutP]
theorem cutP_fuel (m : Nat) (hm : 1 ≤ m) : ∀ (t s : Nat) (e : Int) (n : Nat), n ≤ t → n ≤ s → cutP m t e n = cutP m s e n
  | 0, s, e, n, h, _ => by obtain rfl : n = 0 := by omega
                           rw [cutP_zero, cutP_zero]
  | t + 1, 0, e, n, _, h => by obtain rfl : n = 0 := by omega
                               rw [cutP_zero, cutP_zero]
  | t + 1, s + 1, e, n, h1, h2 => by
    unfold cutP
    by_cases h : n = 0
    · rw [if_pos h, if_pos h]
    · rw [if_neg h, if_neg h, cutP_fuel m hm t s _ _ (by omega) (by omega)]
def cutA (m : Nat) (e : Int) (n : Nat) : List (Int × Nat) := cutP m n e n
theorem cutA_zero (m : Nat) (e : Int) : cutA m e 0 = [] := rfl
theorem cutA_step {m : Nat} (hm : 1 ≤ m) (e : Int) {n : Nat} (hn : 0 < n) : cutA m e n = (e, min m n) :: cutA m (e + (m : Int)) (n - m) := by
  obtain ⟨k, rfl⟩ : ∃ k, n = k + 1 := ⟨n - 1, by omega⟩
  unfold cutA
  rw [cutP, if_neg (by omega)]
  congr 1
  by_cases h : k + 1 ≤ m
  · have e0 : k + 1 - m = 0 := by omega
    rw [e0, cutP_zero, cutP_zero]
  · have e1 : min m (k + 1) = m := by omega
    rw [e1]
    exact cutP_fuel m hm _ _ _ _ (by omega) (by omega)
theorem cutCks_prs (m g : Nat) (hm : 1 ≤ m) : ∀ (t o : Nat) (e : Int) (bs : List (BitVec 8)), bs.length ≤ t * m → (cutCks m g t o e bs).map (fun c => (c.off, c.bs.length)) = cutA m e bs.length
  | 0, o, e, bs, h => by
    have : bs = [] := List.eq_nil_of_length_eq_zero (by simpa using h)
    subst this
    rfl
  | t + 1, o, e, bs, h => by
    by_cases hb : bs = []
    · subst hb
      simp [cutCks, cutA_zero]
    · have hp : 0 < bs.length := List.length_pos_iff.2 hb
      have ih := cutCks_prs m g hm t (o + (bs.take m).length) (e + (bs.take m).length) (bs.drop m) (by rw [Nat.succ_mul] at h; simp; omega)
      rw [cutCks, if_neg hb, List.map_cons, ih, cutA_step hm e hp]
      simp only [List.length_drop, List.length_take]
      show (e, (bs.take m).length) :: _ = _
      rw [List.length_take]
      congr 1
      by_cases h2 : bs.length ≤ m
      · have e0 : bs.length - m = 0 := by omega
        rw [e0, cutA_zero, cutA_zero]
      · have e1 : min m bs.length = m := by omega
        rw [e1]
theorem cutCks_a (m g : Nat) : ∀ (t o : Nat) (e : Int) (bs : List (BitVec 8)) (c : Ck), c ∈ cutCks m g t o e bs → ∃ o', c.a = some ⟨g, o', none⟩
  | 0, _, _, _, _, h => by simp [cutCks] at h
  | t + 1, o, e, bs, c, h => by
    rw [cutCks] at h
    split at h
    · simp at h
    · rcases List.mem_cons.1 h with rfl | h
      · exact ⟨o, rfl⟩
      · exact cutCks_a m g t _ _ _ c h
/-- What an open stream is behind a Write that took n bytes. -/
structure WrL (F F' : Sb) (n : Nat) : Prop where
  room : F'.room = F.room
  mss : F'.mss = F.mss
  closed : F'.closed = F.closed
  acked : F'.acked = F.acked
  end_ : F'.end_ = F.end_ + n
  prs : F'.prs = F.prs ++ cutA F.mss.toNat F.end_ n
def WrAns (w : World) (p : Nat) (F : Sb) (S : Nat → Prop) (n : Nat) (w' : World) : Prop := ∃ F', Bf w' p F' (grew S w w') ∧ Fr S w w' ∧ WrL F F' n
theorem write_B {w : World} {p : Nat} {F : Sb} {S : Nat → Prop} (h : Bf w p F S) (hc : F.closed = false) (ha : F.acked ≤ F.end_) {ax : Option Addr} {bs : List (BitVec 8)} (hB : BytesAt w ax bs) (N capx : Nat) (hN : bs.length = N) (hcx : N ≤ capx) (hNm : N ≤ 140737488355328) (hz : ax = none → capx = 0) (n : Nat) (hn : F.takes N = n) :
    Calls Try.prog 11 #[.pointer (some ⟨p, 0, none⟩), .slice ax N capx] w fun e w' => e = .returned (.int .i64 n) ∧ WrAns w p F S n w' := by
  obtain ⟨a, cap, h⟩ := h
  have hnN : n ≤ N := by unfold Sb.takes at hn; omega
  refine (write_yes h.sb hc ha hB N capx hN hcx hNm hz (fun d hd g o e => h.lt g (h.sy d hd g o e)) (fun g o e => h.lt g (h.sa g o e)) n hn).mono ?_
  rintro e w' ⟨rfl, hA⟩
  refine ⟨rfl, ?_⟩
  rcases hA with ⟨rfl, hb⟩ | ⟨w1, m, g, t, a', cap', hn0, hb1, hm, hg, ht, hC⟩
  · refine ⟨F, (Bf.kept ⟨a, cap, h⟩ hb).wider (fun _ hx => .inl hx) (grew_lt h.lt hb.size), Fr.of_below hb (Nat.le_refl _), ⟨rfl, rfl, rfl, rfl, by simp, by rw [cutA_zero, List.append_nil]⟩⟩
  · have hm0 : 1 ≤ m := by have := h.sb.r.ok.m0; omega
    have hbl : (bs.take n).length = n := by rw [List.length_take]; omega
    have hsz := hb1.size
    have hfs := hC.fr.size
    refine ⟨_, ⟨a', cap', hC.sb, .inl h.sp, fun g' o' e => ?_, fun c hc' g' o' e => ?_, grew_lt h.lt (Nat.le_trans hsz hfs)⟩, ?_, ⟨rfl, rfl, rfl, rfl, ?_, ?_⟩⟩
    · rcases hC.ap g' o' e with ⟨o, e'⟩ | e'
      · exact .inl (h.sa g' o e')
      · refine .inr ⟨by omega, ?_⟩
        rcases hC.sb.own with e2 | ⟨g2, o2, arr, e2, hg2, _⟩
        · have hlc : (F.L ++ cutCks m g t 0 F.end_ (bs.take n)).length ≤ cap' := hC.sb.r.lc
          have hpr := congrArg List.length (cutCks_prs m g hm0 t 0 F.end_ (bs.take n) (by omega))
          rw [hbl, cutA_step hm0 _ hn0, List.length_map, List.length_cons] at hpr
          rw [List.length_append] at hlc
          omega
        · rw [e] at e2
          cases e2
          exact (Array.getElem?_eq_some_iff.1 hg2).1
    · have hc2 : c ∈ F.L ++ cutCks m g t 0 F.end_ (bs.take n) := hc'
      rcases List.mem_append.1 hc2 with h1 | h1
      · exact .inl (h.sy c h1 g' o' e)
      · obtain ⟨o2, e2⟩ := cutCks_a m g t _ _ _ c h1
        have hl := hC.lt c hc' g' o' e
        rw [e] at e2
        cases e2
        exact .inr ⟨hg, by omega⟩
    · exact ((Fr.of_below (S := S) hb1 (Nat.le_refl _)).trans hC.fr (fun x hx => by
        rcases hx with rfl | ⟨o, e⟩
        · exact .inl h.sp
        · exact .inl (h.sa x o e)))
    · show F.end_ + _ = _
      rw [hbl]
      have : min (t * m) n = n := by omega
      rw [this]
    · show (F.L ++ _).map _ = _
      rw [List.map_append, cutCks_prs m g hm0 t 0 F.end_ (bs.take n) (by omega), hbl, hm]
      rfl
end Go.Proofs.Ytnohammflhadpaa
