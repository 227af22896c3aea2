import Derived.Test.YtnohammflhadpaaSb37
namespace Go.Proofs.Ytnohammflhadpaa
open Go.RowKit Go.Maps Go.Sort
set_option maxRecDepth 100000

/-- What a chunk is of a text that begins at an offset. -/
def TriAt (base : Int) (all : List (BitVec 8)) (x : Int × List (BitVec 8) × Bool) : Prop := base ≤ x.1 ∧ x.1 + x.2.1.length ≤ base + all.length ∧ x.2.1 = (all.drop (x.1 - base).toNat).take x.2.1.length ∧ x.2.2 = decide (x.2.1 = [])
/-- The chunks that a Write cuts are its bytes at their places. -/
theorem cutCks_at (m g : Nat) (hm : 1 ≤ m) : ∀ (t o : Nat) (e : Int) (bs : List (BitVec 8)), ∀ x ∈ (cutCks m g t o e bs).map Ck.tri, TriAt e bs x
  | 0, o, e, bs, x, h => by simp [cutCks] at h
  | t + 1, o, e, bs, x, h => by
    by_cases hb : bs = []
    · subst hb
      simp [cutCks] at h
    · have hp : 0 < bs.length := List.length_pos_iff.2 hb
      rw [cutCks, if_neg hb, List.map_cons] at h
      rcases List.mem_cons.1 h with rfl | h
      · have hne : bs.take m ≠ [] := fun e => by
          have := congrArg List.length e
          rw [List.length_take, List.length_nil] at this
          omega
        refine ⟨Int.le_refl _, ?_, ?_, ?_⟩
        · show e + ((bs.take m).length : Int) ≤ e + bs.length
          rw [List.length_take]
          omega
        · show bs.take m = (bs.drop (e - e).toNat).take (bs.take m).length
          rw [Int.sub_self, Int.toNat_zero, List.drop_zero, List.length_take]
          rw [List.take_eq_take_min]
        · show false = decide (bs.take m = [])
          rw [decide_eq_false hne]
      · obtain ⟨h1, h2, h3, h4⟩ := cutCks_at m g hm t _ _ (bs.drop m) x h
        have hl : ((bs.take m).length : Int) = min (m : Int) bs.length := by rw [List.length_take]; omega
        have hd : ((bs.drop m).length : Int) = max 0 ((bs.length : Int) - m) := by rw [List.length_drop]; omega
        by_cases hmb : bs.length ≤ m
        · have hnil : bs.drop m = [] := List.drop_eq_nil_of_le hmb
          rw [hnil] at h
          cases t <;> simp [cutCks] at h
        · refine ⟨by omega, by omega, ?_, h4⟩
          have e1 : m + (x.1 - (e + ((bs.take m).length : Int))).toNat = (x.1 - e).toNat := by omega
          rw [List.drop_drop, e1] at h3
          exact h3
/-- All chunks of a stream are its text's. -/
def TriOk (base : Int) (all : List (BitVec 8)) (T : List (Int × List (BitVec 8) × Bool)) : Prop := ∀ x ∈ T, TriAt base all x
theorem TriAt.more {base : Int} {all : List (BitVec 8)} {x : Int × List (BitVec 8) × Bool} (h : TriAt base all x) (bs : List (BitVec 8)) : TriAt base (all ++ bs) x := by
  obtain ⟨h1, h2, h3, h4⟩ := h
  refine ⟨h1, by rw [List.length_append]; omega, ?_, h4⟩
  have hk : (x.1 - base).toNat + x.2.1.length ≤ all.length := by omega
  rw [List.drop_append_of_le_length (by omega), List.take_append_of_le_length (by rw [List.length_drop]; omega)]
  exact h3
theorem TriAt.shift {base e : Int} {all bs : List (BitVec 8)} {x : Int × List (BitVec 8) × Bool} (he : e = base + all.length) (h : TriAt e bs x) : TriAt base (all ++ bs) x := by
  obtain ⟨h1, h2, h3, h4⟩ := h
  refine ⟨by omega, by rw [List.length_append]; omega, ?_, h4⟩
  have hk : (x.1 - base).toNat = all.length + (x.1 - e).toNat := by omega
  rw [hk, List.drop_append, List.drop_eq_nil_of_le (by omega : all.length ≤ all.length + (x.1 - e).toNat), List.nil_append, Nat.add_sub_cancel_left]
  exact h3
theorem TriOk.drop {base : Int} {all : List (BitVec 8)} {T : List (Int × List (BitVec 8) × Bool)} (h : TriOk base all T) (n : Nat) : TriOk base all (T.drop n) := fun x hx => h x (List.mem_of_mem_drop hx)
theorem TriOk.close {base : Int} {all : List (BitVec 8)} {T : List (Int × List (BitVec 8) × Bool)} (h : TriOk base all T) {e : Int} (he : e = base + all.length) : TriOk base all (T ++ [(e, [], true)]) := fun x hx => by
  rcases List.mem_append.1 hx with hx | hx
  · exact h x hx
  · simp only [List.mem_singleton] at hx
    subst hx
    exact ⟨by show base ≤ e; omega, by show e + ((0 : Nat) : Int) ≤ _; omega, rfl, rfl⟩
theorem TriOk.pg {base : Int} {all : List (BitVec 8)} {F F' : Sb} (h : TriOk base all F.tri) (he : F.end_ = base + all.length) (k : Pg F F') : TriOk base all F'.tri := by
  rcases k.tri with ⟨_, n, e⟩ | ⟨_, _, e⟩
  · rw [e]; exact h.drop n
  · rw [e]; exact h.close he
/-- What a Write leaves that took so many bytes, each at its place. -/
structure Wk (F F' : Sb) (bs : List (BitVec 8)) (n : Nat) : Prop where
  room : F'.room = F.room
  mss : F'.mss = F.mss
  closed : F'.closed = F.closed
  acked : F'.acked = F.acked
  end_ : F'.end_ = F.end_ + n
  gs : F'.Gs
  tri : ∃ T, F'.tri = F.tri ++ T ∧ TriOk F.end_ (bs.take n) T
def WkAns (w : World) (p : Nat) (F : Sb) (S : Nat → Prop) (bs : List (BitVec 8)) (n : Nat) (w' : World) : Prop := ∃ F', Bf w' p F' (grew S w w') ∧ Fr S w w' ∧ Wk F F' bs n
theorem write_K {w : World} {p : Nat} {F : Sb} {S : Nat → Prop} (h : Bf w p F S) (hg : F.Gs) {ax : Option Addr} {bs : List (BitVec 8)} (hB : BytesAt w ax bs) (N capx : Nat) (hN : bs.length = N) (hcx : N ≤ capx) (hNm : N ≤ 140737488355328) (hz : ax = none → capx = 0) (n : Nat) (hn : F.takesG N = n) :
    Calls Try.prog 11 #[.pointer (some ⟨p, 0, none⟩), .slice ax N capx] w fun e w' => e = .returned (.int .i64 n) ∧ WkAns w p F S bs n w' := by
  have hnone : ∀ w', Below w.heap.size w w' → WkAns w p F S bs 0 w' := fun w' hb =>
    ⟨F, (h.kept hb).wider (fun _ hx => .inl hx) (grew_lt h.lt hb.size), Fr.of_below hb (Nat.le_refl _), ⟨rfl, rfl, rfl, rfl, by simp, hg, [], by simp, fun x hx => by simp at hx⟩⟩
  unfold Sb.takesG at hn
  by_cases hc : F.closed = true
  · rw [if_pos hc] at hn
    subst hn
    have h' := h
    obtain ⟨a, cap, hA⟩ := h'
    refine (write_no hA.sb.r hc _).mono ?_
    rintro e w' ⟨rfl, rfl⟩
    exact ⟨rfl, hnone _ (Below.refl _ _)⟩
  · rw [if_neg hc] at hn
    have hc : F.closed = false := by simpa using hc
    have ha := hg.opn hc
    have hnN : n ≤ N := by unfold Sb.takes at hn; omega
    obtain ⟨a, cap, h⟩ := h
    refine (write_yes h.sb hc ha hB N capx hN hcx hNm hz (fun d hd g o e => h.lt g (h.sy d hd g o e)) (fun g o e => h.lt g (h.sa g o e)) n hn).mono ?_
    rintro e w' ⟨rfl, hA⟩
    refine ⟨rfl, ?_⟩
    rcases hA with ⟨rfl, hb⟩ | ⟨w1, m, g, t, a', cap', hn0, hb1, hm, hg', ht, hC⟩
    · exact hnone w' hb
    · have hm0 : 1 ≤ m := by have := h.sb.r.ok.m0; omega
      have hbl : (bs.take n).length = n := by rw [List.length_take]; omega
      have hsz := hb1.size
      have hfs := hC.fr.size
      have hee : (F.cutT m g 0 (bs.take n) t).end_ = F.end_ + n := by
        show F.end_ + _ = _
        rw [hbl]
        have : min (t * m) n = n := by omega
        rw [this]
      refine ⟨_, ⟨a', cap', hC.sb, .inl h.sp, fun g' o' e => ?_, fun c hc' g' o' e => ?_, grew_lt h.lt (Nat.le_trans hsz hfs)⟩, ?_, ⟨rfl, rfl, rfl, rfl, hee, ⟨fun c1 => ?_, fun _ => ?_⟩, _, ?_, cutCks_at m g hm0 t 0 F.end_ (bs.take n)⟩⟩
      · rcases hC.ap g' o' e with ⟨o, e'⟩ | e'
        · exact .inl (h.sa g' o e')
        · refine .inr ⟨by omega, ?_⟩
          rcases hC.sb.own with e2 | ⟨g2, o2, arr, e2, hg2, _⟩
          · have hlc : (F.L ++ cutCks m g t 0 F.end_ (bs.take n)).length ≤ cap' := hC.sb.r.lc
            have hpr := congrArg List.length (cutCks_prs m g hm0 t 0 F.end_ (bs.take n) (by omega))
            rw [hbl, cutA_step hm0 _ hn0, List.length_map, List.length_cons] at hpr
            rw [List.length_append] at hlc
            omega
          · rw [e] at e2
            cases e2
            exact (Array.getElem?_eq_some_iff.1 hg2).1
      · have hc2 : c ∈ F.L ++ cutCks m g t 0 F.end_ (bs.take n) := hc'
        rcases List.mem_append.1 hc2 with h1 | h1
        · exact .inl (h.sy c h1 g' o' e)
        · obtain ⟨o2, e2⟩ := cutCks_a m g t _ _ _ c h1
          have hl := hC.lt c hc' g' o' e
          rw [e] at e2
          cases e2
          exact .inr ⟨hg', by omega⟩
      · exact ((Fr.of_below (S := S) hb1 (Nat.le_refl _)).trans hC.fr (fun x hx => by
          rcases hx with rfl | ⟨o, e⟩
          · exact .inl h.sp
          · exact .inl (h.sa x o e)))
      · have c1' : F.closed = true := c1
        rw [hc] at c1'
        cases c1'
      · rw [hee]
        show F.acked ≤ _
        omega
      · show (F.L ++ _).map _ = F.L.map _ ++ _
        rw [List.map_append]
theorem TriOk.wk {base : Int} {all bs : List (BitVec 8)} {n : Nat} {F F' : Sb} (h : TriOk base all F.tri) (he : F.end_ = base + all.length) (k : Wk F F' bs n) : TriOk base (all ++ bs.take n) F'.tri := by
  obtain ⟨T, e, hT⟩ := k.tri
  rw [e]
  intro x hx
  rcases List.mem_append.1 hx with hx | hx
  · exact (h x hx).more _
  · exact (hT x hx).shift he
end Go.Proofs.Ytnohammflhadpaa
