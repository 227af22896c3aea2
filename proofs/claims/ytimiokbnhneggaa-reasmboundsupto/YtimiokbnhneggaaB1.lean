import Derived.Test.YtimiokbnhneggaaS2b
import Derived.Test.YtimiokbnhneggaaOpenO
import Derived.Deep.CutRange
import Derived.Deep.CutBlock
import Derived.StillTailTactics
namespace Go.Proofs.Ytimiokbnhneggaa
open Go.RowKit Go.Maps Go.Sort
set_option maxRecDepth 100000

/-- How many of m numbers from a on are not there. -/
def cntN (L : List Rg) (a : Int) : Nat → Nat
  | 0 => 0
  | m + 1 => cntN L a m + (if memb L (a + m) then 0 else 1)
theorem cntN_le (L : List Rg) (a : Int) : ∀ m, cntN L a m ≤ m
  | 0 => Nat.le_refl _
  | m + 1 => by have := cntN_le L a m; simp only [cntN]; split <;> omega
theorem fresh_cnt {L : List Rg} (F : Fit L) (a : Int) (h0 : 0 ≤ a) : ∀ m : Nat, a + m ≤ 18446744073709551615 → freshOf L (a, a + m) = cntN L a m
  | 0, _ => by unfold freshOf; rw [if_pos (by simp)]; rfl
  | m + 1, h => by
    have ih := fresh_cnt F a h0 m (by omega)
    have t1 := addL_total F (a, a + ((m + 1 : Nat) : Int)) h0 h
    have t2 := addL_total F (a, a + (m : Int)) h0 (by simp; omega)
    have f1 := addL_fit F (a, a + ((m + 1 : Nat) : Int)) h0 h
    have f2 := addL_fit F (a, a + (m : Int)) h0 (by simp; omega)
    simp only [cntN]
    by_cases hm : mem L (a + m)
    · rw [if_pos ((memb_iff L _).2 hm)]
      have e := total_sum f1.rise rise_nil f2.rise rise_nil (fun y => by
        have i1 : mem (addL L (a, a + ((m + 1 : Nat) : Int))) y ↔ mem (addL L (a, a + (m : Int))) y := by
          rw [addL_mem F, addL_mem F]
          simp only
          constructor
          · rintro (e | e)
            · exact .inl e
            · by_cases hy : y = a + m
              · subst hy; exact .inl hm
              · right; omega
          · rintro (e | e)
            · exact .inl e
            · right; omega
        by_cases h1 : mem (addL L (a, a + (m : Int))) y
        · rw [ind_yes h1, ind_yes (i1.2 h1)]
        · rw [ind_no h1, ind_no (fun e => h1 (i1.1 e))])
      omega
    · rw [if_neg (fun e => hm ((memb_iff L _).1 e))]
      have e := total_sum f1.rise rise_nil f2.rise (rise_one (r := (a + (m : Int), a + (m : Int) + 1)) (by simp; omega)) (fun y => by
        have h00 : ind [] y = 0 := rfl
        rw [h00]
        by_cases hy : y = a + m
        · subst hy
          have n2 : ¬ mem (addL L (a, a + (m : Int))) (a + m) := by
            rw [addL_mem F]
            simp only
            rintro (e | e)
            · exact hm e
            · omega
          have y1 : mem (addL L (a, a + ((m + 1 : Nat) : Int))) (a + m) := by rw [addL_mem F]; right; simp only; omega
          rw [ind_yes y1, ind_no n2, ind_yes (cmem_one.2 (by simp only; omega))]; rfl
        · have n1 : ¬ mem [(a + (m : Int), a + (m : Int) + 1)] y := by rw [cmem_one]; simp only; omega
          rw [ind_no n1]
          have i1 : mem (addL L (a, a + ((m + 1 : Nat) : Int))) y ↔ mem (addL L (a, a + (m : Int))) y := by
            rw [addL_mem F, addL_mem F]
            simp only
            constructor
            · rintro (e | e)
              · exact .inl e
              · right; omega
            · rintro (e | e)
              · exact .inl e
              · right; omega
          by_cases h1 : mem (addL L (a, a + (m : Int))) y
          · rw [ind_yes h1, ind_yes (i1.2 h1)]
          · rw [ind_no h1, ind_no (fun e => h1 (i1.1 e))])
      simp only [total] at e
      omega
/-- What the law's books say: which numbers have come, and what the first one told of them. -/
structure FstI (n : Nat) (F : Bf) (f : Int → BitVec 8) (h : Nat → Bool) (g : Nat → BitVec 8) (i : Nat) : Prop where
  bs : F.base = 0
  rd : F.read = 0
  rm : F.room = (n : Int) + 1
  gp : F.gaps = 64
  en : F.ends = false
  few : F.L.length ≤ i
  inn : ∀ x, mem F.L x → 0 ≤ x ∧ x < n
  has : ∀ x : Nat, h x = memb F.L x
  wnt : ∀ x : Nat, memb F.L x = true → g x = f x
/-- Within a piece of which the first j bytes are booked. -/
structure FstJ (L : List Rg) (f : Int → BitVec 8) (h0 h : Nat → Bool) (g : Nat → BitVec 8) (d : List (BitVec 8)) (fr j : Nat) : Prop where
  has : ∀ x : Nat, h x = (memb L x || (decide (fr ≤ x) && decide (x < fr + j)))
  old : ∀ x : Nat, memb L x = true → g x = f x
  new : ∀ x : Nat, memb L x = false → fr ≤ x → x < fr + j → some (g x) = d[x - fr]?
theorem FstI.take {n : Nat} {F : Bf} {f : Int → BitVec 8} {h : Nat → Bool} {g : Nat → BitVec 8} {i : Nat} (I : FstI n F f h g i) (ok : F.Ok) (hi : i < 60) {fr ln : Nat} (hl : fr + ln ≤ n) (hn : n ≤ 1073741823) :
    (ln ≠ 0 → F.refuses fr ln = 0 ∧ F.tkn fr ln = cntN F.L fr ln) ∧ (ln = 0 → F.refuses fr ln = 82 ∧ F.tkn fr ln = 0) := by
  refine ⟨fun hz => ?_, fun hz => ?_⟩
  · have he : F.edge = (n : Int) + 1 := by unfold Bf.edge; rw [I.rd, I.rm]; omega
    have hc : F.crowds fr ln = false := by
      unfold Bf.crowds
      split
      · rfl
      · have h1 := addL_length ok.fit ((fr : Int), (fr : Int) + ln)
        have h2 := I.few
        have h3 := I.gp
        simp only [decide_eq_false_iff_not]
        split <;> omega
    have hr : F.refuses fr ln = 0 := by
      unfold Bf.refuses
      rw [if_neg (by omega), if_neg (by omega), if_neg (by rw [I.en]; simp), if_neg (by rw [hc]; simp)]
    refine ⟨hr, ?_⟩
    unfold Bf.tkn
    rw [if_pos hr]
    have e : F.rg fr ln = ((fr : Int), (fr : Int) + ln) := by unfold Bf.rg; rw [I.rd]; simp
    rw [e]
    exact fresh_cnt ok.fit fr (by omega) ln (by omega)
  · have hr : F.refuses fr ln = 82 := by unfold Bf.refuses; rw [if_pos (by omega)]
    refine ⟨hr, ?_⟩
    unfold Bf.tkn
    rw [hr, if_neg (by decide)]
/-- Behind a whole piece. -/
theorem FstI.next {n : Nat} {F : Bf} {f : Int → BitVec 8} {h0 h : Nat → Bool} {g0 g : Nat → BitVec 8} {i : Nat} (I : FstI n F f h0 g0 i) (ok : F.Ok) {fr ln : Nat} (hl : fr + ln ≤ n) {d : List (BitVec 8)} (hd : d.length = ln) (hr : ln ≠ 0 → F.refuses fr ln = 0) (hr' : ln = 0 → F.refuses fr ln = 82) (J : FstJ F.L f h0 h g d fr ln) :
    FstI n (F.tk fr ln) (F.tkf f fr d) h g (i + 1) := by
  by_cases hz : ln = 0
  · have h1 := hr' hz
    have e1 : F.tk fr ln = F := by unfold Bf.tk; rw [h1, if_neg (by decide)]
    have e2 : F.tkf f fr d = f := by unfold Bf.tkf; rw [hd, h1, if_neg (by decide)]
    rw [e1, e2]
    refine ⟨I.bs, I.rd, I.rm, I.gp, I.en, by have := I.few; omega, I.inn, fun x => ?_, J.old⟩
    rw [J.has, show (decide (fr ≤ x) && decide (x < fr + ln)) = false by subst hz; simp, Bool.or_false]
  · have h1 := hr hz
    have e1 : F.tk fr ln = F.took fr ln := by unfold Bf.tk; rw [if_pos h1]
    have e2 : F.tkf f fr d = F.new f fr d := by unfold Bf.tkf; rw [hd, if_pos h1]
    have e3 : (F.took fr ln).L = addL F.L ((fr : Int), (fr : Int) + ln) := by unfold Bf.took Bf.rg; rw [I.rd]; simp
    rw [e1, e2]
    have hm : ∀ y : Int, mem (F.took fr ln).L y ↔ mem F.L y ∨ ((fr : Int) ≤ y ∧ y < (fr : Int) + ln) := fun y => by rw [e3]; exact addL_mem ok.fit _ y
    refine ⟨I.bs, I.rd, I.rm, I.gp, I.en, ?_, fun x hx => ?_, fun x => ?_, fun x hx => ?_⟩
    · rw [e3]
      have := addL_length ok.fit ((fr : Int), (fr : Int) + ln)
      have := I.few
      omega
    · rcases (hm x).1 hx with e | e
      · exact I.inn x e
      · omega
    · rw [J.has, Bool.eq_iff_iff, memb_iff, hm, Bool.or_eq_true, memb_iff, Bool.and_eq_true, decide_eq_true_eq, decide_eq_true_eq]
      constructor
      · rintro (e | e)
        · exact .inl e
        · right; omega
      · rintro (e | e)
        · exact .inl e
        · right; omega
    · rw [memb_iff, hm] at hx
      unfold Bf.new
      by_cases hmm : mem F.L x
      · rw [if_pos ((gap_iff ok.fit x).2 hmm)]
        exact J.old x ((memb_iff _ _).2 hmm)
      · rw [if_neg (fun e => hmm ((gap_iff ok.fit x).1 e))]
        rcases hx with e | e
        · exact absurd e hmm
        · have hb : memb F.L x = false := by rw [← Bool.not_eq_true, memb_iff]; exact hmm
          have h2 := J.new x hb (by omega) (by omega)
          rw [show ((x : Int) - fr).toNat = x - fr by omega, ← h2]
          rfl
theorem FstI.start {n : Nat} {F : Bf} {f : Int → BitVec 8} {h : Nat → Bool} {g : Nat → BitVec 8} {i : Nat} (I : FstI n F f h g i) (d : List (BitVec 8)) (fr : Nat) : FstJ F.L f h h g d fr 0 :=
  ⟨fun x => by rw [I.has, show (decide (fr ≤ x) && decide (x < fr + 0)) = false by simp, Bool.or_false], I.wnt, fun x _ h1 h2 => by omega⟩
def upB (h : Nat → Bool) (x : Nat) : Nat → Bool := fun y => if y = x then true else h y
def upW (g : Nat → BitVec 8) (x : Nat) (c : BitVec 8) : Nat → BitVec 8 := fun y => if y = x then c else g y
theorem FstJ.skip {L : List Rg} {f : Int → BitVec 8} {h0 h : Nat → Bool} {g : Nat → BitVec 8} {d : List (BitVec 8)} {fr j : Nat} (J : FstJ L f h0 h g d fr j) (hh : h (fr + j) = true) : memb L ((fr : Int) + (j : Int)) = true ∧ FstJ L f h0 h g d fr (j + 1) := by
  have h1 := J.has (fr + j)
  rw [hh, show (decide (fr ≤ fr + j) && decide (fr + j < fr + j)) = false by simp, Bool.or_false] at h1
  have h2 : memb L ((fr + j : Nat) : Int) = true := h1.symm
  refine ⟨by rw [← h2]; congr 1, fun x => ?_, J.old, fun x hx h3 h4 => ?_⟩
  · rw [J.has]
    by_cases e : x = fr + j
    · subst e; rw [h2]; simp
    · congr 2
      simp only [decide_eq_decide]
      omega
  · have : x ≠ fr + j := fun e => by subst e; rw [h2] at hx; cases hx
    exact J.new x hx h3 (by omega)
theorem FstJ.put {L : List Rg} {f : Int → BitVec 8} {h0 h : Nat → Bool} {g : Nat → BitVec 8} {d : List (BitVec 8)} {fr j : Nat} (J : FstJ L f h0 h g d fr j) (hh : h (fr + j) = false) (c : BitVec 8) (hc : d[j]? = some c) : memb L ((fr : Int) + (j : Int)) = false ∧ FstJ L f h0 (upB h (fr + j)) (upW g (fr + j) c) d fr (j + 1) := by
  have h1 := J.has (fr + j)
  rw [hh, show (decide (fr ≤ fr + j) && decide (fr + j < fr + j)) = false by simp, Bool.or_false] at h1
  have h2 : memb L ((fr + j : Nat) : Int) = false := h1.symm
  refine ⟨by rw [← h2]; congr 1, fun x => ?_, fun x hx => ?_, fun x hx h3 h4 => ?_⟩
  · unfold upB
    by_cases e : x = fr + j
    · subst e; simp
    · rw [if_neg e, J.has]
      congr 2
      simp only [decide_eq_decide]
      omega
  · have : x ≠ fr + j := fun e => by subst e; rw [h2] at hx; cases hx
    unfold upW
    rw [if_neg this]
    exact J.old x hx
  · unfold upW
    by_cases e : x = fr + j
    · subst e; rw [if_pos rfl, Nat.add_sub_cancel_left, hc]
    · rw [if_neg e]; exact J.new x hx h3 (by omega)
/-- What Read gives at the end: all up to the first number that has not come. -/
theorem FstI.read {n : Nat} {F : Bf} {f : Int → BitVec 8} {h : Nat → Bool} {g : Nat → BitVec 8} {i : Nat} (I : FstI n F f h g i) (ok : F.Ok) {k : Nat} (hk : ∀ x, x < k → h x = true) (hkn : k ≤ n) (hke : k = n ∨ h k = false) :
    F.rdB f ((n : Int) + 5) = (List.range k).map g ∧ (decide (F.gap = F.read) && F.done) = false := by
  have hg : F.gap = k := by
    obtain ⟨g1, g2, _⟩ := gap_edge ok
    have hrd := I.rd
    have n1 : ¬ mem F.L F.gap := gap_not ok.fit F.read
    have a1 : ∀ y : Int, 0 ≤ y → y < F.gap → mem F.L y := fun y h0 h1 => gap_all ok.fit F.read y (by omega) h1
    have hgn : F.gap ≤ n := by
      by_cases e : F.gap = 0
      · omega
      · have := (I.inn _ (a1 (F.gap - 1) (by omega) (by omega))).2; omega
    by_cases h1 : F.gap < k
    · have h2 := hk F.gap.toNat (by omega)
      rw [I.has, memb_iff, show (F.gap.toNat : Int) = F.gap by omega] at h2
      exact absurd h2 n1
    · by_cases h3 : (k : Int) < F.gap
      · have h4 := a1 k (by omega) h3
        rcases hke with e | e
        · omega
        · rw [I.has, ← Bool.not_eq_true, memb_iff] at e
          exact absurd h4 e
      · omega
  refine ⟨?_, by unfold Bf.done; rw [I.en]; simp⟩
  unfold Bf.rdB
  by_cases hz : F.gap = F.read
  · rw [if_pos (.inr hz)]
    have : k = 0 := by have := I.rd; omega
    subst this
    rfl
  · rw [if_neg (by omega)]
    have hc : F.cnt ((n : Int) + 5) = k := by unfold Bf.cnt; rw [hg, I.rd]; omega
    rw [hc, I.rd]
    unfold bytesFrom
    apply List.map_congr_left
    intro x hx
    have hx' : x < k := by simpa using hx
    have := hk x hx'
    rw [I.has] at this
    rw [I.wnt x this]
    congr 1
    omega
theorem range_set {α : Type} (n : Nat) (g : Nat → α) (x : Nat) (c : α) : ((List.range n).map g).set x c = (List.range n).map (fun y => if y = x then c else g y) := by
  apply List.ext_getElem
  · simp
  · intro i h1 h2
    simp only [List.getElem_set, List.getElem_map, List.getElem_range]
    by_cases e : x = i
    · subst e; simp
    · rw [if_neg e, if_neg (fun e' => e e'.symm)]
end Go.Proofs.Ytimiokbnhneggaa
namespace Go.Proofs.Ytimiokbnhneggaa
open Go.RowKit Go.Maps Go.Sort
set_option maxRecDepth 100000

/-- What the law knows of the buffer. -/
structure BdI (base C G : Int) (F : Bf) (i : Nat) : Prop where
  bs : F.base = base
  rm : F.room = C
  gp : F.gaps = G
  sm : F.read + total F.L ≤ base + i * 1048576
theorem fresh_bd {L : List Rg} (F : Fit L) (r : Rg) (h0 : 0 ≤ r.1) (h1 : r.2 ≤ 18446744073709551615) : 0 ≤ freshOf L r ∧ freshOf L r ≤ max 0 (r.2 - r.1) := by
  by_cases hr : r.2 ≤ r.1
  · unfold freshOf; rw [if_pos hr]; omega
  · obtain ⟨m, hm⟩ : ∃ m : Nat, r.2 = r.1 + m := ⟨(r.2 - r.1).toNat, by omega⟩
    have e := fresh_cnt F r.1 h0 m (by omega)
    have e2 : r = (r.1, r.1 + (m : Int)) := by rw [← hm]
    rw [← e2] at e
    have := cntN_le L r.1 m
    omega
theorem gap_grow {F F' : Bf} (k : F.Ok) (k' : F'.Ok) (hr : F'.read = F.read) (hm : ∀ y, mem F.L y → mem F'.L y) : F.gap ≤ F'.gap := by
  obtain ⟨g1, _, _⟩ := gap_edge k'
  by_cases h : F'.gap < F.gap
  · exact absurd (hm _ (gap_all k.fit F.read F'.gap (by omega) h)) (gap_not k'.fit F'.read)
  · omega
theorem next_ge (F : Bf) : F.gap ≤ F.next := by
  unfold Bf.next Bf.done
  split
  · rename_i h
    simp only [Bool.and_eq_true, decide_eq_true_eq] at h
    omega
  · omega
theorem next_le {F : Bf} : F.next ≤ F.gap + 1 := by
  unfold Bf.next Bf.done
  split
  · rename_i h
    simp only [Bool.and_eq_true, decide_eq_true_eq] at h
    omega
  · omega
theorem next_mono {F F' : Bf} (hg : F.gap ≤ F'.gap) (hd : F.done = true → F'.done = true) (hf : F.done = true → F'.fin = F.fin) : F.next ≤ F'.next := by
  by_cases h : F.done = true
  · have h1 := hf h
    unfold Bf.next
    rw [if_pos h, if_pos (hd h)]
    omega
  · have h1 := next_ge F'
    have : F.next = F.gap := by unfold Bf.next; rw [if_neg h]
    omega
theorem tk_bd {base C G : Int} {F : Bf} {i : Nat} (I : BdI base C G F i) (k : F.Ok) {off : Int} {n : Nat} (h0 : 0 ≤ off) (hn : n ≤ 1048576) :
    BdI base C G (F.tk off n) (i + 1) ∧ (0 ≤ F.tkn off n ∧ F.tkn off n ≤ n) ∧ total (F.tk off n).L = total F.L + F.tkn off n ∧ F.next ≤ (F.tk off n).next := by
  unfold Bf.tk Bf.tkn
  by_cases hr : F.refuses off n = 0
  · rw [if_pos hr, if_pos hr]
    obtain ⟨r1, r2, r3, r4, r5⟩ := refuses_ok hr
    have k' := took_ok k h0 (by omega) hr
    have hed : F.edge ≤ 18446744073709551615 := by have := k.rm; have := k.r1; unfold Bf.edge; omega
    have t := addL_total k.fit (F.rg off n) (by unfold Bf.rg; simp only; omega) (by unfold Bf.rg; simp only; omega)
    have b := fresh_bd k.fit (F.rg off n) (by unfold Bf.rg; simp only; omega) (by unfold Bf.rg; simp only; omega)
    have b2 : freshOf F.L (F.rg off n) ≤ n := by have := b.2; unfold Bf.rg at this ⊢; simp only at this; omega
    have hg : F.gap ≤ (F.took off n).gap := gap_grow k k' rfl (fun y hy => (addL_mem k.fit _ y).2 (.inl hy))
    refine ⟨⟨I.bs, I.rm, I.gp, ?_⟩, ⟨b.1, b2⟩, t, next_mono hg (fun h => ?_) (fun _ => rfl)⟩
    · have := I.sm
      show F.read + total (addL F.L (F.rg off n)) ≤ _
      rw [t]
      omega
    · unfold Bf.done at h ⊢
      simp only [Bool.and_eq_true, decide_eq_true_eq] at h ⊢
      have h2 := (gap_edge k').2.2 h.1
      have e1 : (F.took off n).fin = F.fin := rfl
      have e2 : (F.took off n).ends = F.ends := rfl
      rw [e1] at h2
      refine ⟨h.1, ?_⟩
      rw [e1]
      omega
  · rw [if_neg hr, if_neg hr]
    refine ⟨⟨I.bs, I.rm, I.gp, by have := I.sm; omega⟩, by omega, by omega, Int.le_refl _⟩
theorem end_bd {base C G : Int} {F : Bf} {i : Nat} (I : BdI base C G F i) (off : Int) : BdI base C G (F.endAt off) (i + 1) ∧ (F.endAt off).L = F.L ∧ F.next ≤ (F.endAt off).next := by
  unfold Bf.endAt
  split
  · rename_i h
    refine ⟨⟨I.bs, I.rm, I.gp, by have := I.sm; show F.read + total F.L ≤ _; omega⟩, rfl, next_mono (Int.le_refl _) (fun hd => ?_) (fun hd => ?_)⟩
    · unfold Bf.done at hd ⊢
      simp only [Bool.and_eq_true, decide_eq_true_eq] at hd ⊢
      unfold Bf.finE at h
      split at h
      · cases h
      · split at h
        · cases h
        · rename_i h1 h2
          refine ⟨trivial, ?_⟩
          show off = F.gap
          have : ¬ (off ≠ F.fin) := fun e => h2 (.inl ⟨hd.1, e⟩)
          omega
    · unfold Bf.done at hd
      simp only [Bool.and_eq_true, decide_eq_true_eq] at hd
      unfold Bf.finE at h
      split at h
      · cases h
      · split at h
        · cases h
        · rename_i h1 h2
          show off = F.fin
          have : ¬ (off ≠ F.fin) := fun e => h2 (.inl ⟨hd.1, e⟩)
          omega
  · exact ⟨⟨I.bs, I.rm, I.gp, by have := I.sm; omega⟩, rfl, Int.le_refl _⟩
theorem rd_bd {base C G : Int} {F : Bf} {f : Int → BitVec 8} {i : Nat} (I : BdI base C G F i) (k : F.Ok) (n : Int) (hm : F.read + F.room ≤ F.base + 2305843009213693952) :
    BdI base C G (F.rdOn n) (i + 1) ∧ total (F.rdOn n).L = total F.L - (F.rdB f n).length ∧ F.next ≤ (F.rdOn n).next ∧ F.edge ≤ (F.rdOn n).edge ∧ ((F.rdB f n).length : Int) ≤ F.room := by
  unfold Bf.rdOn Bf.rdB
  by_cases h : n < 0 ∨ F.gap = F.read
  · rw [if_pos h, if_pos h]
    refine ⟨⟨I.bs, I.rm, I.gp, by have := I.sm; omega⟩, by simp, Int.le_refl _, Int.le_refl _, ?_⟩
    have := k.r0
    simp; omega
  · rw [if_neg h, if_neg h]
    have hn : 0 ≤ n := by omega
    have k' := readOn_ok k hn hm
    obtain ⟨c1, c2⟩ := cnt_le k hn
    obtain ⟨g1, g2, g3⟩ := gap_edge k
    have hb := k.b0
    have hb1 := k.b1
    have hrd := k.rd
    have hfit := remL_fit k.fit (0, F.read + F.cnt n) (by simp) (by simp only; have := k.rm; have := k.r1; omega)
    have hmem := rem_below k (x := F.read + F.cnt n)
    have hgap : (F.readOn n).gap = F.gap := by
      show gapOf (remL F.L (0, F.read + F.cnt n)) (F.read + F.cnt n) = F.gap
      refine gap_unique hfit _ _ c2 (fun z h1 h2 => ?_) (fun e => ?_)
      · exact (hmem z).2 ⟨gap_all k.fit F.read z (by omega) h2, h1⟩
      · exact gap_not k.fit F.read ((hmem _).1 e).1
    have t : total (F.readOn n).L = total F.L - F.cnt n := by
      have e := total_sum hfit.rise (rise_one (r := (F.read, F.read + F.cnt n)) (by simp only; have := k.rm; have := k.r1; omega)) k.fit.rise rise_nil (fun y => by
        have h00 : ind [] y = 0 := rfl
        rw [h00]
        by_cases h1 : F.read ≤ y ∧ y < F.read + F.cnt n
        · rw [ind_yes (cmem_one.2 h1), ind_no (fun e => by have := ((hmem y).1 e).2; omega), ind_yes (gap_all k.fit F.read y h1.1 (show y < F.gap by omega))]
          rfl
        · rw [ind_no (mt cmem_one.1 h1)]
          by_cases h2 : mem F.L y
          · obtain ⟨r, hr, r1, r2⟩ := h2
            have := k.inn r hr
            rw [ind_yes ((hmem y).2 ⟨⟨r, hr, r1, r2⟩, by omega⟩), ind_yes ⟨r, hr, r1, r2⟩]
          · rw [ind_no h2, ind_no (fun e => h2 ((hmem y).1 e).1)])
      simp only [total] at e
      show total (remL F.L (0, F.read + F.cnt n)) = _
      omega
    rw [bytesFrom_len]
    refine ⟨⟨I.bs, I.rm, I.gp, ?_⟩, t, next_mono (by omega) (fun hd => ?_) (fun _ => rfl), ?_, by omega⟩
    · have := I.sm
      rw [t]
      show F.read + F.cnt n + _ ≤ _
      omega
    · unfold Bf.done at hd ⊢
      simp only [Bool.and_eq_true, decide_eq_true_eq] at hd ⊢
      exact ⟨hd.1, by rw [hgap]; exact hd.2⟩
    · show F.read + F.room ≤ F.read + F.cnt n + F.room
      omega
/-- Stretches that lie apart are few. -/
theorem few_len : ∀ (L : List Rg) (a b : Int), (∀ r ∈ L, a ≤ r.1 ∧ r.1 < r.2 ∧ r.2 ≤ b) → L.Pairwise (fun s t => s.2 < t.1) → a ≤ b + 1 → 2 * (L.length : Int) ≤ b - a + 1
  | [], _, _, _, _, h => by simp; omega
  | r :: l, a, b, h1, h2, h3 => by
    have hr := h1 r List.mem_cons_self
    obtain ⟨h4, h5⟩ := List.pairwise_cons.1 h2
    have ih := few_len l (r.2 + 1) b (fun t ht => ⟨by have := h4 t ht; omega, (h1 t (List.mem_cons_of_mem _ ht)).2⟩) h5 (by omega)
    simp only [List.length_cons]
    omega
theorem Bf.Ok.half {F : Bf} (k : F.Ok) : (F.L.length : Int) ≤ (F.room + 1) / 2 := by
  have h := few_len F.L F.read (F.read + F.room) (fun r hr => ⟨(k.inn r hr).1, (k.fit.1 r hr).2.1, (k.inn r hr).2⟩) k.fit.2 (by have := k.r0; omega)
  omega
/-- A stretch as the law looks at it. -/
theorem Bf.Ok.at_ {F : Bf} (k : F.Ok) {j : Nat} (hj : j < F.L.length) : (0 ≤ F.L[j].1 ∧ F.L[j].1 < F.L[j].2 ∧ F.read ≤ F.L[j].1 ∧ F.L[j].2 ≤ F.edge ∧ (F.ends = true → F.L[j].2 ≤ F.fin)) ∧ (∀ i (hi : i < j), F.L[i].2 < F.L[j].1) ∧ (F.L[j].1 = F.read ↔ (j = 0 ∧ F.gap ≠ F.read)) ∧ (F.L[j].1 = F.read → F.L[j].2 = F.gap) := by
  have h1 := k.fit.1 F.L[j] (List.getElem_mem hj)
  have h2 := k.inn F.L[j] (List.getElem_mem hj)
  have h3 : ∀ i (hi : i < j), F.L[i].2 < F.L[j].1 := fun i hi => List.pairwise_iff_getElem.1 k.fit.2 i j (by omega) hj hi
  have h4 : F.L[j].1 = F.read → j = 0 ∧ F.gap ≠ F.read := fun e => by
    have hg : F.gap ≠ F.read := (gap_read k).2 ⟨F.L[j], List.getElem_mem hj, by omega, by omega⟩
    refine ⟨?_, hg⟩
    by_cases hz : j = 0
    · exact hz
    · obtain ⟨l0, f1, f2⟩ := first_at k hg
      have := h3 0 (by omega)
      have := k.fit.1 F.L[0] (List.getElem_mem l0)
      omega
  refine ⟨⟨h1.1, h1.2.1, h2.1, h2.2, fun e => (k.fin3 e).2 _ (List.getElem_mem hj)⟩, h3, ⟨h4, fun ⟨e, hg⟩ => ?_⟩, fun e => ?_⟩
  · subst e
    obtain ⟨l0, f1, f2⟩ := first_at k hg
    exact f1
  · obtain ⟨e0, hg⟩ := h4 e
    subst e0
    obtain ⟨l0, f1, f2⟩ := first_at k hg
    exact f2
end Go.Proofs.Ytimiokbnhneggaa
namespace Go.Proofs.Ytimiokbnhneggaa
open Go.RowKit Go.Maps Go.Sort
set_option maxRecDepth 100000

/-- The loop's state. -/
structure BL (w wr : World) (p : Nat) (base C G : Int) (F : Bf) (f : Int → BitVec 8) (S : Nat → Prop) (bx i : Nat) : Prop where
  buf : Buf wr p F f S
  st : BdI base C G F i
  row : Row wr bx [.int .u64 base, .int .i64 C, .int .i64 G] 64
  sb : ∀ x, S x → w.heap.size ≤ x ∧ x < wr.heap.size
  no : ¬ S bx
  bel : Below w.heap.size w wr
section
variable {w wr w' : World} {p : Nat} {base C G : Int} {F F' : Bf} {f f' : Int → BitVec 8} {S S' : Nat → Prop} {bx i j : Nat}
theorem BL.kept (h : BL w wr p base C G F f S bx i) (hb : Below wr.heap.size wr w') : BL w w' p base C G F f S bx i :=
  ⟨h.buf.kept hb, h.st, h.row.kept hb h.row.lt, fun x hx => ⟨(h.sb x hx).1, Nat.lt_of_lt_of_le (h.sb x hx).2 hb.size⟩, h.no, h.bel.trans (hb.mono h.bel.size)⟩
theorem BL.turn (h : BL w wr p base C G F f S bx i) (hB : Buf w' p F' f' S') (hf : Fr S wr w') (hS : ∀ x, S' x → S x ∨ wr.heap.size ≤ x) (hst : BdI base C G F' j) : BL w w' p base C G F' f' (fun x => S' x ∧ x < w'.heap.size) bx j := by
  refine ⟨hB.tight, hst, hf.row h.row h.no, fun x hx => ⟨?_, hx.2⟩, fun e => ?_, h.bel.trans (hf.below (fun x hx => (h.sb x hx).1) h.bel.size)⟩
  · rcases hS x hx.1 with e | e
    · exact (h.sb x e).1
    · exact Nat.le_trans h.bel.size e
  · rcases hS _ e.1 with e | e
    · exact h.no e
    · have := h.row.lt; omega
theorem BL.on (h : BL w wr p base C G F f S bx i) (hst : BdI base C G F j) : BL w wr p base C G F f S bx j := ⟨h.buf, hst, h.row, h.sb, h.no, h.bel⟩
theorem BdI.on (h : BdI base C G F i) : BdI base C G F (i + 1) := ⟨h.bs, h.rm, h.gp, by have := h.sm; omega⟩
/-- How many of the first k stretches lie apart. -/
def Bf.ap (F : Bf) (k : Nat) : Int := (k : Int) - (if 0 < k ∧ F.gap ≠ F.read then 1 else 0)
theorem ap_zero (F : Bf) : F.ap 0 = 0 := by unfold Bf.ap; simp
theorem ap_all {F : Bf} (k : F.Ok) : F.ap F.L.length = F.apart := by
  unfold Bf.ap Bf.apart
  by_cases h : F.gap ≠ F.read
  · obtain ⟨l0, _⟩ := first_at k h
    rw [if_pos ⟨l0, h⟩, if_pos h]
  · rw [if_neg (fun e => h e.2), if_neg h]
theorem ap_next {F : Bf} (k : F.Ok) {j : Nat} (hj : j < F.L.length) : (F.L[j].1 = F.read → F.ap (j + 1) = F.ap j) ∧ (F.L[j].1 ≠ F.read → F.ap (j + 1) = F.ap j + 1) ∧ 0 ≤ F.ap j ∧ F.ap j ≤ j := by
  obtain ⟨_, _, h3, _⟩ := k.at_ hj
  unfold Bf.ap
  refine ⟨fun e => ?_, fun e => ?_, ?_, ?_⟩
  · obtain ⟨rfl, hg⟩ := h3.1 e
    rw [if_pos ⟨by omega, hg⟩, if_neg (by omega)]
    simp
  · by_cases hg : F.gap ≠ F.read
    · have : j ≠ 0 := fun e' => e (h3.2 ⟨e', hg⟩)
      rw [if_pos ⟨by omega, hg⟩, if_pos ⟨by omega, hg⟩]
      omega
    · rw [if_neg (fun e => hg e.2), if_neg (fun e => hg e.2)]
      omega
  · split <;> omega
  · split <;> omega
theorem apart_eq (F : Bf) : decide (F.gap = F.read) = decide ((F.L.length : Int) = F.apart) := by
  unfold Bf.apart
  rw [decide_eq_decide]
  by_cases h : F.gap = F.read
  · rw [if_neg (by simp [h])]; simp [h]
  · rw [if_pos h]; omega
theorem total_nn {L : List Rg} (F : Fit L) (k : Nat) : 0 ≤ total (L.take k) ∧ total (L.take k) ≤ total L :=
  ⟨(total_zero (fun r hr => (F.1 r (List.mem_of_mem_take hr)).2.1)).1, total_take_le (fun r hr => (F.1 r hr).2.1) k⟩
end
/-- Read of any number. -/
theorem read_all {w : World} {p : Nat} {F : Bf} {f : Int → BitVec 8} {S : Nat → Prop} (H : Buf w p F f S) (n : Int) (hn1 : n ≤ 9223372036854775807) (hm : F.read + F.room ≤ F.base + 2305843009213693952) :
    Calls Try.prog 12 #[.pointer (some ⟨p, 0, none⟩), .int .i64 n] w fun e w' => ∃ a en er, e = .returned (.tuple #[.slice a (F.rdB f n).length (F.rdB f n).length, .bool en, .int .i64 er]) ∧ ∃ S', Buf w' p (F.rdOn n) f S' ∧ Fr S w w' ∧ ∀ k, S' k → S k ∨ w.heap.size ≤ k := by
  by_cases hn : 0 ≤ n
  · refine (read_any H n hn hn1 hm).mono ?_
    rintro e w' ⟨a, rfl, _, _, S', r1, r2, r3, _⟩
    exact ⟨a, _, _, rfl, S', r1, r2, r3⟩
  · obtain ⟨v, b, k, D, h1, h2⟩ := H
    unfold Bf.rdOn Bf.rdB
    rw [if_pos (.inl (by omega)), if_pos (.inl (by omega))]
    refine (read_neg h1.r n (by omega)).mono ?_
    rintro e w' ⟨rfl, rfl⟩
    exact ⟨none, _, _, rfl, S, ⟨v, b, k, D, h1, h2⟩, Fr.refl _ _, fun _ h => .inl h⟩
end Go.Proofs.Ytimiokbnhneggaa
