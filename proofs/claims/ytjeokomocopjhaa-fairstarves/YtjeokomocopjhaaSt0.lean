import Derived.Test.YtjeokomocopjhaaSh1
namespace Go.Proofs.Ytjeokomocopjhaa
open Go.RowKit Go.Maps
set_option maxRecDepth 100000

def sumL (f : Int → Int) : List Int → Int
  | [] => 0
  | y :: r => f y + sumL f r
theorem sumL_app (f : Int → Int) : ∀ a b : List Int, sumL f (a ++ b) = sumL f a + sumL f b
  | [], b => by simp [sumL]
  | x :: a, b => by simp only [List.cons_append, sumL, sumL_app f a b]; omega
theorem sumL_nonneg {f : Int → Int} (hf : ∀ y, 0 ≤ f y) : ∀ a : List Int, 0 ≤ sumL f a
  | [] => Int.le_refl _
  | x :: a => by simp only [sumL]; have := hf x; have := sumL_nonneg hf a; omega
theorem sumL_le {f : Int → Int} (hf : ∀ y, 0 ≤ f y) : ∀ {a L : List Int}, a.Nodup → (∀ y ∈ a, y ∈ L) → sumL f a ≤ sumL f L
  | [], L, _, _ => sumL_nonneg hf L
  | x :: r, L, hn, h => by
    obtain ⟨s, t, rfl⟩ := List.append_of_mem (h x (by simp))
    obtain ⟨h1, h2⟩ := List.nodup_cons.1 hn
    have := sumL_le hf (a := r) (L := s ++ t) h2 (fun y hy => by
      have hy' := h y (by simp [hy])
      simp only [List.mem_append, List.mem_cons] at hy' ⊢
      rcases hy' with h3 | h3 | h3
      · exact .inl h3
      · subst h3; exact absurd hy h1
      · exact .inr h3)
    rw [sumL_app] at this ⊢
    simp only [sumL]
    omega
/-- The sum of the first shares. -/
def sumTo (f : Int → Int) : Nat → Int
  | 0 => 0
  | i + 1 => sumTo f i + f ((i : Int) + 1)
def idsTo : Nat → List Int
  | 0 => []
  | i + 1 => idsTo i ++ [(i : Int) + 1]
theorem sum_ids (f : Int → Int) : ∀ n, sumL f (idsTo n) = sumTo f n
  | 0 => rfl
  | n + 1 => by rw [idsTo, sumL_app, sum_ids f n, sumTo]; simp [sumL]
theorem mem_ids : ∀ {n : Nat} {y : Int}, 1 ≤ y → y ≤ n → y ∈ idsTo n
  | 0, y, h1, h2 => by exfalso; omega
  | n + 1, y, h1, h2 => by
    rw [idsTo, List.mem_append, List.mem_singleton]
    by_cases e : y = (n : Int) + 1
    · exact .inr e
    · exact .inl (mem_ids h1 (by omega))
theorem sumTo_bd {f : Int → Int} (hf : ∀ y, 1 ≤ f y ∧ f y ≤ 255) : ∀ n : Nat, 0 ≤ sumTo f n ∧ sumTo f n ≤ 255 * (n : Int)
  | 0 => ⟨Int.le_refl _, Int.le_refl _⟩
  | n + 1 => by have := sumTo_bd hf n; have := hf ((n : Int) + 1); simp only [sumTo]; omega
/-- Streams of the second class alone. -/
structure StI (q : Int) (n : Nat) (sh : Int → Int) (F : Fs) : Prop where
  fq : F.q = q
  len : F.U.length = n
  al : ∀ x ∈ F.U, x.s.cls = 2 ∧ 1 ≤ x.num ∧ x.num ≤ n ∧ x.s.shr = sh x.num ∧ x.s.wt ≤ 1073741824
theorem zero_St (q : Int) (sh : Int → Int) : StI q 0 sh (Fs.zero q) := ⟨rfl, rfl, fun x hx => (by cases hx)⟩
theorem StI.lay {q : Int} {n : Nat} {sh : Int → Int} {F : Fs} (h : StI q n sh F) {g : Nat} {s m : Int} (hs : sh ((n : Int) + 1) = s) (hm : m ≤ 1073741824) : StI q (n + 1) sh (F.lay ((n : Int) + 1) g 2 s m) := by
  have hne : ∀ x ∈ F.U, x.num ≠ (n : Int) + 1 := fun x hx => by have := (h.al x hx).2.2.1; omega
  refine ⟨h.fq, by rw [lay_len, h.len], fun z hz => ?_⟩
  rcases lay_mem hne hz with rfl | ⟨_, h1⟩
  · exact ⟨rfl, by show (1 : Int) ≤ (n : Int) + 1; omega, by show (n : Int) + 1 ≤ _; omega, hs.symm, hm⟩
  · obtain ⟨a1, a2, a3, a4, a5⟩ := h.al z h1
    exact ⟨a1, a2, by omega, a4, a5⟩
/-- What a stream is behind its turn. -/
theorem aft_s {F : Fs} (k : F.Ok) {x : Ln} {B : List Int} (t : F.Turn x B) {most : Int} (hm : 1 ≤ most) : ∃ s : Ss, (F.next x most B).U = upd F.U x.num s ∧ s.cls = x.s.cls ∧ s.shr = x.s.shr ∧ s.wt = x.s.wt - x.tk F.q most ∧ 1 ≤ x.tk F.q most ∧ x.tk F.q most ≤ x.s.wt ∧ x.tk F.q most ≤ x.cr1 F.q ∧ 0 < x.s.wt ∧ (F.next x most B).q = F.q := by
  have hx := t.mem
  have hw : 0 < x.s.wt := ((k.one hx (fun s => s.cls = x.s.cls ∧ 0 < s.wt)).1 ((k.row _ (k.cls x hx) _).1 (by rw [t.row]; simp))).2
  obtain ⟨hC1, hC2⟩ := Ln.cr1_bd k hx
  have hT : 1 ≤ x.tk F.q most ∧ x.tk F.q most ≤ x.s.wt ∧ x.tk F.q most ≤ x.cr1 F.q := by unfold Ln.tk; omega
  refine ⟨_, next_U, ?_, ?_, ?_, hT.1, hT.2.1, hT.2.2, hw, by unfold Fs.next; split <;> rfl⟩
  · split <;> rfl
  · split <;> rfl
  · split <;> rfl
theorem StI.next {q : Int} {n : Nat} {sh : Int → Int} {F : Fs} (h : StI q n sh F) (k : F.Ok) {x : Ln} {B : List Int} (t : F.Turn x B) {most : Int} (hm : 1 ≤ most) : StI q n sh (F.next x most B) := by
  obtain ⟨s, hU, s1, s2, s3, t1, t2, _, _, hq⟩ := aft_s k t hm
  refine ⟨by rw [hq]; exact h.fq, by rw [hU, upd_len]; exact h.len, ?_⟩
  rw [hU]
  refine upd_all (fun y hy _ => h.al y hy) k.rise t.mem ?_
  obtain ⟨a1, a2, a3, a4, a5⟩ := h.al x t.mem
  exact ⟨s1.trans a1, a2, a3, s2.trans a4, by show s.wt ≤ _; omega⟩
/-- The stream 77 waits, with m others ahead of it. -/
structure StJ (q : Int) (sh : Int → Int) (T others : Int) (m : Nat) (F : Fs) : Prop where
  fq : F.q = q
  al : ∀ x ∈ F.U, x.s.cls = 2 ∧ ((x.num = 77 ∧ x.s.shr = 1 ∧ x.s.wt = 3 ∧ x.s.cr = 0) ∨ (x.num ≠ 77 ∧ x.s.shr = sh x.num ∧ x.s.wt ≤ 1073741824))
  row : ∃ A B, F.R 2 = A ++ 77 :: B ∧ 77 ∉ A ∧ A.length = m ∧ others + q * sumL sh A ≤ T
theorem StI.wait {q : Int} {n : Nat} {sh : Int → Int} {F : Fs} (h : StI q n sh F) (k : F.Ok) (hn : n ≤ 20) (hsh : ∀ y, 0 ≤ sh y) (g : Nat) : StJ q sh (q * sumTo sh n) 0 (F.R 2).length (F.lay 77 g 2 1 3) := by
  have hne : ∀ x ∈ F.U, x.num ≠ 77 := fun x hx => by have := (h.al x hx).2.2.1; omega
  refine ⟨h.fq, fun z hz => ?_, F.R 2, [], ?_, fun e => ?_, rfl, ?_⟩
  · rcases lay_mem hne hz with rfl | ⟨_, h1⟩
    · exact ⟨rfl, .inl ⟨rfl, rfl, rfl, rfl⟩⟩
    · obtain ⟨a1, a2, a3, a4, a5⟩ := h.al z h1
      exact ⟨a1, .inr ⟨by omega, a4, a5⟩⟩
  · rw [lay_R, upR_same]
  · obtain ⟨x, hx, e1, _⟩ := (k.row 2 (by decide) 77).1 e
    exact hne x hx e1
  · have hs := sumL_le hsh (k.nd 2 (by decide)) (L := idsTo n) (fun y hy => by
      obtain ⟨x, hx, e1, _⟩ := (k.row 2 (by decide) y).1 hy
      obtain ⟨_, a2, a3, _⟩ := h.al x hx
      rw [← e1]
      exact mem_ids a2 a3)
    rw [sum_ids] at hs
    have hq := k.q0
    rw [h.fq] at hq
    have := Int.mul_le_mul_of_nonneg_left hs (show 0 ≤ q by omega)
    omega
theorem StJ.lo {q : Int} {sh : Int → Int} {T others : Int} {m : Nat} {F : Fs} (h : StJ q sh T others m F) (k : F.Ok) : ∀ c, c < 2 → F.R c = [] := fun c hc => by
  cases hR : F.R c with
  | nil => rfl
  | cons y r =>
    obtain ⟨x, hx, _, e, _⟩ := (k.row c (by omega) y).1 (by rw [hR]; simp)
    have := (h.al x hx).1
    omega
/-- Its own turn. -/
theorem StJ.own {q : Int} {sh : Int → Int} {T others : Int} {F : Fs} (h : StJ q sh T others 0 F) (k : F.Ok) : ∃ x B, F.Turn x B ∧ x.num = 77 ∧ 1 ≤ x.tk F.q 1073741824 ∧ x.tk F.q 1073741824 ≤ 3 := by
  obtain ⟨A, B, hR, _, hl, _⟩ := h.row
  obtain rfl : A = [] := List.eq_nil_of_length_eq_zero hl
  obtain ⟨x, t, e, _⟩ := k.turn (by decide) (h.lo k) hR
  obtain ⟨s, _, _, _, _, t1, t2, _, _, _⟩ := aft_s k t (show (1 : Int) ≤ 1073741824 by decide)
  refine ⟨x, B, t, e, t1, ?_⟩
  rcases (h.al x t.mem).2 with ⟨_, _, e3, _⟩ | ⟨e1, _⟩
  · omega
  · exact absurd e e1
/-- Another one's turn. -/
theorem StJ.step {q : Int} {sh : Int → Int} {T others : Int} {m : Nat} {F : Fs} (h : StJ q sh T others (m + 1) F) (k : F.Ok) (hsh : ∀ y, 0 ≤ sh y) : ∃ x B, F.Turn x B ∧ x.num ≠ 77 ∧ 1 ≤ x.tk F.q 1073741824 ∧ others + x.tk F.q 1073741824 ≤ T ∧ StJ q sh T (others + x.tk F.q 1073741824) m (F.next x 1073741824 B) := by
  obtain ⟨A, B, hR, hA, hl, hs⟩ := h.row
  cases A with
  | nil => cases hl
  | cons y A =>
    obtain ⟨x, t, e, hc⟩ := k.turn (by decide) (h.lo k) (show F.R 2 = y :: (A ++ 77 :: B) from hR)
    subst e
    have hx77 : x.num ≠ 77 := fun e => hA (by rw [e]; simp)
    have hAA : 77 ∉ A := fun e => hA (by simp [e])
    obtain ⟨s, hU, s1, s2, s3, t1, t2, t3, hw, hq⟩ := aft_s k t (show (1 : Int) ≤ 1073741824 by decide)
    obtain ⟨hC1, hC2⟩ := Ln.cr1_bd k t.mem
    have hxw : x.s.shr = sh x.num ∧ x.s.wt ≤ 1073741824 := by
      rcases (h.al x t.mem).2 with ⟨e1, _⟩ | ⟨_, e2⟩
      · exact absurd e1 hx77
      · exact e2
    have hRR := next_R (F := F) (x := x) (most := 1073741824) (B := A ++ 77 :: B) (by show 0 ≤ x.s.wt - x.tk F.q 1073741824; omega)
    have haw : (x.aft F.q 1073741824).wt = x.s.wt - x.tk F.q 1073741824 := rfl
    have hac : (x.aft F.q 1073741824).cr = x.cr1 F.q - x.tk F.q 1073741824 := rfl
    have hend : x.s.wt - x.tk F.q 1073741824 = 0 ∨ x.cr1 F.q - x.tk F.q 1073741824 = 0 := by
      have : x.tk F.q 1073741824 = min (min 1073741824 x.s.wt) (x.cr1 F.q) := rfl
      omega
    simp only [sumL, Int.mul_add] at hs
    have hN : x.tk F.q 1073741824 ≤ q * sh x.num := by rw [← h.fq, ← hxw.1]; omega
    have hT0 : 0 ≤ q * sumL sh A := Int.mul_nonneg (by have := k.q0; rw [h.fq] at this; omega) (sumL_nonneg hsh A)
    refine ⟨x, A ++ 77 :: B, t, hx77, t1, by omega, by rw [hq]; exact h.fq, ?_, ?_⟩
    · rw [hU]
      refine upd_all (fun y hy _ => h.al y hy) k.rise t.mem ⟨s1.trans hc, .inr ⟨hx77, s2.trans hxw.1, ?_⟩⟩
      show s.wt ≤ _
      omega
    · rcases hRR with ⟨_, e⟩ | ⟨_, _, e⟩ | ⟨e1, e2, _⟩
      · exact ⟨A, B, by rw [e, hc, upR_same], hAA, by simpa using hl, by omega⟩
      · exact ⟨A, B ++ [x.num], by rw [e, hc, upR_same]; simp, hAA, by simpa using hl, by omega⟩
      · rw [haw] at e1
        rw [hac] at e2
        omega
/-- How many bytes of a stream wait at first. -/
def wtOf (W : List Int) (y : Int) : Int := if (y - 1).toNat < W.length then 1 + (W.getD (y - 1).toNat 0 % 18446744073709551616) % 100000 else 1073741824
end Go.Proofs.Ytjeokomocopjhaa
