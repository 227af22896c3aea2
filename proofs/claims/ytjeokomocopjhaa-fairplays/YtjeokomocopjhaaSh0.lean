import Derived.Test.YtjeokomocopjhaaFa12
namespace Go.Proofs.Ytjeokomocopjhaa
open Go.RowKit Go.Maps
set_option maxRecDepth 100000

/-- Streams of the third class that wait all the time: what each was given. -/
structure ShI (q : Int) (n : Nat) (sh gv : Int → Int) (F : Fs) : Prop where
  fq : F.q = q
  lo : ∀ k, k < 3 → F.R k = []
  st : ∀ x ∈ F.U, x.s.cls = 3 → 1 ≤ x.num ∧ x.num ≤ n ∧ x.s.shr = sh x.num ∧ x.s.wt = 1099511627776 - gv x.num
  al : ∀ y : Int, 1 ≤ y → y ≤ n → ∃ x ∈ F.U, x.num = y ∧ x.s.cls = 3
  rd : ∃ (r h : Int) (T L : List Int), 0 ≤ r ∧ F.R 3 = h :: (T ++ L) ∧ (∀ x ∈ F.U, x.num ∈ T → x.s.cr = 0 ∧ gv x.num = r * (q * sh x.num)) ∧ (∀ x ∈ F.U, x.num ∈ L → x.s.cr = 0 ∧ gv x.num = (r + 1) * (q * sh x.num)) ∧
    (∀ x ∈ F.U, x.num = h → gv x.num = r * (q * sh x.num) + (if x.s.cr = 0 then 0 else q * sh x.num - x.s.cr))
def plusAt (gv : Int → Int) (y N : Int) : Int → Int := fun z => if z = y then gv z + N else gv z
theorem plusAt_same (gv : Int → Int) (y N : Int) : plusAt gv y N y = gv y + N := if_pos rfl
theorem plusAt_other (gv : Int → Int) {y z : Int} (N : Int) (h : z ≠ y) : plusAt gv y N z = gv z := if_neg h
theorem add_mul1 (r a : Int) : (r + 1) * a = r * a + a := by rw [Int.add_mul, Int.one_mul]
theorem ShI.step {q : Int} {n : Nat} {sh gv : Int → Int} {F : Fs} (h : ShI q n sh gv F) (k : F.Ok) {most : Int} (hm : 1 ≤ most) (hm1 : most ≤ 1048576) (hg : ∀ y : Int, 1 ≤ y → y ≤ n → 0 ≤ gv y ∧ gv y ≤ 5242880000) :
    ∃ x B, F.Turn x B ∧ 1 ≤ x.num ∧ x.num ≤ n ∧ 1 ≤ x.tk F.q most ∧ x.tk F.q most ≤ most ∧ ShI q n sh (plusAt gv x.num (x.tk F.q most)) (F.next x most B) := by
  obtain ⟨r, y, T, L, hr, hR, hT, hL, hH⟩ := h.rd
  obtain ⟨x, t, rfl, hc⟩ := k.turn (by decide) h.lo hR
  have hx := t.mem
  obtain ⟨hx1, hx2, hx3, hx4⟩ := h.st x hx hc
  have hgx := hg x.num hx1 hx2
  obtain ⟨hC1, hC2⟩ := Ln.cr1_bd k hx
  have hN : 1 ≤ x.tk F.q most ∧ x.tk F.q most ≤ most ∧ x.tk F.q most ≤ x.cr1 F.q := by unfold Ln.tk; omega
  have hHx := hH x hx rfl
  have hcr : x.cr1 F.q = if x.s.cr = 0 then q * sh x.num else x.s.cr := by unfold Ln.cr1; rw [h.fq, hx3]
  have haw : (x.aft F.q most).wt = x.s.wt - x.tk F.q most := rfl
  have hac : (x.aft F.q most).cr = x.cr1 F.q - x.tk F.q most := rfl
  have hU := next_U (F := F) (x := x) (most := most) (B := T ++ L)
  have hRR := next_R (F := F) (x := x) (most := most) (B := T ++ L) (by rw [haw]; omega)
  have hnd := k.nd 3 (by decide)
  rw [hR] at hnd
  obtain ⟨hn1, hn2⟩ := List.nodup_cons.1 hnd
  have hnT : x.num ∉ T := fun e => hn1 (List.mem_append.2 (.inl e))
  have hnL : x.num ∉ L := fun e => hn1 (List.mem_append.2 (.inr e))
  have hq : (F.next x most (T ++ L)).q = F.q := by unfold Fs.next; split <;> rfl
  refine ⟨x, T ++ L, t, hx1, hx2, hN.1, hN.2.1, ?_⟩
  generalize x.tk F.q most = N at *
  generalize x.cr1 F.q = C at *
  generalize F.next x most (T ++ L) = G at *
  obtain ⟨s, hs⟩ : ∃ s, (if (x.aft F.q most).wt = 0 ∨ (x.aft F.q most).cr = 0 then (x.aft F.q most).over else x.aft F.q most) = s := ⟨_, rfl⟩
  rw [hs] at hU
  have s1 : s.cls = 3 := by rw [← hs, ← hc]; split <;> rfl
  have s2 : s.shr = sh x.num := by rw [← hs, ← hx3]; split <;> rfl
  have s3 : s.wt = 1099511627776 - (gv x.num + N) := by
    have : s.wt = x.s.wt - N := by rw [← haw, ← hs]; split <;> rfl
    rw [this, hx4]; omega
  have s4 : s.cr = C - N := by
    rw [← hac, ← hs]
    split
    · rename_i h0
      rcases h0 with h0 | h0
      · rw [haw] at h0; omega
      · exact h0.symm
    · rfl
  have hmem : ∀ z ∈ G.U, (z.num = x.num ∧ z.s = s) ∨ (z.num ≠ x.num ∧ z ∈ F.U) := fun z hz => by
    rw [hU] at hz
    obtain ⟨z', hz', rfl⟩ := mem_upd.1 hz
    by_cases e : z'.num = x.num
    · rw [if_pos e]; exact .inl ⟨e, rfl⟩
    · rw [if_neg e]; exact .inr ⟨e, hz'⟩
  have hlow : ∀ j, j < 3 → G.R j = [] := fun j hj => by
    have hj3 : j ≠ x.s.cls := by rw [hc]; omega
    rcases hRR with ⟨_, e⟩ | ⟨_, _, e⟩ | ⟨_, _, e⟩ <;> rw [e]
    · rw [upR_other _ _ hj3]; exact h.lo j hj
    · rw [upR_other _ _ hj3]; exact h.lo j hj
    · exact h.lo j hj
  refine ⟨by rw [hq]; exact h.fq, hlow, fun z hz hz3 => ?_, fun y hy1 hy2 => ?_, ?_⟩
  · rcases hmem z hz with ⟨e1, e2⟩ | ⟨e1, e2⟩
    · rw [e1, plusAt_same, e2]
      exact ⟨hx1, hx2, s2, s3⟩
    · rw [plusAt_other _ _ e1]
      exact h.st z e2 hz3
  · rw [hU]
    by_cases e : y = x.num
    · exact ⟨_, mem_upd_self hx s, e.symm, s1⟩
    · obtain ⟨z, hz, ez, cz⟩ := h.al y hy1 hy2
      exact ⟨z, mem_upd.2 ⟨z, hz, by rw [if_neg (by rw [ez]; exact e)]⟩, ez, cz⟩
  · rcases hRR with ⟨e0, _⟩ | ⟨_, e2, e⟩ | ⟨_, e2, e⟩
    · rw [haw] at e0; omega
    · -- the turn is over
      have e3 : G.R 3 = T ++ L ++ [x.num] := by rw [e, hc, upR_same]
      have hNC : N = C := by rw [hac] at e2; omega
      have gx : gv x.num + N = (r + 1) * (q * sh x.num) := by
        rw [hHx, add_mul1, hNC, hcr]
        split
        · omega
        · omega
      have hX : ∀ z ∈ G.U, z.num = x.num → z.s.cr = 0 ∧ plusAt gv x.num N z.num = (r + 1) * (q * sh z.num) := fun z hz ez => by
        rcases hmem z hz with ⟨e4, e5⟩ | ⟨e4, _⟩
        · rw [e4, plusAt_same, e5, s4]
          exact ⟨by omega, gx⟩
        · exact absurd ez e4
      have hT' : ∀ z ∈ G.U, z.num ∈ T → z.s.cr = 0 ∧ plusAt gv x.num N z.num = r * (q * sh z.num) := fun z hz hzT => by
        rcases hmem z hz with ⟨e4, _⟩ | ⟨e4, e5⟩
        · rw [e4] at hzT; exact absurd hzT hnT
        · rw [plusAt_other _ _ e4]; exact hT z e5 hzT
      have hL' : ∀ z ∈ G.U, z.num ∈ L → z.s.cr = 0 ∧ plusAt gv x.num N z.num = (r + 1) * (q * sh z.num) := fun z hz hzL => by
        rcases hmem z hz with ⟨e4, _⟩ | ⟨e4, e5⟩
        · rw [e4] at hzL; exact absurd hzL hnL
        · rw [plusAt_other _ _ e4]; exact hL z e5 hzL
      cases T with
      | nil =>
        cases L with
        | nil =>
          refine ⟨r + 1, x.num, [], [], by omega, by rw [e3]; rfl, fun z _ hz => (by cases hz), fun z _ hz => (by cases hz), fun z hz ez => ?_⟩
          have := hX z hz ez
          rw [if_pos this.1, this.2]; omega
        | cons l L =>
          refine ⟨r + 1, l, L ++ [x.num], [], by omega, by rw [e3]; simp, fun z hz hzT => ?_, fun z _ hz => (by cases hz), fun z hz ez => ?_⟩
          · rcases List.mem_append.1 hzT with h1 | h1
            · exact hL' z hz (by simp [h1])
            · exact hX z hz (by simpa using h1)
          · have := hL' z hz (by simp [ez])
            rw [if_pos this.1, this.2]; omega
      | cons t0 T =>
        refine ⟨r, t0, T, L ++ [x.num], hr, by rw [e3]; simp, fun z hz hzT => hT' z hz (by simp [hzT]), fun z hz hzL => ?_, fun z hz ez => ?_⟩
        · rcases List.mem_append.1 hzL with h1 | h1
          · exact hL' z hz h1
          · exact hX z hz (by simpa using h1)
        · have := hT' z hz (by simp [ez])
          rw [if_pos this.1, this.2]; omega
    · -- the turn goes on
      rw [hac] at e2
      refine ⟨r, x.num, T, L, hr, by rw [e, hR], fun z hz hzT => ?_, fun z hz hzL => ?_, fun z hz ez => ?_⟩
      · rcases hmem z hz with ⟨e4, _⟩ | ⟨e4, e5⟩
        · rw [e4] at hzT; exact absurd hzT hnT
        · rw [plusAt_other _ _ e4]; exact hT z e5 hzT
      · rcases hmem z hz with ⟨e4, _⟩ | ⟨e4, e5⟩
        · rw [e4] at hzL; exact absurd hzL hnL
        · rw [plusAt_other _ _ e4]; exact hL z e5 hzL
      · rcases hmem z hz with ⟨e4, e5⟩ | ⟨e4, _⟩
        · rw [e4, plusAt_same, e5, s4, if_neg e2, hHx, hcr]
          split
          · omega
          · omega
        · exact absurd ez e4
/-- What each was given lies within one round. -/
theorem ShI.bd {q : Int} {n : Nat} {sh gv : Int → Int} {F : Fs} (h : ShI q n sh gv F) (k : F.Ok) (hg : ∀ y : Int, 1 ≤ y → y ≤ n → gv y ≤ 5243928576) : ∃ r : Int, 0 ≤ r ∧ ∀ y : Int, 1 ≤ y → y ≤ n → r * (q * sh y) ≤ gv y ∧ gv y ≤ (r + 1) * (q * sh y) ∧ 1 ≤ sh y ∧ sh y ≤ 255 := by
  obtain ⟨r, y0, T, L, hr, hR, hT, hL, hH⟩ := h.rd
  refine ⟨r, hr, fun y hy1 hy2 => ?_⟩
  obtain ⟨x, hx, rfl, hc⟩ := h.al y hy1 hy2
  obtain ⟨_, _, hx3, hx4⟩ := h.st x hx hc
  have hgy := hg x.num hy1 hy2
  have hs := k.shr x hx
  rw [hx3] at hs
  have hcr := k.cr x hx
  rw [hx3, h.fq] at hcr
  have hin : x.num ∈ F.R 3 := (k.row 3 (by decide) x.num).2 ⟨x, hx, rfl, hc, by omega⟩
  rw [hR] at hin
  have hqs : 0 ≤ q * sh x.num := by omega
  refine ⟨?_, ?_, hs.1, hs.2⟩
  · rcases List.mem_cons.1 hin with e | e
    · rw [hH x hx e]
      split <;> omega
    · rcases List.mem_append.1 e with e | e
      · rw [(hT x hx e).2]; exact Int.le_refl _
      · rw [(hL x hx e).2, add_mul1]; omega
  · rw [add_mul1]
    rcases List.mem_cons.1 hin with e | e
    · rw [hH x hx e]
      split <;> omega
    · rcases List.mem_append.1 e with e | e
      · rw [(hT x hx e).2]; omega
      · rw [(hL x hx e).2, add_mul1]; omega
/-- Each two are given bytes by their shares, to within a turn. -/
theorem share_law {q r g1 g2 s1 s2 : Int} (h1 : g1 ≤ (r + 1) * (q * s1)) (h2 : r * (q * s2) ≤ g2) (hs1 : 1 ≤ s1) (hs2 : 1 ≤ s2) : g1 * s2 - g2 * s1 ≤ q * s1 * s2 := by
  have a1 := Int.mul_le_mul_of_nonneg_right h1 (show 0 ≤ s2 by omega)
  have a2 := Int.mul_le_mul_of_nonneg_right h2 (show 0 ≤ s1 by omega)
  rw [add_mul1, Int.add_mul] at a1
  have e : r * (q * s2) * s1 = r * (q * s1) * s2 := by
    rw [Int.mul_assoc r, Int.mul_assoc r, Int.mul_assoc q, Int.mul_assoc q, Int.mul_comm s2 s1]
  rw [e] at a2
  omega
end Go.Proofs.Ytjeokomocopjhaa
