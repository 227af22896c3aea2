import Derived.Test.YtimiokbnhneggaaBf3
import Derived.Test.YtimiokbnhneggaaIvCnt
namespace Go.Proofs.Ytimiokbnhneggaa
open Go.RowKit Go.Maps
set_option maxRecDepth 100000

/-- The buffer at p: what it says, and the bytes of what has come. -/
structure BufAt (w : World) (p : Nat) (v : Value) (b n : Nat) (D : DM) (F : Bf) (f : Int → BitVec 8) : Prop where
  r : BufR w p v b F
  sto : Sto w b n D
  byt : ∀ x, mem F.L x → At w D x (f x)
  few : (n : Int) ≤ F.read - F.base + total F.L
/-- What a buffer has of the memory. -/
def Foot (p : Nat) (v : Value) (b : Nat) (D : DM) (k : Nat) : Prop := k = p ∨ v.ownBlock = some k ∨ SB b D k
/-- The stretch of a chunk that was not read. -/
def Bf.rg (F : Bf) (off n : Int) : Rg := (max off F.read, off + n)
def Bf.took (F : Bf) (off n : Int) : Bf := { F with L := addL F.L (F.rg off n) }
def Bf.new (F : Bf) (f : Int → BitVec 8) (off : Int) (d : List (BitVec 8)) (x : Int) : BitVec 8 := if gapOf F.L x ≠ x then f x else (d[(x - off).toNat]?).getD 0#8
theorem refuses_ok {F : Bf} {off n : Int} (h : F.refuses off n = 0) : n ≠ 0 ∧ off ≤ F.edge ∧ n ≤ F.edge - off ∧ (F.ends = true → off + n ≤ F.fin) ∧ F.crowds off n = false := by
  unfold Bf.refuses at h
  have h1 : n ≠ 0 := fun e => by rw [if_pos e] at h; cases h
  rw [if_neg h1] at h
  have h2 : ¬ (F.edge < off ∨ F.edge - off < n) := fun e => by rw [if_pos e] at h; cases h
  rw [if_neg h2] at h
  have h3 : ¬ (F.ends = true ∧ F.fin < off + n) := fun e => by rw [if_pos e] at h; cases h
  rw [if_neg h3] at h
  have h4 : ¬ F.crowds off n = true := fun e => by rw [if_pos e] at h; cases h
  refine ⟨h1, by omega, by omega, fun e => ?_, by simpa using h4⟩
  by_cases hh : F.fin < off + n
  · exact absurd ⟨e, hh⟩ h3
  · omega
theorem gap_read {F : Bf} (k : F.Ok) : F.gap ≠ F.read ↔ mem F.L F.read := gap_iff k.fit F.read
/-- What holds a number that has come at the front. -/
theorem first_at {F : Bf} (k : F.Ok) (h : F.gap ≠ F.read) : ∃ h0 : 0 < F.L.length, F.L[0].1 = F.read ∧ F.L[0].2 = F.gap := by
  have hm := (gap_read k).1 h
  obtain ⟨i, hi, h1, h2⟩ := mem_get hm
  have hi0 : i = 0 := by
    by_cases e : i = 0
    · exact e
    · have h3 := k.fit.lt 0 i (by omega) hi
      have h4 := k.fit.at 0 (by omega)
      have h5 := k.inn F.L[0] (List.getElem_mem (by omega))
      omega
  subst hi0
  have h5 := k.inn F.L[0] (List.getElem_mem hi)
  refine ⟨hi, by omega, ?_⟩
  unfold Bf.gap
  exact (gapOf_in k.fit 0 hi F.read h1 h2).symm
theorem took_ok {F : Bf} (k : F.Ok) {off n : Int} (h0 : 0 ≤ off) (hn : 0 ≤ n) (h : F.refuses off n = 0) : (F.took off n).Ok := by
  obtain ⟨r1, r2, r3, r4, r5⟩ := refuses_ok h
  have he : off + n ≤ F.read + F.room := by unfold Bf.edge at r3; omega
  have hb := k.b0
  have hrd := k.rd
  have hrm := k.rm
  have hr1 := k.r1
  have hf0 : 0 ≤ (F.rg off n).1 := by unfold Bf.rg; simp only; omega
  have hf1 : (F.rg off n).2 ≤ 18446744073709551615 := by unfold Bf.rg; simp only; omega
  have hfit := addL_fit k.fit (F.rg off n) hf0 hf1
  have hmem := addL_mem k.fit (F.rg off n)
  have hin : ∀ r ∈ addL F.L (F.rg off n), F.read ≤ r.1 ∧ r.2 ≤ F.read + F.room := by
    intro r hr
    have hr1 := hfit.1 r hr
    have m1 : mem (addL F.L (F.rg off n)) r.1 := ⟨r, hr, Int.le_refl _, hr1.2.1⟩
    have m2 : mem (addL F.L (F.rg off n)) (r.2 - 1) := ⟨r, hr, by omega, by omega⟩
    have key : ∀ y, mem (addL F.L (F.rg off n)) y → F.read ≤ y ∧ y + 1 ≤ F.read + F.room := by
      intro y hy
      rcases (hmem y).1 hy with ⟨t, ht, a1, a2⟩ | hy
      · have := k.inn t ht; omega
      · unfold Bf.rg at hy; simp only at hy; omega
    have := key _ m1
    have := key _ m2
    omega
  have hfin : F.ends = true → ∀ r ∈ addL F.L (F.rg off n), r.2 ≤ F.fin := by
    intro e r hr
    have hr1 := hfit.1 r hr
    have m2 : mem (addL F.L (F.rg off n)) (r.2 - 1) := ⟨r, hr, by omega, by omega⟩
    rcases (hmem _).1 m2 with ⟨t, ht, a1, a2⟩ | hy
    · have := (k.fin3 e).2 t ht; omega
    · have := r4 e
      unfold Bf.rg at hy; simp only at hy; omega
  have hgap : ((F.took off n).gap ≠ F.read) ↔ (mem F.L F.read ∨ ((F.rg off n).1 ≤ F.read ∧ F.read < (F.rg off n).2)) := by
    rw [← hmem]
    exact gap_iff hfit F.read
  refine ⟨hfit, k.b0, k.b1, k.r0, k.r1, k.g0, k.g1, k.rd, k.rm, k.rm2, hin, ?_, k.fin0, k.fin1, k.fin2, fun e => ⟨(k.fin3 e).1, hfin e⟩⟩
  have hfew := k.few
  show ((addL F.L (F.rg off n)).length : Int) - (if (F.took off n).gap ≠ F.read then 1 else 0) ≤ F.gaps
  unfold Bf.apart at hfew
  by_cases hemp : (F.rg off n).2 ≤ (F.rg off n).1
  · have e1 : addL F.L (F.rg off n) = F.L := by unfold addL; rw [if_pos hemp]
    have e2 : (F.took off n).gap = F.gap := by unfold Bf.gap Bf.took; rw [e1]
    rw [e1, e2]
    exact hfew
  · have hlt : (F.rg off n).1 < (F.rg off n).2 := by omega
    have hlen := addL_len k.fit (F.rg off n) hlt
    have htl := tch_le k.fit (F.rg off n) hlt
    by_cases ho : off ≤ F.gap
    · by_cases hg : F.gap = F.read
      · have hr : (F.rg off n).1 = F.read := by unfold Bf.rg; simp only; omega
        rw [if_pos (hgap.2 (.inr ⟨by omega, by omega⟩))]
        rw [if_neg (by simp [hg])] at hfew
        omega
      · rw [if_pos hg] at hfew
        rw [if_pos (hgap.2 (.inl ((gap_read k).1 hg)))]
        obtain ⟨hl, f1, f2⟩ := first_at k hg
        have hA : tchA F.L (F.rg off n) = 0 := by
          unfold tchA
          refine front_eq _ _ 0 (by omega) (fun t _ ht => absurd ht (by omega)) (fun _ => ?_)
          have hfa := k.fit.at 0 hl
          have : ¬ F.L[0].2 < (F.rg off n).1 := by unfold Bf.rg; simp only; omega
          unfold endAhead
          exact decide_eq_false this
        have hB : 1 ≤ tchB F.L (F.rg off n) := by
          by_cases e : tchB F.L (F.rg off n) = 0
          · exfalso
            have hs := (front_spec (beginBy (F.rg off n).2) F.L).2
            unfold tchB at e
            rw [e] at hs
            have h2 := hs hl
            have h3 : (F.rg off n).1 ≥ F.read := by unfold Bf.rg; simp only; omega
            unfold beginBy at h2
            have h4 := of_decide_eq_false h2
            omega
          · omega
        omega
    · have hgap' : F.gap ≠ F.read ↔ (F.took off n).gap ≠ F.read := by
        rw [hgap, gap_read k]
        constructor
        · exact .inl
        · rintro (e | ⟨e1, _⟩)
          · exact e
          · exfalso
            have := gap_ge k.fit F.read
            unfold Bf.gap at ho
            unfold Bf.rg at e1
            simp only at e1
            omega
      have hge := gap_ge k.fit F.read
      have hrg : F.rg off n = (off, off + n) := by unfold Bf.rg; congr 1; unfold Bf.gap at ho; omega
      unfold Bf.crowds at r5
      rw [if_neg ho] at r5
      rw [hrg]
      have r5 := of_decide_eq_false r5
      by_cases hg : F.gap = F.read
      · rw [if_neg (by simp [hg])] at r5
        rw [if_neg (fun e => absurd hg (hgap'.2 e))]
        omega
      · rw [if_pos hg] at r5
        rw [if_pos (hgap'.1 hg)]
        omega
theorem total_bound : ∀ (L : List Rg) (a b : Int), (∀ r ∈ L, a ≤ r.1 ∧ r.1 < r.2 ∧ r.2 ≤ b) → L.Pairwise (fun s t => s.2 < t.1) → a ≤ b → total L ≤ b - a
  | [], a, b, _, _, h => by simp [total]; omega
  | r :: l, a, b, h1, h2, h => by
    obtain ⟨p1, p2⟩ := List.pairwise_cons.1 h2
    have hr := h1 r (by simp)
    have := total_bound l r.2 b (fun t ht => by have := p1 t ht; have := h1 t (by simp [ht]); omega) p2 (by omega)
    simp only [total]
    omega
theorem Bf.Ok.tot {F : Bf} (k : F.Ok) : total F.L ≤ F.room := by
  have := total_bound F.L F.read (F.read + F.room) (fun r hr => by have := k.inn r hr; have := k.fit.1 r hr; omega) k.fit.2 (by have := k.r0; omega)
  omega
theorem total_take_le {M : List Rg} (h : ∀ r ∈ M, r.1 < r.2) (k : Nat) : total (M.take k) ≤ total M := by
  have h1 := total_append (M.take k) (M.drop k)
  rw [List.take_append_drop] at h1
  have h2 := (total_zero (L := M.drop k) (fun r hr => h r (List.mem_of_mem_drop hr))).1
  omega
/-- The buffer's own blocks stay, whatever is laid into its store. -/
theorem BufR.fr {w w' : World} {p b n : Nat} {v : Value} {D : DM} {F : Bf} (h : BufR w p v b F) (hs : Sto w b n D) (hf : Fr (SB b D) w w') : BufR w' p v b F := by
  refine ⟨⟨(hf.block p h.row.lt (hs.not_of_cells h.set.hp (by decide))).trans h.set.hp, h.set.own.1, ?_⟩, h.ok⟩
  rcases h.set.own.2 with e | ⟨g, cap, cur, hv, h1, hg, h2⟩
  · exact .inl e
  · exact .inr ⟨g, cap, cur, hv, h1, (hf.block g (Array.getElem?_eq_some_iff.1 hg).1 (hs.not_of_cells hg (by decide))).trans hg, h2⟩
/-- What stands when k of the missing stretches are laid down. -/
structure LayAt (w wr : World) (b n : Nat) (D D' : DM) (M : List Rg) (off : Int) (d : List (BitVec 8)) (k n' : Nat) : Prop where
  sto : Sto wr b n' D'
  few : (n' : Int) ≤ n + total (M.take k)
  fr : Fr (SB b D) w wr
  sub : ∀ j, SB b D' j → SB b D j ∨ w.heap.size ≤ j
  old : ∀ y c, At w D y c → ¬ mem M y → At wr D' y c
  new : ∀ y, mem (M.take k) y → ∀ c, d[(y - off).toNat]? = some c → At wr D' y c
theorem LayAt.start {w : World} {b n : Nat} {D : DM} (h : Sto w b n D) (M : List Rg) (off : Int) (d : List (BitVec 8)) : LayAt w w b n D D M off d 0 n :=
  ⟨h, by simp [total], Fr.refl _ _, fun _ h => .inl h, fun _ _ h _ => h, fun y hy => by obtain ⟨r, hr, _⟩ := hy; simp at hr⟩
/-- One stretch more. -/
theorem LayAt.next {w wr w2 wb : World} {b n : Nat} {D D' D2 : DM} {M : List Rg} {off : Int} {d : List (BitVec 8)} {k n' n2 : Nat} (h : LayAt w wr b n D D' M off d k n') (hk : k < M.length) (hb : Below wr.heap.size wr wb)
    (hM : M.Pairwise (fun a b => a.2 ≤ b.1)) (hE : ∀ m ∈ M, off ≤ m.1 ∧ m.1 < m.2 ∧ m.2 ≤ off + d.length)
    (P : PutAt wb w2 b n' D' D2 M[k].1 ((d.drop (M[k].1 - off).toNat).take (M[k].2 - M[k].1).toNat) ((d.drop (M[k].1 - off).toNat).take (M[k].2 - M[k].1).toNat).length n2) : LayAt w w2 b n D D2 M off d (k + 1) n2 := by
  obtain ⟨m1, m2, m3⟩ := hE M[k] (List.getElem_mem hk)
  have hl : ((d.drop (M[k].1 - off).toNat).take (M[k].2 - M[k].1).toNat).length = (M[k].2 - M[k].1).toNat := by simp; omega
  have htk : M.take (k + 1) = M.take k ++ [M[k]] := by rw [List.take_add_one, List.getElem?_eq_getElem hk]; rfl
  have hfb : Fr (SB b D) w wb := h.fr.trans (T := fun _ => False) (Fr.of_below hb (Nat.le_refl _)) (fun _ e => e.elim)
  refine ⟨P.sto, ?_, hfb.trans P.fr h.sub, fun j hj => ?_, fun y c hy hm => ?_, fun y hy c hc => ?_⟩
  · have h1 := P.few
    have h2 := h.few
    rw [htk, total_append]
    simp only [total]
    rw [hl] at h1
    omega
  · rcases P.sub j hj with e | e
    · exact h.sub j e
    · exact .inr (Nat.le_trans hfb.size e)
  · refine P.old y c ((h.old y c hy hm).kept_below hb) ?_
    rw [hl]
    by_cases e : M[k].1 ≤ y ∧ y < M[k].2
    · exact absurd ⟨M[k], List.getElem_mem hk, e.1, e.2⟩ hm
    · omega
  · rw [htk, mem_append] at hy
    rcases hy with hy | hy
    · refine P.old y c ((h.new y hy c hc).kept_below hb) (.inl ?_)
      obtain ⟨r, hr, a1, a2⟩ := hy
      obtain ⟨i, hi, rfl⟩ := List.getElem_of_mem hr
      have hi' : i < k := by simp at hi; omega
      rw [List.getElem_take] at a2
      have := List.pairwise_iff_getElem.1 hM i k (by omega) hk hi'
      omega
    · rw [cmem_one] at hy
      have hi : (y - M[k].1).toNat < ((d.drop (M[k].1 - off).toNat).take (M[k].2 - M[k].1).toNat).length := by rw [hl]; omega
      have := P.new (y - M[k].1).toNat hi hi
      rw [show M[k].1 + ((y - M[k].1).toNat : Int) = y by omega] at this
      rw [List.getElem_take, List.getElem_drop] at this
      have e1 : (M[k].1 - off).toNat + (y - M[k].1).toNat = (y - off).toNat := by omega
      have e2 : d[(M[k].1 - off).toNat + (y - M[k].1).toNat]'(by omega) = c := by
        rw [← Option.some.injEq, ← hc, ← List.getElem?_eq_getElem, e1]
      rw [e2] at this
      exact this
end Go.Proofs.Ytimiokbnhneggaa
