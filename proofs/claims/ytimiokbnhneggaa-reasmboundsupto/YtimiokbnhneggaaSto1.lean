import Derived.Test.YtimiokbnhneggaaSto0
namespace Go.Proofs.Ytimiokbnhneggaa
open Go.RowKit Go.Maps
set_option maxRecDepth 100000

set_option maxHeartbeats 1000000 in
/-- Where the bytes from an offset on lie, as many as lie in one block. -/
theorem piece_any {w : World} {b n : Nat} {D : DM} (h : OwnS w b n D) {x y : Int} (h0 : 0 ≤ x) (hxy : x < y) (hy : y ≤ 18446744073709549568) {g : Nat} (hg : blk D (x / 1024) = some g)
    (k : Nat) (hk : (k : Int) = min (y - x) (1024 - x % 1024)) :
    Calls Try.prog 46 #[.map (some b), .int .u64 x, .int .u64 y] w fun e w' => e = .returned (.slice (some ⟨g, (x % 1024).toNat, none⟩) k k) ∧ w' = w := by
  have hl := look_some h (k := x / 1024) (by omega) (by omega) hg
  have HK : Hid ((min (x % 1024 + y - x) 1024).toNat - (x % 1024).toNat = k) := by show _ = _; omega
  clear h
  go_enter Try.func46, Try.ntmps46
  go_wp2
  go_ret
  refine ⟨?_, rfl⟩
  rw [← HK.out]
  rfl
/-- A block is laid for a key that has none. -/
theorem sto_made {w w1 w2 : World} {b n : Nat} {D : DM} (h : Sto w b n D) {q : Int} (hq : blk D q = none) (e1 : w1 = w.alloc (.cells (bcells (z 1024)).toArray 5))
    (ho : OwnS w2 b (n + 1) (D.put (kw q) (.held w.heap.size))) (hg : w1.grownBy w2 (some b)) :
    Sto w2 b (n + 1) (D.put (kw q) (.held w.heap.size)) ∧ blk (D.put (kw q) (.held w.heap.size)) q = some w.heap.size ∧ Fr (SB b D) w w2 ∧
      (∀ k, SB b (D.put (kw q) (.held w.heap.size)) k → SB b D k ∨ w.heap.size ≤ k) ∧ (∀ y c, At w D y c → At w2 (D.put (kw q) (.held w.heap.size)) y c) := by
  have hbw : b < w.heap.size := h.own.lt
  have hb1 : Below w.heap.size w w1 := by rw [e1]; exact (Below.refl _ _).alloc (Nat.le_refl _) _
  have hs1 : w1.heap.size = w.heap.size + 1 := by rw [e1]; simp
  have hfr1 : Fr (SB b D) w w1 := Fr.of_below hb1 (Nat.le_refl _)
  have hfr : Fr (SB b D) w w2 := hfr1.trans (T := fun k => k = b) (Fr.of_grown hg (fun k e => .inl (by simpa using e.symm))) (fun x e => .inl (.inl e))
  have hbl : ∀ k, blk (D.put (kw q) (.held w.heap.size)) k = if k = q then some w.heap.size else blk D k := fun k => by
    by_cases e : k = q
    · subst e; rw [if_pos rfl, blk_put_same h.own.isMap]
    · rw [if_neg e, blk_put_other e]
  have hne : ∀ k g, blk D k = some g → g ≠ w.heap.size := fun k g hk => by have := h.lt (.inr ⟨k, hk⟩); omega
  have hnb : ∀ k g, blk D k = some g → g ≠ b := fun k g hk e => by
    obtain ⟨l, _, hr⟩ := h.row k g hk
    obtain ⟨es, clock, hb, _⟩ := h.own
    subst e
    rw [hr.at_] at hb
    cases hb
  refine ⟨⟨ho, fun k g hk => ?_, fun k k' g hk hk' => ?_⟩, by rw [hbl, if_pos rfl], hfr, fun k hk => ?_, fun y c hy => ?_⟩
  · rw [hbl] at hk
    split at hk
    · simp only [Option.some.injEq] at hk
      subst hk
      refine ⟨z 1024, z_len _, ?_⟩
      have r1 : Row w1 w.heap.size (bcells (z 1024)) 5 := by rw [e1]; exact Row.new _ _ _
      exact r1.of_block (hg.block _ (by omega) (by simp; omega))
    · obtain ⟨l, h1, h2⟩ := h.row k g hk
      refine ⟨l, h1, (h2.kept hb1 h2.lt).of_block (hg.block _ (by have := h2.lt; omega) (by simp; exact hnb k g hk))⟩
  · rw [hbl] at hk hk'
    split at hk <;> split at hk'
    · omega
    · simp only [Option.some.injEq] at hk
      exact absurd hk.symm (hne _ _ hk')
    · simp only [Option.some.injEq] at hk'
      exact absurd hk'.symm (hne _ _ hk)
    · exact h.inj k k' g hk hk'
  · rcases hk with rfl | ⟨x, hx⟩
    · exact .inl (.inl rfl)
    · rw [hbl] at hx
      split at hx
      · simp only [Option.some.injEq] at hx
        exact .inr (by omega)
      · exact .inl (.inr ⟨x, hx⟩)
  · obtain ⟨g, h1, h2⟩ := hy
    have hnq : y / 1024 ≠ q := fun e => by rw [e, hq] at h1; cases h1
    refine ⟨g, by rw [hbl, if_neg hnq]; exact h1, ?_⟩
    have c1 := cell_kept hb1 h2
    have hl := World.block_lt_of_cell? w1 _ c1
    have he := hg.block g hl (by simp; exact hnb _ _ h1)
    rw [World.cell?_of_block (w := w1) he]
    exact c1
/-- Bytes are laid into a block. -/
theorem sto_laid {w w2 : World} {b n : Nat} {D : DM} (h : Sto w b n D) {x : Int} {g : Nat} (hg : blk D (x / 1024) = some g) {l d : List (BitVec 8)} (hl : l.length = 1024) (k : Nat)
    (hk : (k : Int) ≤ 1024 - x % 1024) (hd : k ≤ d.length) (hrow : Row w g (bcells l) 5)
    (hr : Row w2 g ((bcells l).take (x % 1024).toNat ++ bcells (d.take k) ++ (bcells l).drop ((x % 1024).toNat + k)) 5) (hf : w.grownBy w2 (some g)) :
    Sto w2 b n D ∧ Fr (SB b D) w w2 ∧ (∀ y c, At w D y c → y < x ∨ x + k ≤ y → At w2 D y c) ∧ (∀ i (hi : i < k), At w2 D (x + i) (d[i]'(by omega))) := by
  obtain ⟨m, hm⟩ : ∃ m : Nat, (m : Int) = x % 1024 := ⟨(x % 1024).toNat, by omega⟩
  have hmt : (x % 1024).toNat = m := by omega
  rw [hmt] at hr
  have hnb : g ≠ b := fun e => by
    obtain ⟨es, clock, hb, _⟩ := h.own
    rw [← e, hrow.at_] at hb
    cases hb
  have e1 : (bcells l).take m ++ bcells (d.take k) ++ (bcells l).drop (m + k) = bcells (l.take m ++ d.take k ++ l.drop (m + k)) := by simp [bcells]
  rw [e1] at hr
  have hlen : (l.take m ++ d.take k ++ l.drop (m + k)).length = 1024 := by simp; omega
  refine ⟨⟨own_of_block h.own (hf.block b h.own.lt (by simp; exact fun e => hnb e.symm)), fun k' g' hk' => ?_, h.inj⟩, Fr.of_grown hf (fun j e => .inl (.inr ⟨x / 1024, by rw [hg]; exact e⟩)), fun y c hy hyx => ?_, fun i hi => ?_⟩
  · by_cases e : g' = g
    · subst e; exact ⟨_, hlen, hr⟩
    · obtain ⟨l', h1, h2⟩ := h.row k' g' hk'
      exact ⟨l', h1, h2.of_block (hf.block g' h2.lt (by simp; exact e))⟩
  · obtain ⟨g', h1, h2⟩ := hy
    refine ⟨g', h1, ?_⟩
    by_cases e : g' = g
    · subst e
      have hq := h.inj _ _ _ h1 hg
      obtain ⟨j, hj⟩ : ∃ j : Nat, (j : Int) = y % 1024 := ⟨(y % 1024).toNat, by omega⟩
      have hjt : (y % 1024).toNat = j := by omega
      rw [hjt] at h2 ⊢
      have hj' : j < m ∨ m + k ≤ j := by omega
      have hj1 : j < 1024 := by omega
      have hc : w.cell? ⟨g', j, none⟩ = some (.int .u8 (ub (l[j]'(by omega)))) := hrow.cell j _ (bcells_get (by omega))
      rw [h2] at hc
      rw [hc]
      refine hr.cell j _ ?_
      rw [bcells_get (by omega)]
      congr 3
      rcases hj' with hj' | hj'
      · rw [List.getElem_append_left (by simp; omega), List.getElem_append_left (by simp; omega), List.getElem_take]
      · rw [List.getElem_append_right (by simp; omega), List.getElem_drop]
        congr 1
        simp
        omega
    · have hlt := World.block_lt_of_cell? w _ h2
      rw [World.cell?_of_block (w := w) (hf.block g' hlt (by simp; exact e))]
      exact h2
  · refine ⟨g, by rw [show (x + i) / 1024 = x / 1024 by omega]; exact hg, ?_⟩
    rw [show ((x + i) % 1024).toNat = m + i by omega]
    refine hr.cell _ _ ?_
    rw [bcells_get (by omega)]
    congr 3
    rw [List.getElem_append_left (by simp; omega), List.getElem_append_right (by simp; omega), List.getElem_take]
    congr 1
    simp
    omega
end Go.Proofs.Ytimiokbnhneggaa
