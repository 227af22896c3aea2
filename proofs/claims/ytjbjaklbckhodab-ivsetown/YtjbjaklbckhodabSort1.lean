import Derived.Test.YtjbjaklbckhodabIns0
import Derived.Test.YtjbjaklbckhodabHp
import Derived.Maps.AppendAt
namespace Go.Proofs.Ytjbjaklbckhodab
open Go.RowKit
set_option maxRecDepth 100000

/-- The row while a place stands open at j: what lies there does not matter. -/
def holeL (c : List Rg) (j : Nat) (y : Rg) : List Rg := c.take j ++ [y] ++ c.drop j
theorem holeL_len {c : List Rg} {j : Nat} (y : Rg) (hj : j ≤ c.length) : (holeL c j y).length = c.length + 1 := by
  unfold holeL
  simp
  omega
theorem flat_set2 (A B : List Rg) (y z : Rg) : ((flat (A ++ [y] ++ B)).set (A.length * 2) (.int .u64 z.1)).set (A.length * 2 + 1) (.int .u64 z.2) = flat (A ++ [z] ++ B) := by
  rw [show A ++ [y] ++ B = A ++ y :: B by simp, show A ++ [z] ++ B = A ++ z :: B by simp, flat_append, flat_append, flat_cons, flat_cons]
  rw [List.set_append_right _ _ (by rw [length_flat]; omega), List.set_append_right _ _ (by rw [length_flat]; omega), length_flat, show A.length * 2 - A.length * 2 = 0 by omega, show A.length * 2 + 1 - A.length * 2 = 1 by omega]
  rfl
theorem holeL_set {c : List Rg} {j : Nat} (y z : Rg) (hj : j ≤ c.length) : ((flat (holeL c j y)).set (j * 2) (.int .u64 z.1)).set (j * 2 + 1) (.int .u64 z.2) = flat (holeL c j z) := by
  have h := flat_set2 (c.take j) (c.drop j) y z
  rw [List.length_take, Nat.min_eq_left hj] at h
  exact h
theorem holeL_before {c : List Rg} {j k : Nat} (y : Rg) (hj : j ≤ c.length) (hk : k < j) : (holeL c j y)[k]? = some (nth c k) := by
  unfold holeL
  rw [nth_eq (by omega), List.append_assoc, List.getElem?_append_left (by simp; omega), List.getElem?_take_of_lt hk, List.getElem?_eq_getElem]

/-- One member goes down to its place. -/
structure InsAt (w wr : World) (g cap b : Nat) (c : List Rg) (r : Rg) (j : Nat) : Prop where
  le : j ≤ c.length
  row : ∃ y, wr.ownsRow w.heap.size 25 2 (.slice (some ⟨g, 0, none⟩) (c.length + 1) cap) (c.length + 1) (flat (holeL c j y))
  ne : b ≠ g
  lo : wr.cell? ⟨b, 0, none⟩ = some (.int .u64 r.1)
  hi : wr.cell? ⟨b, 1, none⟩ = some (.int .u64 r.2)
  ab : ∀ t ∈ c.drop j, r.1 < t.1
  bel : Below w.heap.size w wr
theorem own_drewN {w : World} {base : Nat} {e : TypeId} {size : Nat} {v : Value} {n q : Nat} {xs : List Value} (h : w.ownsRow base e size v n xs) : (w.drewN q).ownsRow base e size v n xs := h
theorem InsAt.drewN {w wr : World} {g cap b : Nat} {c : List Rg} {r : Rg} {j : Nat} (h : InsAt w wr g cap b c r j) (q : Nat) : InsAt w (wr.drewN q) g cap b c r j :=
  ⟨h.le, h.row, h.ne, h.lo, h.hi, h.ab, below_drewN h.bel q⟩
theorem InsAt.cells {w wr : World} {g cap b : Nat} {c : List Rg} {r : Rg} {j : Nat} (h : InsAt w wr g cap b c r j) (k : Nat) (hk : k < j) :
    wr.cell? ⟨g, k * 2, none⟩ = some (.int .u64 (nth c k).1) ∧ wr.cell? ⟨g, k * 2 + 1, none⟩ = some (.int .u64 (nth c k).2) := by
  obtain ⟨y, hy⟩ := h.row
  have hl := holeL_len (j := j) y h.le
  have hle := h.le
  have hg := holeL_before y h.le hk
  have hkl : k < (holeL c j y).length := by omega
  have hf := flat_get _ k hkl
  rw [List.getElem?_eq_getElem hkl] at hg
  simp only [Option.some.injEq] at hg
  rw [hg] at hf
  exact ⟨(hy.cellAt _ (by omega)).trans hf.1, (hy.cellAt _ (by omega)).trans hf.2⟩
theorem InsAt.frozen {w wr : World} {g cap b : Nat} {c : List Rg} {r : Rg} {j : Nat} (h : InsAt w wr g cap b c r j) (k : Nat) : wr.frozen? ⟨g, k, none⟩ = false := by
  obtain ⟨y, hy⟩ := h.row
  exact hy.frozenAt k
/-- The two cells of a member, written. -/
def put2 (w : World) (g k : Nat) (x y : Int) : World := (w.setCell ⟨g, k, none⟩ (.int .u64 x)).setCell ⟨g, k + 1, none⟩ (.int .u64 y)
theorem InsAt.put {w wr : World} {g cap b : Nat} {c : List Rg} {r : Rg} {j : Nat} (h : InsAt w wr g cap b c r j) (z : Rg) :
    (put2 wr g (j * 2) z.1 z.2).ownsRow w.heap.size 25 2 (.slice (some ⟨g, 0, none⟩) (c.length + 1) cap) (c.length + 1) (flat (holeL c j z)) ∧ wr.grownBy (put2 wr g (j * 2) z.1 z.2) (some g) ∧ Below w.heap.size w (put2 wr g (j * 2) z.1 z.2) := by
  obtain ⟨y, hy⟩ := h.row
  obtain ⟨h1, g1⟩ := hy.stored (j * 2) (.int .u64 z.1)
  obtain ⟨h2, g2⟩ := h1.stored (j * 2 + 1) (.int .u64 z.2)
  rw [holeL_set y z h.le] at h2
  have hg := (hy.lt g rfl).1
  exact ⟨h2, g1.trans g2, (h.bel.setCell hg _).setCell hg _⟩
theorem InsAt.down {w wr : World} {g cap b : Nat} {c : List Rg} {r : Rg} {j : Nat} (h : InsAt w wr g cap b c r (j + 1)) (hr : r.1 < (nth c j).1) :
    InsAt w (put2 wr g ((j + 1) * 2) (nth c j).1 (nth c j).2) g cap b c r j := by
  obtain ⟨h1, h2, h3⟩ := h.put (nth c j)
  have hle := h.le
  refine ⟨by omega, ⟨nth c j, ?_⟩, h.ne, h2.cell h.lo (by simpa using h.ne), h2.cell h.hi (by simpa using h.ne), ?_, h3⟩
  · unfold holeL at h1 ⊢
    rw [hole_down hle]
    exact h1
  · intro t ht
    rw [List.drop_eq_getElem_cons (by omega)] at ht
    rcases List.mem_cons.1 ht with rfl | ht
    · rw [nth_eq (by omega)] at hr; exact hr
    · exact h.ab t ht

/-- The open place may be written. -/
theorem InsAt.hole {w wr : World} {g cap b : Nat} {c : List Rg} {r : Rg} {j : Nat} (h : InsAt w wr g cap b c r j) (z : Int) :
    ∃ y0 y1, wr.cell? ⟨g, j * 2, none⟩ = some y0 ∧ (wr.setCell ⟨g, j * 2, none⟩ (.int .u64 z)).cell? ⟨g, j * 2 + 1, none⟩ = some y1 ∧ wr.frozen? ⟨g, j * 2, none⟩ = false ∧ (wr.setCell ⟨g, j * 2, none⟩ (.int .u64 z)).frozen? ⟨g, j * 2 + 1, none⟩ = false := by
  obtain ⟨y, hy⟩ := h.row
  obtain ⟨h1, _⟩ := hy.stored (j * 2) (.int .u64 z)
  have hl := hy.1
  have hl1 := h1.1
  have hle := h.le
  exact ⟨_, _, (hy.cellAt _ (by omega)).trans (List.getElem?_eq_getElem (by omega)), (h1.cellAt _ (by omega)).trans (List.getElem?_eq_getElem (by omega)), hy.frozenAt _, h1.frozenAt _⟩

/-- What the outer loop keeps. -/
structure SrtAt (w wr : World) (v : Value) (L c : List Rg) (k : Nat) : Prop where
  perm : c.Perm ((L.take k).filter fun r => decide (r.1 < r.2))
  rises : Rises c
  row : wr.ownsRow w.heap.size 25 2 v c.length (flat c)
  bel : Below w.heap.size w wr
theorem InsAt.ends {w wr : World} {g cap b : Nat} {L c : List Rg} {r : Rg} {j k : Nat} (h : InsAt w wr g cap b c r j) (hj : 0 < j → (nth c (j - 1)).1 ≤ r.1) (hc : Rises c) (hp : (c ++ [r]).Perm ((L.take (k + 1)).filter fun r => decide (r.1 < r.2))) :
    SrtAt w (put2 wr g (j * 2) r.1 r.2) (.slice (some ⟨g, 0, none⟩) (c.length + 1) cap) L (holeL c j r) (k + 1) := by
  obtain ⟨h1, h2, h3⟩ := h.put r
  refine ⟨(ins_perm c r j).trans hp, ins_rises hc h.le h.ab hj, ?_, h3⟩
  rw [holeL_len r h.le]
  exact h1
theorem SrtAt.len {w wr : World} {v : Value} {L c : List Rg} {k : Nat} (h : SrtAt w wr v L c k) : c.length ≤ k := by
  rw [h.perm.length_eq]
  exact Nat.le_trans (List.length_filter_le _ _) (by rw [List.length_take]; omega)
theorem SrtAt.skip {w wr wr' : World} {v : Value} {L c : List Rg} {k : Nat} (h : SrtAt w wr v L c k) (hk : k < L.length) (he : ¬ L[k].1 < L[k].2) (hb : Below wr.heap.size wr wr') : SrtAt w wr' v L c (k + 1) := by
  refine ⟨?_, h.rises, own_below h.row hb, h.bel.trans (hb.mono h.bel.size)⟩
  rw [List.take_succ_eq_append_getElem hk, List.filter_append]
  have : [L[k]].filter (fun r => decide (r.1 < r.2)) = [] := by simp; omega
  rw [this, List.append_nil]
  exact h.perm
theorem SrtAt.snoc {w wr : World} {v : Value} {L c : List Rg} {k : Nat} (h : SrtAt w wr v L c k) (hk : k < L.length) (he : L[k].1 < L[k].2) : (c ++ [L[k]]).Perm ((L.take (k + 1)).filter fun r => decide (r.1 < r.2)) := by
  rw [List.take_succ_eq_append_getElem hk, List.filter_append]
  have : [L[k]].filter (fun r => decide (r.1 < r.2)) = [L[k]] := by simp; omega
  rw [this]
  exact h.perm.append_right _
/-- Behind the append: the new member lies at the end. -/
theorem InsAt.start {w wr w2 : World} {v v' : Value} {L c : List Rg} {k b : Nat} {r : Rg} (h : SrtAt w wr v L c k) (hb : b < wr.heap.size) (hvb : v.ownBlock ≠ some b) (hlo : wr.cell? ⟨b, 0, none⟩ = some (.int .u64 r.1)) (hhi : wr.cell? ⟨b, 1, none⟩ = some (.int .u64 r.2))
    (hown : w2.ownsRow w.heap.size 25 2 v' (c.length + 1) (flat c ++ [.int .u64 r.1, .int .u64 r.2])) (hg : wr.grownBy w2 v.ownBlock) (hat : v'.ownBlock = v.ownBlock ∨ v'.ownBlock = some wr.heap.size) :
    ∃ g cap, v' = .slice (some ⟨g, 0, none⟩) (c.length + 1) cap ∧ InsAt w w2 g cap b c r c.length := by
  have hrow := hown
  obtain ⟨_, ⟨rfl, hn⟩ | ⟨g, cap, cur, rfl, hB, _⟩⟩ := hown
  · omega
  · refine ⟨g, cap, rfl, Nat.le_refl _, ⟨r, ?_⟩, ?_, hg.cell hlo (by simpa using fun e => hvb e.symm), hg.cell hhi (by simpa using fun e => hvb e.symm), by simp, ?_⟩
    · unfold holeL
      rw [List.take_length, List.drop_length, List.append_nil, flat_append, flat_cons]
      exact hrow
    · rintro rfl
      rcases hat with e | e
      · exact hvb e.symm
      · simp [Value.ownBlock] at e
        omega
    · exact ⟨hg.os.trans h.bel.os, hg.tape.trans h.bel.tape, hg.output.trans h.bel.output, Nat.le_trans h.bel.size hg.size, fun i hi => (hg.block i (Nat.lt_of_lt_of_le hi h.bel.size) (fun e => by have := own_ge h.row e.symm; omega)).trans (h.bel.block i hi)⟩
theorem rempty_any (lo hi : Int) (w : World) :
    Calls Try.prog 48 #[.agg #[.int .u64 lo, .int .u64 hi]] w fun e w' => e = .returned (.bool (decide (hi ≤ lo))) ∧ w' = w.alloc (.cells #[.int .u64 lo, .int .u64 hi] 25) := by
  go_enter Try.func48, Try.ntmps48
  go_wp2
  go_ret
  exact ⟨rfl, rfl⟩
end Go.Proofs.Ytjbjaklbckhodab
