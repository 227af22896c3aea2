import Derived.Test.YtjbjaklbckhodabSpan
import Derived.Test.YtjbjaklbckhodabRMinus
import Derived.Test.YtjbjaklbckhodabMakes
import Derived.Deep.RegionHeld3
namespace Go.Proofs.Ytjbjaklbckhodab
open Go.RowKit
set_option maxRecDepth 100000

theorem flat_set {L : List Rg} {k : Nat} (hk : k < L.length) (z : Rg) : ((flat L).set (k * 2) (.int .u64 z.1)).set (k * 2 + 1) (.int .u64 z.2) = flat (L.set k z) := by
  have h := flat_set2 (L.take k) (L.drop (k + 1)) L[k] z
  rw [List.length_take, Nat.min_eq_left (by omega)] at h
  have e1 : L.take k ++ [L[k]] ++ L.drop (k + 1) = L := by
    rw [← List.take_succ_eq_append_getElem hk, List.take_append_drop]
  have e2 : L.take k ++ [z] ++ L.drop (k + 1) = L.set k z := by
    rw [List.set_eq_take_append_cons_drop, if_pos hk]
    simp
  rw [e1, e2] at h
  exact h
/-- A list whose first k places are marked. -/
def fillL (i : Nat) (L : List Rg) (k : Nat) : List Rg := (List.range k).map (spanOf i) ++ L.drop k
theorem fillL_zero (i : Nat) (L : List Rg) : fillL i L 0 = L := by simp [fillL]
theorem fillL_len (i : Nat) (L : List Rg) (k : Nat) (hk : k ≤ L.length) : (fillL i L k).length = L.length := by
  unfold fillL
  simp
  omega
theorem fillL_set (i : Nat) (L : List Rg) (k : Nat) (hk : k < L.length) : (fillL i L k).set k (spanOf i k) = fillL i L (k + 1) := by
  unfold fillL
  rw [List.set_append_right _ _ (by simp), List.length_map, List.length_range, Nat.sub_self, List.drop_eq_getElem_cons hk, List.set_cons_zero, List.range_succ, List.map_append, List.append_assoc]
  rfl
/-- A marked list with n more behind it. -/
def moreL (i m n : Nat) : List Rg := (List.range m).map (spanOf i) ++ (List.range n).map fun k => spanOf i (500 + k)
theorem fillL_all (i : Nat) (L : List Rg) : fillL i L L.length = moreL i L.length 0 := by simp [fillL, moreL]
theorem moreL_snoc (i m n : Nat) : moreL i m n ++ [spanOf i (500 + n)] = moreL i m (n + 1) := by
  unfold moreL
  rw [List.append_assoc, List.range_succ, List.map_append]
  rfl
theorem moreL_len (i m n : Nat) : (moreL i m n).length = m + n := by simp [moreL]
theorem moreL_low (i m n k : Nat) (hk : k < m) : (moreL i m n)[k]? = some (spanOf i k) := by
  unfold moreL
  rw [List.getElem?_append_left (by simpa using hk)]
  simp [hk]
theorem moreL_high (i m n k : Nat) (hk : m ≤ k) (hn : k < m + n) : (moreL i m n)[k]? = some (spanOf i (500 + (k - m))) := by
  unfold moreL
  have hd : k - m < n := by omega
  rw [List.getElem?_append_right (by simpa using hk)]
  simp [hd]

/-- Lists in rows of their own, each in another one. -/
structure LA (B : Nat) (w : World) (vs : List Value) (C : Nat → List Rg) : Prop where
  row : ∀ j (h : j < vs.length), w.ownsRow B 25 2 vs[j] (C j).length (flat (C j))
  apart : ∀ i j (hi : i < vs.length) (hj : j < vs.length), i ≠ j → ∀ x, vs[i].ownBlock = some x → vs[j].ownBlock ≠ some x
theorem LA.kept {B : Nat} {w w' : World} {vs : List Value} {C : Nat → List Rg} (h : LA B w vs C) (hb : Below w.heap.size w w') : LA B w' vs C := ⟨fun j hj => own_below (h.row j hj) hb, h.apart⟩
/-- A row that is no list of ranges stays where one of them is turned. -/
theorem row_far {B : Nat} {w : World} {n g : Nat} {v : Value} {xs : List Value} (h : w.ownsRow B 25 2 v n xs) (hg : v.ownBlock = some g) {k : Nat} {cs : Array Value} {t : TypeId} (hk : w.heap[k]? = some (.cells cs t (0, 0))) (ht : t ≠ 25) : k ≠ g := by
  rintro rfl
  obtain ⟨c', hc⟩ := row_type h hg
  rw [hk] at hc
  simp at hc
  exact ht hc.2
/-- One member of one list is written. -/
theorem LA.put {B : Nat} {w : World} {vs : List Value} {C : Nat → List Rg} (h : LA B w vs C) {k : Nat} (hk : k < vs.length) {g cap : Nat} (hv : vs[k] = .slice (some ⟨g, 0, none⟩) (C k).length cap) {kk : Nat} (hkk : kk < (C k).length) (z : Rg) :
    LA B (put2 w g (kk * 2) z.1 z.2) vs (fun j => if j = k then (C k).set kk z else C j) ∧ w.grownBy (put2 w g (kk * 2) z.1 z.2) (some g) := by
  have hr := h.row k hk
  rw [hv] at hr
  obtain ⟨h1, g1⟩ := hr.stored (kk * 2) (.int .u64 z.1)
  obtain ⟨h2, g2⟩ := h1.stored (kk * 2 + 1) (.int .u64 z.2)
  rw [flat_set hkk] at h2
  have hg := g1.trans g2
  refine ⟨⟨fun j hj => ?_, h.apart⟩, hg⟩
  by_cases e : j = k
  · subst e
    rw [if_pos rfl, List.length_set, hv]
    exact h2
  · rw [if_neg e]
    refine own_kept (h.row j hj) hg (fun x hx e' => ?_)
    simp only [Option.some.injEq] at e'
    exact h.apart k j hk hj (Ne.symm e) x (by rw [hv, ← e']; rfl) hx
/-- What the book's Good leaves: only the lists' own rows are turned. -/
structure Gone (w w' : World) (vs : List Value) : Prop where
  os : w'.os = w.os
  tape : w'.tape = w.tape
  output : w'.output = w.output
  size : w.heap.size ≤ w'.heap.size
  block : ∀ k, k < w.heap.size → (∀ v ∈ vs, v.ownBlock ≠ some k) → w'.heap[k]? = w.heap[k]?
theorem Gone.refl (w : World) (vs : List Value) : Gone w w vs := ⟨rfl, rfl, rfl, Nat.le_refl _, fun _ _ _ => rfl⟩
theorem Gone.below {w w' w'' : World} {vs : List Value} (h : Gone w w' vs) (hb : Below w'.heap.size w' w'') : Gone w w'' vs :=
  ⟨hb.os.trans h.os, hb.tape.trans h.tape, hb.output.trans h.output, Nat.le_trans h.size hb.size, fun k hk hv => (hb.block k (Nat.lt_of_lt_of_le hk h.size)).trans (h.block k hk hv)⟩
theorem Gone.grown {w w' w'' : World} {vs : List Value} {row : Option Nat} (h : Gone w w' vs) (hg : w'.grownBy w'' row) (hr : ∀ g, row = some g → w.heap.size ≤ g ∨ ∃ v ∈ vs, v.ownBlock = some g) : Gone w w'' vs :=
  ⟨hg.os.trans h.os, hg.tape.trans h.tape, hg.output.trans h.output, Nat.le_trans h.size hg.size, fun k hk hv => by
    rw [hg.block k (Nat.lt_of_lt_of_le hk h.size) (fun e => by
      rcases hr k e.symm with h1 | ⟨v, hm, hv'⟩
      · omega
      · exact hv v hm hv'), h.block k hk hv]⟩
/-- What is of another type than ranges stays. -/
theorem Gone.far {B : Nat} {w w' : World} {vs : List Value} {C : Nat → List Rg} (H : LA B w vs C) (h : Gone w w' vs) {k : Nat} {cs : Array Value} {t : TypeId} (hk : w.heap[k]? = some (.cells cs t (0, 0))) (ht : t ≠ 25) : w'.heap[k]? = some (.cells cs t (0, 0)) := by
  refine (h.block k (Array.getElem?_eq_some_iff.1 hk).1 (fun v hv e => ?_)).trans hk
  obtain ⟨i, hi, rfl⟩ := List.getElem_of_mem hv
  exact row_far (H.row i hi) e hk ht rfl
theorem Gone.book {B B' : Nat} {w w' : World} {vs vs' Y : List Value} {C : Nat → List Rg} {b : Nat} {lv wv : Value} (H : LA B w vs C) (h : Gone w w' vs) (K : Book B' w b lv wv vs' Y) : Book B' w' b lv wv vs' Y := by
  have hrow : ∀ {v : Value} {n : Nat} {xs : List Value}, w.ownsRow B' 22 1 v n xs → w'.ownsRow B' 22 1 v n xs := by
    intro v n xs ho
    refine ⟨ho.1, ho.2.imp id ?_⟩
    rintro ⟨g, cap, cur, h1, h2, h3, h4⟩
    exact ⟨g, cap, cur, h1, h2, h.far H h3 (by decide), h4⟩
  exact ⟨h.far H K.head (by decide), hrow K.l, hrow K.s, K.ne⟩
end Go.Proofs.Ytjbjaklbckhodab
