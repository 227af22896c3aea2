import Derived.Test.YtaklbofbhanjgaaDoorCrc
import Derived.WalkKit
import Derived.WalkSpells
import Derived.Deep.Draws
import Derived.Deep.QuietTactic
namespace Go.Proofs.YtaklbofbhanjgaaDoor
open Go.RowKit
set_option maxRecDepth 100000

/-- A stretch: from its first number on, ahead of its second. -/
abbrev Rg := Int × Int
/-- The cells of a list of stretches. -/
def flat (L : List Rg) : List Value := L.flatMap fun r => [.int .u64 r.1, .int .u64 r.2]
theorem length_flat (L : List Rg) : (flat L).length = L.length * 2 := by
  unfold flat
  induction L with
  | nil => rfl
  | cons a l ih => simp only [List.flatMap_cons, List.length_append, List.length_cons, List.length_nil, ih]; omega
theorem flat_append (A B : List Rg) : flat (A ++ B) = flat A ++ flat B := by simp [flat]
theorem flat_cons (r : Rg) (B : List Rg) : flat (r :: B) = .int .u64 r.1 :: .int .u64 r.2 :: flat B := by simp [flat]
theorem flat_take (L : List Rg) : ∀ i, flat (L.take i) = (flat L).take (i * 2) := by
  induction L with
  | nil => intro i; simp [flat]
  | cons a l ih =>
    intro i
    cases i with
    | zero => simp [flat]
    | succ i =>
      rw [List.take_succ_cons, flat_cons, flat_cons, ih, show (i + 1) * 2 = i * 2 + 1 + 1 by omega, List.take_succ_cons, List.take_succ_cons]
theorem flat_drop (L : List Rg) : ∀ i, flat (L.drop i) = (flat L).drop (i * 2) := by
  induction L with
  | nil => intro i; simp [flat]
  | cons a l ih =>
    intro i
    cases i with
    | zero => simp [flat]
    | succ i =>
      rw [List.drop_succ_cons, flat_cons, ih, show (i + 1) * 2 = i * 2 + 1 + 1 by omega, List.drop_succ_cons, List.drop_succ_cons]
theorem flat_get (L : List Rg) : ∀ i (h : i < L.length), (flat L)[i * 2]? = some (.int .u64 (L[i]).1) ∧ (flat L)[i * 2 + 1]? = some (.int .u64 (L[i]).2) := by
  induction L with
  | nil => intro i h; simp at h
  | cons a l ih =>
    intro i h
    rw [flat_cons]
    cases i with
    | zero => simp
    | succ i =>
      have := ih i (by simpa using h)
      rw [show (i + 1) * 2 = i * 2 + 1 + 1 by omega]
      simpa using this
theorem flat_one (L : List Rg) : ∀ v ∈ flat L, v.oneCell' = true := by
  intro v hv
  simp only [flat, List.mem_flatMap, List.mem_cons, List.not_mem_nil, or_false] at hv
  obtain ⟨r, _, rfl | rfl⟩ := hv <;> rfl

/-- How many at the front are so. -/
def front (q : Rg → Bool) (L : List Rg) : Nat := (L.takeWhile q).length
theorem front_le (q : Rg → Bool) (L : List Rg) : front q L ≤ L.length := by
  unfold front; exact (List.takeWhile_sublist q).length_le
theorem front_eq (q : Rg → Bool) (L : List Rg) : ∀ k, k ≤ L.length → (∀ t (h : t < L.length), t < k → q L[t] = true) → (∀ (h : k < L.length), q L[k] = false) → front q L = k := by
  unfold front
  induction L with
  | nil => intro k hk _ _; simp at hk; simp [hk]
  | cons a l ih =>
    intro k hk h1 h2
    cases k with
    | zero => have := h2 (by simp); simp at this; simp [this]
    | succ k =>
      have ha : q a = true := h1 0 (by simp) (by omega)
      rw [List.takeWhile_cons, if_pos ha, List.length_cons, ih k (by simpa using hk) (fun t h ht => h1 (t + 1) (by simpa using h) (by omega)) (fun h => h2 (by simpa using h))]
theorem front_spec (q : Rg → Bool) (L : List Rg) : (∀ t (h : t < L.length), t < front q L → q L[t] = true) ∧ (∀ (h : front q L < L.length), q L[front q L] = false) := by
  unfold front
  induction L with
  | nil => simp
  | cons a l ih =>
    cases ha : q a with
    | true =>
      have e : (a :: l).takeWhile q = a :: l.takeWhile q := by simp [ha]
      rw [e]
      refine ⟨fun t h ht => ?_, fun h => ?_⟩
      · cases t with
        | zero => simpa using ha
        | succ t => simpa using ih.1 t (by simpa using h) (by simpa using ht)
      · simpa using ih.2 (by simpa using h)
    | false =>
      have e : (a :: l).takeWhile q = [] := by simp [ha]
      rw [e]
      exact ⟨fun t h ht => by simp at ht, fun h => by simpa using ha⟩

/-- A set's stretches, as they must be: none empty, rising, apart. -/
def Fit (L : List Rg) : Prop := (∀ r ∈ L, 0 ≤ r.1 ∧ r.1 < r.2 ∧ r.2 ≤ 18446744073709551615) ∧ L.Pairwise (fun a b => a.2 < b.1)
theorem Fit.at {L : List Rg} (h : Fit L) (i : Nat) (hi : i < L.length) : 0 ≤ (L[i]).1 ∧ (L[i]).1 < (L[i]).2 ∧ (L[i]).2 ≤ 18446744073709551615 := h.1 _ (List.getElem_mem hi)
theorem Fit.lt {L : List Rg} (h : Fit L) (i j : Nat) (hij : i < j) (hj : j < L.length) : (L[i]).2 < (L[j]).1 := (List.pairwise_iff_getElem.1 h.2) i j (by omega) hj hij
theorem Fit.mono_hi {L : List Rg} (h : Fit L) (i j : Nat) (hij : i ≤ j) (hj : j < L.length) : (L[i]).2 ≤ (L[j]).2 := by
  by_cases e : i = j
  · subst e; omega
  · have := h.lt i j (by omega) hj; have := h.at j hj; omega
theorem Fit.mono_lo {L : List Rg} (h : Fit L) (i j : Nat) (hij : i ≤ j) (hj : j < L.length) : (L[i]).1 ≤ (L[j]).1 := by
  by_cases e : i = j
  · subst e; omega
  · have := h.lt i j (by omega) hj; have := h.at i (by omega); omega

/-- The i-th stretch (where there is one). -/
def nth (L : List Rg) (i : Nat) : Rg := L[i]?.getD (0, 0)
theorem nth_eq {L : List Rg} {i : Nat} (h : i < L.length) : nth L i = L[i] := by simp [nth, h]
theorem front_nth (q : Rg → Bool) (L : List Rg) (k : Nat) (hk : k ≤ L.length) (h1 : ∀ t, t < k → q (nth L t) = true) (h2 : ∀ t, k ≤ t → t < L.length → q (nth L t) = false) : front q L = k :=
  front_eq q L k hk (fun t h ht => by rw [← nth_eq h]; exact h1 t ht) (fun h => by rw [← nth_eq h]; exact h2 k (Nat.le_refl _) h)

/-- What reading functions take: where the list's head lies, and its cells. -/
structure View (w : World) (p : Nat) (a : Option Addr) (cap : Nat) (L : List Rg) : Prop where
  head : w.cell? ⟨p, 0, none⟩ = some (.slice a L.length cap)
  row : ∀ i (h : i < L.length), ∃ g, a = some ⟨g, 0, none⟩ ∧ w.cell? ⟨g, i * 2, none⟩ = some (.int .u64 (L[i]).1) ∧ w.cell? ⟨g, i * 2 + 1, none⟩ = some (.int .u64 (L[i]).2)
  le : L.length ≤ cap
  cp : cap ≤ maxLen
  few : L.length < 1152921504606846976
  shape : (a = none ∧ cap = 0) ∨ ∃ g, a = some ⟨g, 0, none⟩


theorem View.kept {w w' : World} {p : Nat} {a : Option Addr} {cap : Nat} {L : List Rg} (V : View w p a cap L) (hb : Below w.heap.size w w') : View w' p a cap L :=
  ⟨cell_kept hb V.head, fun i h => by obtain ⟨g, h1, h2, h3⟩ := V.row i h; exact ⟨g, h1, cell_kept hb h2, cell_kept hb h3⟩, V.le, V.cp, V.few, V.shape⟩
theorem View.at {w : World} {p g : Nat} {cap : Nat} {L : List Rg} (V : View w p (some ⟨g, 0, none⟩) cap L) (i : Nat) (h : i < L.length) : w.cell? ⟨g, i * 2, none⟩ = some (.int .u64 (L[i]).1) ∧ w.cell? ⟨g, i * 2 + 1, none⟩ = some (.int .u64 (L[i]).2) := by
  obtain ⟨g', e, h1, h2⟩ := V.row i h
  simp at e
  subst e
  exact ⟨h1, h2⟩
theorem below_drewN {B : Nat} {a w : World} (h : Below B a w) (q : Nat) : Below B a (w.drewN q) := ⟨h.os, h.tape, h.output, h.size, h.block⟩

end Go.Proofs.YtaklbofbhanjgaaDoor
