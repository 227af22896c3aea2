import Derived.Test.YtfhjiggaacgncaaDoorTx3
namespace Go.Proofs.YtfhjiggaacgncaaDoor.Tx
open Go.RowKit Go.Maps Go.Sort
set_option maxRecDepth 100000

/-- Rows of one type stay. -/
def Stay (t : TypeId) (w w' : World) : Prop := ∀ (k : Nat) (cs : Array Value), w.heap[k]? = some (.cells cs t (0, 0)) → w'.heap[k]? = some (.cells cs t (0, 0))
theorem own_stay {w w' : World} {B : Nat} {e : TypeId} {size n : Nat} {v : Value} {xs : List Value} (h : w.ownsRow B e size v n xs) (hs : Stay e w w') : w'.ownsRow B e size v n xs := by
  refine ⟨h.1, h.2.imp id ?_⟩
  rintro ⟨g, cap, cur, h1, h2, h3, h4⟩
  exact ⟨g, cap, cur, h1, h2, hs g cur h3, h4⟩
theorem stay_below {t : TypeId} {w w' : World} (hb : Below w.heap.size w w') : Stay t w w' := fun k _ h => (hb.block k (Array.getElem?_eq_some_iff.1 h).1).trans h
theorem stay_kept {B : Nat} {w w' : World} {b : Nat} {lv wv : Value} {X Y : List Value} (H : Book B w b lv wv X Y) (h : Kept w w' b lv wv) {t : TypeId} (h1 : t ≠ 67) (h2 : t ≠ 30) : Stay t w w' := fun k cs hk => by
  refine (h.block k (Array.getElem?_eq_some_iff.1 hk).1 (fun e => ?_) (fun e => ?_) (fun e => ?_)).trans hk
  · subst e
    rw [H.head] at hk
    simp at hk
    exact h1 hk.2.symm
  · obtain ⟨cs', hc⟩ := row_type H.l e.symm
    rw [hk] at hc
    simp at hc
    exact h2 hc.2
  · obtain ⟨cs', hc⟩ := row_type H.s e.symm
    rw [hk] at hc
    simp at hc
    exact h2 hc.2
theorem below_kept {B : Nat} {w w' : World} {b : Nat} {lv wv : Value} {X Y : List Value} (H : Book B w b lv wv X Y) (h : Kept w w' b lv wv) (hb : B ≤ b) (hB : B ≤ w.heap.size) : Below B w w' :=
  ⟨h.os, h.tape, h.output, h.size, fun k hk => h.block k (by omega) (by omega) (fun e => by have := own_ge H.l e.symm; omega) (fun e => by have := own_ge H.s e.symm; omega)⟩
/-- A book with its texts, each in a row of its own, and what they were. -/
structure TB (B b : Nat) (m : Nat) (w : World) (X : List Value) : Prop where
  ex : ∃ lv wv Y C, Book B w b lv wv X Y ∧ Y.length = X.length ∧ LA B w X C ∧ (∀ i (h : i < Y.length), w.ownsRow B 5 1 Y[i] (C i).length (bcells (C i))) ∧ ∀ j, j < X.length → (C j).length ≤ m
  le : B ≤ w.heap.size
  bb : B ≤ b
theorem TB.stay {B b m : Nat} {w w' : World} {X : List Value} (h : TB B b m w X) (h5 : Stay 5 w w') (h25 : Stay 30 w w') (h50 : Stay 67 w w') (hs : w.heap.size ≤ w'.heap.size) : TB B b m w' X := by
  obtain ⟨lv, wv, Y, C, k1, k2, k3, k4, k5⟩ := h.ex
  exact ⟨⟨lv, wv, Y, C, ⟨h50 b _ k1.head, own_stay k1.l h25, own_stay k1.s h25, k1.ne⟩, k2, ⟨fun j hj => own_stay (k3.row j hj) h5, k3.apart⟩, fun i hi => own_stay (k4 i hi) h5, k5⟩, Nat.le_trans h.le hs, h.bb⟩
theorem TB.below {B b m : Nat} {w w' : World} {X : List Value} (h : TB B b m w X) (hb : Below w.heap.size w w') : TB B b m w' X := h.stay (stay_below hb) (stay_below hb) (stay_below hb) hb.size
theorem TB.lt {B b m : Nat} {w : World} {X : List Value} (h : TB B b m w X) {j : Nat} (hj : j < X.length) {g : Nat} (e : X[j].ownBlock = some g) : g < w.heap.size := by
  obtain ⟨lv, wv, Y, C, k1, k2, k3, k4, k5⟩ := h.ex
  exact own_lt (k3.row j hj) e
/-- A new book. -/
theorem TB.new {B m : Nat} (w : World) (hB : B ≤ w.heap.size) : TB B w.heap.size m (w.alloc (.cells #[.slice none 0 0, .slice none 0 0] 67)) [] :=
  ⟨⟨.slice none 0 0, .slice none 0 0, [], fun _ => [], ⟨heap_alloc_new w _, ⟨rfl, .inl ⟨rfl, rfl⟩⟩, ⟨rfl, .inl ⟨rfl, rfl⟩⟩, fun g e => by simp [Value.ownBlock] at e⟩, rfl, ⟨fun j hj => by simp at hj, fun i j hi => by simp at hi⟩, fun i hi => by simp at hi, fun j hj => by simp at hj⟩, by simp; omega, hB⟩
/-- One text more. -/
theorem TB.keep {B b m : Nat} {wx : World} {X : List Value} (hx : TB B b m wx X) {v : Value} {bs : List (BitVec 8)} (ov : wx.ownsRow B 5 1 v bs.length (bcells bs)) (hap : ∀ j (hj : j < X.length) g, X[j].ownBlock = some g → v.ownBlock ≠ some g) (hm : bs.length ≤ m) (hmm : m ≤ 140737488355200) (hX : X.length ≤ 1000000000000) :
    Calls Tryd.prog 46 #[.pointer (some ⟨b, 0, none⟩), v] wx fun e w' => e = .returned (.tuple #[]) ∧ TB B b m w' (X ++ [v]) ∧ (∀ t, t ≠ 67 → t ≠ 30 → Stay t wx w') ∧ Below B wx w' := by
  obtain ⟨lv, wv, Y, C, k1, k2, k3, k4, k5⟩ := hx.ex
  obtain ⟨a, cap, rfl, hC⟩ := own_cells ov
  have hz : a = none → cap = 0 := fun e => by
    rcases ov.2 with ⟨e', _⟩ | ⟨g, cap', cur, e', _⟩
    · simp only [Value.slice.injEq] at e'; exact e'.2.2
    · simp only [Value.slice.injEq] at e'; rw [e] at e'; cases e'.1
  have hty : ∀ ad, a = some ad → ∃ cs, wx.heap[ad.block]? = some (.cells cs 5 (0, 0)) := fun ad e => by
    rcases ov.2 with ⟨e', _⟩ | ⟨g, cap', cur, e', _, hg, _⟩
    · simp only [Value.slice.injEq] at e'; rw [e] at e'; cases e'.1
    · simp only [Value.slice.injEq] at e'
      rw [e] at e'
      simp only [Option.some.injEq] at e'
      rw [e'.1]
      exact ⟨_, hg⟩
  refine (keep_any k1 hx.le hC (fun ad e => ?_) (by omega) (by omega) (by omega) hz).mono ?_
  · obtain ⟨cs, hc⟩ := hty ad e
    refine ⟨fun e' => ?_, fun e' => ?_, fun e' => ?_⟩
    · rw [e', k1.head] at hc
      simp at hc
    · obtain ⟨cs', hc'⟩ := row_type k1.l e'.symm
      rw [hc] at hc'
      simp at hc'
    · obtain ⟨cs', hc'⟩ := row_type k1.s e'.symm
      rw [hc] at hc'
      simp at hc'
  · rintro e w' ⟨rfl, lv', wv', u', hB', hu', hK, _, _⟩
    have hst : ∀ t, t ≠ 67 → t ≠ 30 → Stay t wx w' := fun t h1 h2 => stay_kept k1 hK h1 h2
    have h5 := hst 5 (by decide) (by decide)
    have hbel := below_kept k1 hK hx.bb hx.le
    refine ⟨rfl, ⟨⟨lv', wv', Y ++ [u'], fun j => if j < X.length then C j else bs, hB', by simp [k2], ⟨fun j hj => ?_, fun i j hi hj hij x hx' => ?_⟩, fun i hi => ?_, fun j hj => ?_⟩, Nat.le_trans hx.le hbel.size, hx.bb⟩, hst, hbel⟩
    · by_cases e : j < X.length
      · rw [if_pos e, List.getElem_append_left e]
        exact own_stay (k3.row j e) h5
      · have e' : j = X.length := by simp at hj; omega
        subst e'
        rw [if_neg (by omega), List.getElem_concat_length rfl]
        exact own_stay ov h5
    · by_cases ei : i < X.length
      · rw [List.getElem_append_left ei] at hx'
        by_cases ej : j < X.length
        · rw [List.getElem_append_left ej]
          exact k3.apart i j ei ej hij x hx'
        · have e' : j = X.length := by simp at hj; omega
          subst e'
          rw [List.getElem_concat_length rfl]
          exact hap i ei x hx'
      · have e' : i = X.length := by simp at hi; omega
        subst e'
        rw [List.getElem_concat_length rfl] at hx'
        have ej : j < X.length := by simp at hj; omega
        rw [List.getElem_append_left ej]
        intro e2
        exact hap j ej x e2 hx'
    · by_cases e : i < Y.length
      · rw [List.getElem_append_left e]
        show w'.ownsRow B 5 1 _ (if i < X.length then C i else bs).length (bcells (if i < X.length then C i else bs))
        rw [if_pos (by omega)]
        exact own_stay (k4 i e) h5
      · have e' : i = Y.length := by simp at hi; omega
        subst e'
        rw [List.getElem_concat_length rfl]
        show w'.ownsRow B 5 1 _ (if Y.length < X.length then C Y.length else bs).length (bcells (if Y.length < X.length then C Y.length else bs))
        rw [if_neg (by omega)]
        exact own_mono hu' hx.le
    · by_cases e : j < X.length
      · simp only [if_pos e]; exact k5 j e
      · simp only [if_neg e]; exact hm
/-- All is still what it was, and each has a row of its own. -/
theorem TB.good {B b m : Nat} {w : World} {X : List Value} (h : TB B b m w X) (hmm : m ≤ 140737488355200) (hX : X.length ≤ 1000000000000) :
    Calls Tryd.prog 32 #[.pointer (some ⟨b, 0, none⟩)] w fun e w' => e = .returned (.bool true) ∧ (∀ t, t ≠ 5 → Stay t w w') ∧ Below B w w' := by
  obtain ⟨lv, wv, Y, C, k1, k2, k3, k4, k5⟩ := h.ex
  refine (good_any k1 k2 k3 (fun i hi => ?_) hX h.le (fun j hj => Nat.le_trans (k5 j hj) hmm)).mono ?_
  · have hi' : i < Y.length := by omega
    obtain ⟨a, c, e, hC⟩ := own_cells (k4 i hi')
    exact ⟨a, c, by rw [List.getElem?_eq_getElem hi', e], hC⟩
  · rintro e w' ⟨rfl, hG⟩
    refine ⟨rfl, fun t ht k cs hk => hG.far k3 hk ht, hG.os, hG.tape, hG.output, hG.size, fun k hk => hG.block k (Nat.lt_of_lt_of_le hk h.le) (fun v hv e => ?_)⟩
    obtain ⟨i, hi, rfl⟩ := List.getElem_of_mem hv
    have := own_ge (k3.row i hi) e
    omega
end Go.Proofs.YtfhjiggaacgncaaDoor.Tx
