import Derived.Test.YtjbjaklbckhodabGd1
import Derived.Test.YtjbjaklbckhodabMeets1
import Derived.Test.YtjbjaklbckhodabSorted
import Derived.Test.YtjbjaklbckhodabAwake
import Derived.Test.YtjbjaklbckhodabMiss
namespace Go.Proofs.Ytjbjaklbckhodab
open Go.RowKit
set_option maxRecDepth 100000

/-- Rows of other types than a book's stay. -/
structure Still (w w' : World) : Prop where
  size : w.heap.size ≤ w'.heap.size
  rows : ∀ (g : Nat) (cs : Array Value) (t : TypeId), w.heap[g]? = some (.cells cs t (0, 0)) → t ≠ 22 → t ≠ 36 → w'.heap[g]? = some (.cells cs t (0, 0))
theorem Still.below {w w' : World} (hb : Below w.heap.size w w') : Still w w' := ⟨hb.size, fun g _ _ h _ _ => (hb.block g (Array.getElem?_eq_some_iff.1 h).1).trans h⟩
theorem Still.trans {w w' w'' : World} (h : Still w w') (h' : Still w' w'') : Still w w'' := ⟨Nat.le_trans h.size h'.size, fun g cs t e t1 t2 => h'.rows g cs t (h.rows g cs t e t1 t2) t1 t2⟩
theorem Still.own {w w' : World} (h : Still w w') {B n : Nat} {v : Value} {xs : List Value} (ho : w.ownsRow B 25 2 v n xs) : w'.ownsRow B 25 2 v n xs := by
  refine ⟨ho.1, ho.2.imp id ?_⟩
  rintro ⟨g, cap, cur, h1, h2, h3, h4⟩
  exact ⟨g, cap, cur, h1, h2, h.rows _ _ _ h3 (by decide) (by decide), h4⟩
theorem Still.set {w w' : World} (h : Still w w') {p : Nat} {v : Value} {L : List Rg} (S : SetAt w p v L) : SetAt w' p v L := ⟨h.rows _ _ _ S.hp (by decide) (by decide), h.own S.own⟩

/-- A book with its lists in rows of their own; G: rows that are none of them. -/
structure Bk (W0 : Nat) (w : World) (b : Nat) (lv wv : Value) (vs Y : List Value) (Cs : List (List Rg)) (G : Nat → Prop) : Prop where
  book : Book W0 w b lv wv vs Y
  at_ : W0 ≤ b
  ny : Y.length = vs.length
  nc : Cs.length = vs.length
  la : LA W0 w vs (fun j => Cs.getD j [])
  was : ∀ i, i < vs.length → ∃ u, Y[i]? = some u ∧ w.ownsRow W0 25 2 u (Cs.getD i []).length (flat (Cs.getD i []))
  sep : ∀ x, G x → x < w.heap.size ∧ ∀ u ∈ vs, u.ownBlock ≠ some x
  few : ∀ L ∈ Cs, L.length ≤ 8796093022100
theorem Book.kept {B : Nat} {w w' : World} {b : Nat} {lv wv : Value} {X Y : List Value} (h : Book B w b lv wv X Y) (hb : Below w.heap.size w w') : Book B w' b lv wv X Y :=
  ⟨(hb.block b (Array.getElem?_eq_some_iff.1 h.head).1).trans h.head, own_below h.l hb, own_below h.s hb, h.ne⟩
theorem Bk.kept {W0 : Nat} {w w' : World} {b : Nat} {lv wv : Value} {vs Y : List Value} {Cs : List (List Rg)} {G : Nat → Prop} (H : Bk W0 w b lv wv vs Y Cs G) (hb : Below w.heap.size w w') : Bk W0 w' b lv wv vs Y Cs G :=
  ⟨H.book.kept hb, H.at_, H.ny, H.nc, H.la.kept hb, fun i hi => by
    obtain ⟨u, h1, h2⟩ := H.was i hi
    exact ⟨u, h1, own_below h2 hb⟩, fun x hx => ⟨Nat.lt_of_lt_of_le (H.sep x hx).1 hb.size, (H.sep x hx).2⟩, H.few⟩
/-- One more row is told apart: one that is newer than all lists. -/
theorem Bk.also {W0 : Nat} {w w' : World} {b : Nat} {lv wv : Value} {vs Y : List Value} {Cs : List (List Rg)} {G : Nat → Prop} (H : Bk W0 w b lv wv vs Y Cs G) (hb : Below w.heap.size w w') (v : Value) (hv : ∀ x, v.ownBlock = some x → w.heap.size ≤ x ∧ x < w'.heap.size) : Bk W0 w' b lv wv vs Y Cs (fun x => G x ∨ v.ownBlock = some x) := by
  have K := H.kept hb
  refine ⟨K.book, K.at_, K.ny, K.nc, K.la, K.was, fun x hx => ?_, K.few⟩
  rcases hx with hx | hx
  · exact K.sep x hx
  · refine ⟨(hv x hx).2, fun u hu e => ?_⟩
    obtain ⟨i, hi, rfl⟩ := List.getElem_of_mem hu
    have := lt_of_own (H.la.row i hi) e
    have := (hv x hx).1
    omega
theorem bk_new {W0 : Nat} {w : World} {b : Nat} (hh : w.heap[b]? = some (.cells #[.slice none 0 0, .slice none 0 0] 36 (0, 0))) (hb : W0 ≤ b) (G : Nat → Prop) (hG : ∀ x, G x → x < w.heap.size) : Bk W0 w b (.slice none 0 0) (.slice none 0 0) [] [] [] G :=
  ⟨⟨hh, World.ownsRow_nil _ _ _ _, World.ownsRow_nil _ _ _ _, fun g e => by simp [Value.ownBlock] at e⟩, hb, rfl, rfl, ⟨fun j h => by simp at h, fun i j h => by simp at h⟩, fun i h => by simp at h, fun x hx => ⟨hG x hx, fun u hu => by simp at hu⟩, fun L h => by simp at h⟩

theorem getD_left {α : Type} (l : List α) (x d : α) (j : Nat) (h : j < l.length) : (l ++ [x]).getD j d = l.getD j d := by
  simp [List.getD, List.getElem?_append_left h]
theorem getD_right {α : Type} (l : List α) (x d : α) (j : Nat) (h : j = l.length) : (l ++ [x]).getD j d = x := by
  subst h
  simp [List.getD]

/-- Keep of a list whose row is none of those. -/
theorem Bk.keep {W0 : Nat} {w1 : World} {b : Nat} {lv wv : Value} {vs Y : List Value} {Cs : List (List Rg)} {G : Nat → Prop} (K : Bk W0 w1 b lv wv vs Y Cs G) (hW : W0 ≤ w1.heap.size) {R : List Rg} {u : Value} (ho : w1.ownsRow W0 25 2 u R.length (flat R)) (hap : ∀ x, u.ownBlock = some x → (∀ v ∈ vs, v.ownBlock ≠ some x) ∧ ¬ G x) (hR : R.length ≤ 8796093022100) (hn : vs.length ≤ 60) :
    Calls Try.prog 12 #[.pointer (some ⟨b, 0, none⟩), u] w1 fun e w' => e = .returned (.tuple #[]) ∧ ∃ lv' wv' u', Bk W0 w' b lv' wv' (vs ++ [u]) (Y ++ [u']) (Cs ++ [R]) G ∧ Still w1 w' ∧ Below W0 w1 w' := by
  obtain ⟨a, cap, rfl, hC⟩ := own_cells ho
  have hsep : ∀ ad, a = some ad → ad.block ≠ b ∧ some ad.block ≠ lv.ownBlock ∧ some ad.block ≠ wv.ownBlock := by
    rintro ad rfl
    obtain ⟨cs, hcs⟩ := row_type ho (g := ad.block) rfl
    refine ⟨fun e => ?_, fun e => ?_, fun e => ?_⟩
    · rw [e, K.book.head] at hcs
      simp at hcs
    · obtain ⟨c2, h2⟩ := row_type K.book.l e.symm
      rw [hcs] at h2
      simp at h2
    · obtain ⟨c2, h2⟩ := row_type K.book.s e.symm
      rw [hcs] at h2
      simp at h2
  have hny := K.ny
  refine (keep_any (cap := cap) K.book hW hC hsep (by omega) (by omega) (by omega)).mono ?_
  rintro e w' ⟨rfl, lv', wv', u', hBk, hu', hK, _, _⟩
  have hst : Still w1 w' := by
    refine ⟨hK.size, fun g cs t hg t1 t2 => (hK.block g (Array.getElem?_eq_some_iff.1 hg).1 ?_ ?_ ?_).trans hg⟩
    · rintro rfl
      rw [K.book.head] at hg
      simp at hg
      exact t2 hg.2.symm
    · intro e
      obtain ⟨c2, h2⟩ := row_type K.book.l e.symm
      rw [hg] at h2
      simp at h2
      exact t1 h2.2
    · intro e
      obtain ⟨c2, h2⟩ := row_type K.book.s e.symm
      rw [hg] at h2
      simp at h2
      exact t1 h2.2
  refine ⟨rfl, lv', wv', u', ⟨hBk, K.at_, by simp [hny], by simp [K.nc], ⟨fun j hj => ?_, fun i j hi hj hij x hx hy => ?_⟩, fun i hi => ?_, fun x hx => ⟨Nat.lt_of_lt_of_le (K.sep x hx).1 hK.size, fun v hv => ?_⟩, fun L hL => ?_⟩, hst, ?_⟩
  · by_cases h : j < vs.length
    · rw [List.getElem_append_left h]
      show w'.ownsRow W0 25 2 _ ((Cs ++ [R]).getD j []).length (flat ((Cs ++ [R]).getD j []))
      rw [getD_left _ _ _ _ (by rw [K.nc]; exact h)]
      exact hst.own (K.la.row j h)
    · have hj' : j = vs.length := by simp at hj; omega
      subst hj'
      rw [List.getElem_concat_length rfl]
      show w'.ownsRow W0 25 2 _ ((Cs ++ [R]).getD vs.length []).length (flat ((Cs ++ [R]).getD vs.length []))
      rw [getD_right _ _ _ _ K.nc.symm]
      exact hst.own ho
  · by_cases h1 : i < vs.length
    · by_cases h2 : j < vs.length
      · rw [List.getElem_append_left h1] at hx
        rw [List.getElem_append_left h2] at hy
        exact K.la.apart i j h1 h2 hij x hx hy
      · have hj' : j = vs.length := by simp at hj; omega
        subst hj'
        rw [List.getElem_append_left h1] at hx
        rw [List.getElem_concat_length rfl] at hy
        exact (hap x hy).1 _ (List.getElem_mem h1) hx
    · have hi' : i = vs.length := by simp at hi; omega
      subst hi'
      have h2 : j < vs.length := by simp at hj; omega
      rw [List.getElem_concat_length rfl] at hx
      rw [List.getElem_append_left h2] at hy
      exact (hap x hx).1 _ (List.getElem_mem h2) hy
  · by_cases h : i < vs.length
    · obtain ⟨y, h1, h2⟩ := K.was i h
      rw [getD_left _ _ _ _ (by rw [K.nc]; exact h)]
      exact ⟨y, by rw [List.getElem?_append_left (by omega)]; exact h1, hst.own h2⟩
    · have hi' : i = vs.length := by simp at hi; omega
      subst hi'
      rw [getD_right _ _ _ _ K.nc.symm]
      exact ⟨u', by rw [← hny]; simp, own_mono hu' hW⟩
  · rcases List.mem_append.1 hv with h | h
    · exact (K.sep x hx).2 v h
    · simp only [List.mem_singleton] at h
      subst h
      exact fun e => (hap x e).2 hx
  · rcases List.mem_append.1 hL with h | h
    · exact K.few L h
    · simp only [List.mem_singleton] at h
      subst h
      exact hR
  · refine ⟨hK.os, hK.tape, hK.output, hK.size, fun k hk => hK.block k (by omega) (by have := K.at_; omega) (fun e => ?_) (fun e => ?_)⟩
    · have := own_ge K.book.l e.symm
      omega
    · have := own_ge K.book.s e.symm
      omega

/-- Good of the book: no row that was told apart is turned. -/
theorem Bk.good {W0 : Nat} {w : World} {b : Nat} {lv wv : Value} {vs Y : List Value} {Cs : List (List Rg)} {G : Nat → Prop} (H : Bk W0 w b lv wv vs Y Cs G) (hW : W0 ≤ w.heap.size) (hn : vs.length ≤ 64) :
    Calls Try.prog 15 #[.pointer (some ⟨b, 0, none⟩)] w fun e w' => e = .returned (.bool true) ∧ Below W0 w w' ∧ (∀ B v n xs, w.ownsRow B 25 2 v n xs → (∀ x, v.ownBlock = some x → G x) → w'.ownsRow B 25 2 v n xs) ∧ (∀ p v L, SetAt w p v L → (∀ x, v.ownBlock = some x → G x) → SetAt w' p v L) := by
  have hnc := H.nc
  refine (good_any H.book H.ny H.la (fun i hi => ?_) hn hW (fun j hj => ?_)).mono ?_
  · obtain ⟨u, h1, h2⟩ := H.was i hi
    obtain ⟨a, cap, rfl, hC⟩ := own_cells h2
    exact ⟨a, cap, h1, hC⟩
  · have hj' : j < Cs.length := by omega
    have e : Cs.getD j [] = Cs[j] := by simp [List.getD, hj']
    show (Cs.getD j []).length ≤ _
    rw [e]
    exact H.few _ (List.getElem_mem hj')
  · rintro e w' ⟨rfl, hg⟩
    have hrow : ∀ B v n xs, w.ownsRow B 25 2 v n xs → (∀ x, v.ownBlock = some x → G x) → w'.ownsRow B 25 2 v n xs := by
      intro B v n xs ho hx
      refine ⟨ho.1, ho.2.imp id ?_⟩
      rintro ⟨g, cap, cur, rfl, h2, h3, h4⟩
      exact ⟨g, cap, cur, rfl, h2, (hg.block g (Array.getElem?_eq_some_iff.1 h3).1 (fun u hu => (H.sep g (hx g rfl)).2 u hu)).trans h3, h4⟩
    refine ⟨rfl, ⟨hg.os, hg.tape, hg.output, hg.size, fun k hk => hg.block k (by omega) (fun v hv e => ?_)⟩, hrow, fun p v L S hx => ⟨hg.far H.la S.hp (by decide), hrow _ _ _ _ S.own hx⟩⟩
    obtain ⟨i, hi, rfl⟩ := List.getElem_of_mem hv
    have := own_ge (H.la.row i hi) e
    omega
end Go.Proofs.Ytjbjaklbckhodab
namespace Go.Proofs.Ytjbjaklbckhodab
open Go.RowKit
set_option maxRecDepth 100000

/-- All that the law holds: the set, the boxes of r and q, the list as it was, and the book. -/
structure OwSt (W0 : Nat) (w0 w : World) (p : Nat) (v : Value) (M : List Rg) (r q : Rg) (was : Value) (b : Nat) (lv wv : Value) (vs Y : List Value) (Cs : List (List Rg)) (G : Nat → Prop) : Prop where
  set : SetAt w p v M
  rAt : w.heap[W0]? = some (.cells #[.int .u64 r.1, .int .u64 r.2] 25 (0, 0))
  qAt : w.heap[W0 + 1]? = some (.cells #[.int .u64 q.1, .int .u64 q.2] 25 (0, 0))
  wasAt : w.ownsRow W0 25 2 was M.length (flat M)
  bk : Bk W0 w b lv wv vs Y Cs G
  bel : Below W0 w0 w
  hs : ∀ x, v.ownBlock = some x → G x
  hw : ∀ x, was.ownBlock = some x → G x
theorem OwSt.big {W0 : Nat} {w0 w : World} {p : Nat} {v : Value} {M : List Rg} {r q : Rg} {was : Value} {b : Nat} {lv wv : Value} {vs Y : List Value} {Cs : List (List Rg)} {G : Nat → Prop} (H : OwSt W0 w0 w p v M r q was b lv wv vs Y Cs G) : W0 ≤ w.heap.size := Nat.le_of_lt (Array.getElem?_eq_some_iff.1 H.rAt).1
theorem OwSt.cr {W0 : Nat} {w0 w : World} {p : Nat} {v : Value} {M : List Rg} {r q : Rg} {was : Value} {b : Nat} {lv wv : Value} {vs Y : List Value} {Cs : List (List Rg)} {G : Nat → Prop} (H : OwSt W0 w0 w p v M r q was b lv wv vs Y Cs G) : w.cell? ⟨W0, 0, none⟩ = some (.int .u64 r.1) ∧ w.cell? ⟨W0, 1, none⟩ = some (.int .u64 r.2) := by
  constructor <;> (rw [cell_of_row w W0 _ _ _ _ H.rAt]; rfl)
theorem OwSt.cq {W0 : Nat} {w0 w : World} {p : Nat} {v : Value} {M : List Rg} {r q : Rg} {was : Value} {b : Nat} {lv wv : Value} {vs Y : List Value} {Cs : List (List Rg)} {G : Nat → Prop} (H : OwSt W0 w0 w p v M r q was b lv wv vs Y Cs G) : w.cell? ⟨W0 + 1, 0, none⟩ = some (.int .u64 q.1) ∧ w.cell? ⟨W0 + 1, 1, none⟩ = some (.int .u64 q.2) := by
  constructor <;> (rw [cell_of_row w (W0 + 1) _ _ _ _ H.qAt]; rfl)
theorem OwSt.kept {W0 : Nat} {w0 w w' : World} {p : Nat} {v : Value} {M : List Rg} {r q : Rg} {was : Value} {b : Nat} {lv wv : Value} {vs Y : List Value} {Cs : List (List Rg)} {G : Nat → Prop} (H : OwSt W0 w0 w p v M r q was b lv wv vs Y Cs G) (hb : Below w.heap.size w w') : OwSt W0 w0 w' p v M r q was b lv wv vs Y Cs G :=
  have s := Still.below hb
  ⟨s.set H.set, s.rows _ _ _ H.rAt (by decide) (by decide), s.rows _ _ _ H.qAt (by decide) (by decide), s.own H.wasAt, H.bk.kept hb, H.bel.trans (hb.mono H.big), H.hs, H.hw⟩
/-- Keep of a list. -/
theorem OwSt.keep0 {W0 : Nat} {w0 w : World} {p : Nat} {v : Value} {M : List Rg} {r q : Rg} {was : Value} {b : Nat} {lv wv : Value} {vs Y : List Value} {Cs : List (List Rg)} {G : Nat → Prop} (H : OwSt W0 w0 w p v M r q was b lv wv vs Y Cs G) {R : List Rg} {u : Value} (ho : w.ownsRow W0 25 2 u R.length (flat R)) (hap : ∀ x, u.ownBlock = some x → (∀ v ∈ vs, v.ownBlock ≠ some x) ∧ ¬ G x) (hR : R.length ≤ 8796093022100) (hn : vs.length ≤ 60) :
    Calls Try.prog 12 #[.pointer (some ⟨b, 0, none⟩), u] w fun e w' => e = .returned (.tuple #[]) ∧ ∃ lv' wv' u', OwSt W0 w0 w' p v M r q was b lv' wv' (vs ++ [u]) (Y ++ [u']) (Cs ++ [R]) G ∧ Still w w' := by
  refine (H.bk.keep H.big ho hap hR hn).mono ?_
  rintro e w' ⟨rfl, lv', wv', u', K, s, hb'⟩
  exact ⟨rfl, lv', wv', u', ⟨s.set H.set, s.rows _ _ _ H.rAt (by decide) (by decide), s.rows _ _ _ H.qAt (by decide) (by decide), s.own H.wasAt, K, H.bel.trans hb', H.hs, H.hw⟩, s⟩
/-- Keep of a list that was just handed out. -/
theorem OwSt.keep {W0 : Nat} {w0 w : World} {p : Nat} {v : Value} {M : List Rg} {r q : Rg} {was : Value} {b : Nat} {lv wv : Value} {vs Y : List Value} {Cs : List (List Rg)} {G : Nat → Prop} (H : OwSt W0 w0 w p v M r q was b lv wv vs Y Cs G) {w1 : World} (hb : Below w.heap.size w w1) {R : List Rg} {u : Value} (ho : w1.ownsRow w.heap.size 25 2 u R.length (flat R)) (hR : R.length ≤ 8796093022100) (hn : vs.length ≤ 60) :
    Calls Try.prog 12 #[.pointer (some ⟨b, 0, none⟩), u] w1 fun e w' => e = .returned (.tuple #[]) ∧ ∃ lv' wv' u', OwSt W0 w0 w' p v M r q was b lv' wv' (vs ++ [u]) (Y ++ [u']) (Cs ++ [R]) G ∧ Still w1 w' := by
  have hg : ∀ x, u.ownBlock = some x → w.heap.size ≤ x := fun x hx => own_ge ho hx
  refine (H.kept hb).keep0 (own_mono ho H.big) (fun x hx => ⟨fun z hz e => ?_, fun e => ?_⟩) hR hn
  · obtain ⟨i, hi, rfl⟩ := List.getElem_of_mem hz
    have := lt_of_own (H.bk.la.row i hi) e
    have := hg x hx
    omega
  · have := (H.bk.sep x e).1
    have := hg x hx
    omega
/-- One more row is told apart. -/
theorem OwSt.also {W0 : Nat} {w0 w : World} {p : Nat} {v : Value} {M : List Rg} {r q : Rg} {was : Value} {b : Nat} {lv wv : Value} {vs Y : List Value} {Cs : List (List Rg)} {G : Nat → Prop} (H : OwSt W0 w0 w p v M r q was b lv wv vs Y Cs G) {w1 : World} (hb : Below w.heap.size w w1) (u : Value) (hu : ∀ x, u.ownBlock = some x → w.heap.size ≤ x ∧ x < w1.heap.size) : OwSt W0 w0 w1 p v M r q was b lv wv vs Y Cs (fun x => G x ∨ u.ownBlock = some x) :=
  have k := H.kept hb
  ⟨k.set, k.rAt, k.qAt, k.wasAt, H.bk.also hb u hu, k.bel, fun x hx => .inl (k.hs x hx), fun x hx => .inl (k.hw x hx)⟩
theorem row_new {w : World} {g : Nat} {L : List Rg} (h : w.heap[g]? = some (.cells (flat L).toArray 25 (0, 0))) {B : Nat} (hB : B ≤ g) (hl : L.length * 16 ≤ 140737488355328) : w.ownsRow B 25 2 (.slice (some ⟨g, 0, none⟩) L.length L.length) L.length (flat L) :=
  ⟨length_flat L, .inr ⟨g, L.length, _, rfl, hB, h, Nat.le_refl _, by unfold maxLen; omega, by simp [length_flat], by simp [← length_flat L]⟩⟩
/-- Ranges of a set, as a row of its own. -/
theorem set_ranges {w : World} {p : Nat} {v : Value} {M : List Rg} (S : SetAt w p v M) (hM : M.length ≤ 8796093022000) :
    Calls Try.prog 11 #[.pointer (some ⟨p, 0, none⟩)] w fun e w' => ∃ u, e = .returned u ∧ w'.ownsRow w.heap.size 25 2 u M.length (flat M) ∧ Below w.heap.size w w' := by
  obtain ⟨a, cap, rfl, V⟩ := S.view (by omega)
  refine (ranges_any V (by omega)).mono ?_
  rintro e w' ⟨g, rfl, hg, hh, hb⟩
  exact ⟨_, rfl, row_new hh hg (by omega), hb⟩
theorem set_missing {w : World} {p : Nat} {v : Value} {M : List Rg} (S : SetAt w p v M) (hM : M.length ≤ 8796093022000) (F : Fit M) (x : Rg) (h0 : 0 ≤ x.1) (h1 : x.1 ≤ 18446744073709551615) :
    Calls Try.prog 13 #[.pointer (some ⟨p, 0, none⟩), .agg #[.int .u64 x.1, .int .u64 x.2]] w fun e w' => ∃ u, e = .returned u ∧ w'.ownsRow w.heap.size 25 2 u (missL M x).length (flat (missL M x)) ∧ Below w.heap.size w w' := by
  obtain ⟨a, cap, rfl, V⟩ := S.view (by omega)
  refine (missing_any x h0 h1 (by omega) V F).mono ?_
  rintro e w' ⟨u, rfl, ho, hb⟩
  exact ⟨_, rfl, own_mono ho (by omega), hb⟩
theorem set_copy {w : World} {p : Nat} {v : Value} {M : List Rg} (S : SetAt w p v M) (hM : M.length ≤ 8796093022000) :
    Calls Try.prog 14 #[.pointer (some ⟨p, 0, none⟩)] w fun e w' => ∃ q, e = .returned (.pointer (some ⟨q, 0, none⟩)) ∧ ∃ v', SetAt w' q v' M ∧ (∀ x, v'.ownBlock = some x → w.heap.size ≤ x ∧ x < w'.heap.size) ∧ Below w.heap.size w w' := by
  obtain ⟨a, cap, rfl, V⟩ := S.view (by omega)
  refine (copy_any V (by omega)).mono ?_
  rintro e w' ⟨q, rfl, v', hO, hb⟩
  exact ⟨q, rfl, v', hO.set, fun x hx => ⟨hO.row x hx, hO.set.lt.2 x hx⟩, hb⟩
end Go.Proofs.Ytjbjaklbckhodab
namespace Go.Proofs.Ytjbjaklbckhodab
open Go.RowKit
set_option maxRecDepth 100000

set_option maxHeartbeats 8000000 in
theorem own_any {w : World} {a : Option Addr} {cap : Nat} {L : List Rg} (C : Cells w a L) (hf : L.length ≤ 8796093022000) (hw : ∀ r ∈ L, 0 ≤ r.1 ∧ r.2 ≤ 18446744073709551615) (r q : Rg) (hr0 : 0 ≤ r.1) (hr1 : r.1 ≤ 18446744073709551615) (hq0 : 0 ≤ q.1) (hq1 : q.1 ≤ 18446744073709551615) :
    Calls Try.prog 4 #[.slice a L.length cap, .agg #[.int .u64 r.1, .int .u64 r.2], .agg #[.int .u64 q.1, .int .u64 q.2]] w fun e w' => e = .returned (.bool true) ∧ Below w.heap.size w w' := by
  have hx1 := below_box w (.cells #[.int .u64 r.1, .int .u64 r.2] 25)
  have hx2 := below_box (w.alloc (.cells #[.int .u64 r.1, .int .u64 r.2] 25)) (.cells #[.int .u64 q.1, .int .u64 q.2] 25)
  have hz1 : (w.alloc (.cells #[.int .u64 r.1, .int .u64 r.2] 25)).heap.size = w.heap.size + 1 := by simp
  have hz2 : ((w.alloc (.cells #[.int .u64 r.1, .int .u64 r.2] 25)).alloc (.cells #[.int .u64 q.1, .int .u64 q.2] 25)).heap.size = w.heap.size + 2 := by simp
  have HN := hid (new_any sort_any (cap := cap) ((C.kept hx1).kept hx2) (by omega) hw)
  have HBX := hid (hx1.trans (hx2.mono hx1.size))
  have HR := hid ((hx2.block w.heap.size (by rw [hz1]; omega)).trans (heap_alloc_new w (.cells #[.int .u64 r.1, .int .u64 r.2] 25)))
  have HQ := hid (heap_alloc_new (w.alloc (.cells #[.int .u64 r.1, .int .u64 r.2] 25)) (.cells #[.int .u64 q.1, .int .u64 q.2] 25))
  have HW := hid hw
  clear hw C hx1 hx2
  go_enter Try.func4, Try.ntmps4
  go_wp2_with fail
  refine HN.out.mono ?_
  rintro e w2 ⟨p, rfl, v, L', hP, hO, hb2⟩
  obtain ⟨hF, hL⟩ := addAll_fit L' (fun r hr => HW.out r (hP.mem_iff.1 hr)) L'.length (Nat.le_refl _)
  rw [List.take_length, hP.length_eq] at hL
  rw [List.take_length] at hF
  generalize addAll L' = M at *
  have hM : M.length ≤ 8796093022000 := by omega
  have HO2 := hid hO
  have HF := hid hF
  have HB2 := hid (HBX.out.trans (hb2.mono HBX.out.size))
  have HR2 := hid ((hb2.block w.heap.size (by rw [hz2]; omega)).trans HR.out)
  have HQ2 : Hid (w2.heap[w.heap.size + 1]? = some (.cells #[.int .u64 q.1, .int .u64 q.2] 25 (0, 0))) := (hb2.block (w.heap.size + 1) (by rw [hz2]; omega)).trans (hz1 ▸ HQ.out)
  clear hF hP hO hb2 HBX HR HQ HN HW hL hz1 hz2
  go_wp2_with fail
  refine (awake_any sort_any _).mono ?_
  rintro e w3 ⟨rfl, hb3⟩
  have hb4 := below_box w3 (.cells #[.slice none 0 0, .slice none 0 0] 36)
  have hz4 : (w3.alloc (.cells #[.slice none 0 0, .slice none 0 0] 36)).heap.size = w3.heap.size + 1 := by simp
  have HS4 := hid ((HO2.out.set.kept hb3).kept hb4)
  have hbb := hb3.trans (hb4.mono hb3.size)
  have HR4 := hid ((Still.below hbb).rows _ _ _ HR2.out (by decide) (by decide))
  have HQ4 := hid ((Still.below hbb).rows _ _ _ HQ2.out (by decide) (by decide))
  have HB4 := hid (HB2.out.trans (hbb.mono HB2.out.size))
  have HH4 := hid (heap_alloc_new w3 (.cells #[.slice none 0 0, .slice none 0 0] 36))
  have hle3 : w.heap.size ≤ w3.heap.size := Nat.le_trans HB2.out.size hb3.size
  clear hb3 hb4 hbb HO2 HB2 HR2 HQ2
  go_wp2_with fail
  refine (set_ranges HS4.out hM).mono ?_
  rintro e w5 ⟨u0, rfl, ho5, hb5⟩
  obtain ⟨a0, c0, rfl, hC0⟩ := own_cells ho5
  have HC0 := hid hC0
  have HO5 := hid ho5
  have HB5 := hid hb5
  clear hC0 ho5 hb5
  go_upto_region 8 with (at_builtin; refine wpAppendR rfl _ _ Try.underlying22 Try.underlying22 rfl (base := w5.heap.size) (A := []) (B := M) rfl (World.ownsRow_nil _ _ _ _) rfl HC0.out (by simp; omega) (Nat.le_refl _) ?_; intro was w6 ho6 hg6 _; have HO6 := hid ho6; have HG6 := hid hg6; clear ho6 hg6)
  have HOW : Hid (w6.ownsRow w5.heap.size 25 2 was M.length (flat M)) := HO6.out
  have HB6 : Hid (Below w5.heap.size w5 w6) := grown_below HG6.out
  obtain ⟨aw, cw, rfl, _⟩ := own_cells HOW.out
  have h56 := HB5.out.trans (HB6.out.mono HB5.out.size)
  have s6 := Still.below h56
  have H6 : Hid (OwSt w.heap.size w w6 p v M r q (.slice aw M.length cw) w3.heap.size (.slice none 0 0) (.slice none 0 0) [] [] [] (fun x => v.ownBlock = some x ∨ (Value.slice aw M.length cw).ownBlock = some x)) :=
    ⟨s6.set HS4.out, s6.rows _ _ _ HR4.out (by decide) (by decide), s6.rows _ _ _ HQ4.out (by decide) (by decide), own_mono HOW.out (by have := HB4.out.size; have := HB5.out.size; omega),
      bk_new ((h56.block w3.heap.size (by rw [hz4]; omega)).trans HH4.out) hle3 _ (fun x hx => by
        rcases hx with hx | hx
        · exact Nat.lt_of_lt_of_le (HS4.out.lt.2 x hx) h56.size
        · exact lt_of_own HOW.out hx), HB4.out.trans (h56.mono HB4.out.size), fun x hx => .inl hx, fun x hx => .inr hx⟩
  have HK := hid (H6.out.keep0 (u := .slice a0 M.length c0) (own_mono (own_below HO5.out HB6.out) (by have := HB4.out.size; omega)) (fun x hx => ⟨fun _ hv => by simp at hv, fun hg => by
    have h1 := own_ge HO5.out hx
    have h2 := lt_of_own HO5.out hx
    rcases hg with hg | hg
    · have := HS4.out.lt.2 x hg
      omega
    · have := own_ge HOW.out hg
      omega⟩) (by omega) (by simp))
  clear s6 h56 HOW HB6 HO6 HG6 HC0 HO5 HB5 HS4 HR4 HQ4 HB4 HH4 H6 hz4
  go_wp2_with fail
  refine HK.out.mono ?_
  rintro e w7 ⟨rfl, lv7, wv7, y7, hst, hsl⟩
  have H7 := hid hst
  clear hst hsl HK
  obtain ⟨c0, c1⟩ := H7.out.cr
  go_wp2_with fail
  clear c0 c1
  refine (set_missing H7.out.set hM HF.out r hr0 hr1).mono ?_
  rintro e wm ⟨u7, rfl, ho, hb⟩
  have HO := hid ho
  have HB := hid hb
  clear ho hb
  go_wp2_with fail
  refine (H7.out.keep HB.out HO.out (by have := (missL_each HF.out r hr1).2.2; omega) (by simp)).mono ?_
  rintro e w8 ⟨rfl, lv8, wv8, y8, hst, hsl⟩
  have H8 := hid hst
  clear hst hsl HO HB H7
  go_wp2_with fail
  refine (set_ranges H8.out.set hM).mono ?_
  rintro e wm ⟨u8, rfl, ho, hb⟩
  have HO := hid ho
  have HB := hid hb
  clear ho hb
  go_wp2_with fail
  refine (H8.out.keep HB.out HO.out (by omega) (by simp)).mono ?_
  rintro e w9 ⟨rfl, lv9, wv9, y9, hst, hsl⟩
  have H9 := hid hst
  clear hst hsl HO HB H8
  obtain ⟨c0, c1⟩ := H9.out.cq
  go_wp2_with fail
  clear c0 c1
  refine (set_missing H9.out.set hM HF.out q hq0 hq1).mono ?_
  rintro e wm ⟨u9, rfl, ho, hb⟩
  have HO := hid ho
  have HB := hid hb
  clear ho hb
  go_wp2_with fail
  refine (H9.out.keep HB.out HO.out (by have := (missL_each HF.out q hq1).2.2; omega) (by simp)).mono ?_
  rintro e w10 ⟨rfl, lv10, wv10, y10, hst, hsl⟩
  have H10 := hid hst
  clear hst hsl HO HB H9
  obtain ⟨c0, c1⟩ := H10.out.cr
  go_wp2_with fail
  clear c0 c1
  refine (set_missing H10.out.set hM HF.out r hr0 hr1).mono ?_
  rintro e wm ⟨u10, rfl, ho, hb⟩
  have HO := hid ho
  have HB := hid hb
  clear ho hb
  go_wp2_with fail
  refine (H10.out.keep HB.out HO.out (by have := (missL_each HF.out r hr1).2.2; omega) (by simp)).mono ?_
  rintro e w11 ⟨rfl, lv11, wv11, y11, hst, hsl⟩
  have H11 := hid hst
  clear hst hsl HO HB H10
  go_wp2_with fail
  refine (set_copy H11.out.set hM).mono ?_
  rintro e w12 ⟨qc, rfl, vc, hSc, huc, hbc⟩
  have H12 := hid (H11.out.also hbc vc huc)
  have HC12 := hid hSc
  clear hSc huc hbc H11
  go_wp2_with fail
  refine (set_ranges HC12.out hM).mono ?_
  rintro e wm ⟨u12, rfl, ho, hb⟩
  have HO := hid ho
  have HB := hid hb
  clear ho hb
  go_wp2_with fail
  refine (H12.out.keep HB.out HO.out (by omega) (by simp)).mono ?_
  rintro e w13 ⟨rfl, lv13, wv13, y13, hst, hsl⟩
  have H13 := hid hst
  have HC13 := hid (((Still.below HB.out).trans hsl).set HC12.out)
  clear HC12
  clear hst hsl HO HB H12
  go_wp2_with fail
  refine (set_ranges H13.out.set hM).mono ?_
  rintro e wm ⟨u13, rfl, ho, hb⟩
  have HO := hid ho
  have HB := hid hb
  clear ho hb
  go_wp2_with fail
  refine (H13.out.keep HB.out HO.out (by omega) (by simp)).mono ?_
  rintro e w14 ⟨rfl, lv14, wv14, y14, hst, hsl⟩
  have H14 := hid hst
  have HC14 := hid (((Still.below HB.out).trans hsl).set HC13.out)
  clear HC13
  clear hst hsl HO HB H13
  go_wp2_with fail
  refine (H14.out.bk.good H14.out.big (by simp)).mono ?_
  rintro e wg ⟨rfl, hbg, hrow, hset⟩
  have HS := hid (hset _ _ _ H14.out.set (fun x hx => .inl (.inl hx)))
  have HSC := hid (hset _ _ _ HC14.out (fun x hx => .inr hx))
  have HWS := hid (hrow _ _ _ _ H14.out.wasAt (fun x hx => .inl (.inr hx)))
  have HB := hid (H14.out.bel.trans hbg)
  clear hbg hrow hset H14 HC14
  go_wp2_with fail
  refine (set_ranges HS.out hM).mono ?_
  rintro e wa ⟨ua, rfl, ho, hb⟩
  obtain ⟨aa, ca, rfl, hCa⟩ := own_cells ho
  have HCA := hid hCa
  have HWA := hid (own_below HWS.out hb)
  have HSA := hid (HSC.out.kept hb)
  have HBA := hid (HB.out.trans (hb.mono HB.out.size))
  clear ho hb hCa HS HSC HWS HB
  go_wp2_with fail
  refine (same_below HCA.out (own_cells_at HWA.out) (by omega)).mono ?_
  rintro e wb ⟨rfl, hb⟩
  have HWB := hid (own_below HWA.out hb)
  have HSB := hid (HSA.out.kept hb)
  have HBB := hid (HBA.out.trans (hb.mono HBA.out.size))
  clear hb HCA HWA HSA HBA
  go_wp2_with fail
  refine (set_ranges HSB.out hM).mono ?_
  rintro e wc ⟨uc, rfl, ho, hb⟩
  obtain ⟨ac, cc, rfl, hCc⟩ := own_cells ho
  have HCC := hid hCc
  have HWC := hid (own_below HWB.out hb)
  have HBC := hid (HBB.out.trans (hb.mono HBB.out.size))
  clear ho hb hCc HWB HSB HBB
  go_wp2_with fail
  refine (same_below HCC.out (own_cells_at HWC.out) (by omega)).mono ?_
  rintro e wd ⟨rfl, hb⟩
  have HBD := hid (HBC.out.trans (hb.mono HBC.out.size))
  clear hb HCC HWC HBC
  go_wp2_with fail
  go_ret
  exact ⟨rfl, HBD.out⟩
end Go.Proofs.Ytjbjaklbckhodab
