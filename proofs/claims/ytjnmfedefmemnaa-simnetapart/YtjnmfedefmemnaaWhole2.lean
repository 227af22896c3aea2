import Derived.Test.YtjnmfedefmemnaaWhole
namespace Go.Proofs.Ytjnmfedefmemnaa
open Go.RowKit Go.Maps
set_option maxRecDepth 100000

section
variable {B : Nat} {w : World} {p g n K : Nat} {c : List Value} {vs : Nat → Nat → Value} {fr : Nat → Nat → List Fr} {k d : Nat}
/-- The list behind a frame's erasing keeps what was apart apart. -/
theorem NetG.sepIn (h : NetG B w p g n c vs fr K) (hk : k < n) (hd : d < 2) (j j' : Nat) (x x' : Fr) (hj : j' ≠ j) (hx : (fr k d)[j]? = some x) (hx' : (fr k d)[j']? = some x') : x.q ≠ x'.q ∧ ∀ y ∈ mblk x.mv, y ∉ mblk x'.mv := h.sepq k d j k d j' x x' hk hd hk hd (fun e => hj e.2.2) hx hx'
theorem erase_get {α : Type} {l : List α} {i j : Nat} {x : α} (h : (l.eraseIdx i)[j]? = some x) : l[if j < i then j else j + 1]? = some x := by
  rw [List.getElem?_eraseIdx] at h
  split at h
  · rename_i hj; rw [if_pos hj]; exact h
  · rename_i hj; rw [if_neg hj]; exact h
theorem NetG.sepErase (h : NetG B w p g n c vs fr K) (hk : k < n) (hd : d < 2) (i j j' : Nat) (x x' : Fr) (hj : j' ≠ j) (hx : ((fr k d).eraseIdx i)[j]? = some x) (hx' : ((fr k d).eraseIdx i)[j']? = some x') : x.q ≠ x'.q ∧ ∀ y ∈ mblk x.mv, y ∉ mblk x'.mv :=
  h.sepIn hk hd _ _ x x' (by split <;> split <;> omega) (erase_get hx) (erase_get hx')
theorem NetG.sepSnoc (h : NetG B w p g n c vs fr K) (hk : k < n) (hd : d < 2) {z : Fr} (hq : w.heap.size ≤ z.q) (hm : ∀ y ∈ mblk z.mv, w.heap.size ≤ y) (j j' : Nat) (x x' : Fr) (hj : j' ≠ j) (hx : (fr k d ++ [z])[j]? = some x) (hx' : (fr k d ++ [z])[j']? = some x') : x.q ≠ x'.q ∧ ∀ y ∈ mblk x.mv, y ∉ mblk x'.mv := by
  have at_ : ∀ {i : Nat} {u : Fr}, (fr k d ++ [z])[i]? = some u → (i < (fr k d).length ∧ (fr k d)[i]? = some u) ∨ (i = (fr k d).length ∧ u = z) := fun {i u} hu => by
    by_cases hi : i < (fr k d).length
    · rw [List.getElem?_append_left hi] at hu
      exact .inl ⟨hi, hu⟩
    · rw [List.getElem?_append_right (by omega)] at hu
      have h0 : i - (fr k d).length = 0 := by have := (List.getElem?_eq_some_iff.1 hu).1; simp at this; omega
      rw [h0] at hu
      simp at hu
      exact .inr ⟨by omega, hu.symm⟩
  have low : ∀ x ∈ fr k d, x.q < w.heap.size ∧ ∀ y ∈ mblk x.mv, y < w.heap.size := fun x hx => ⟨h.lt (.parcel _ _ hk hd x hx rfl), fun y hy => h.lt (.map _ _ hk hd x hx hy)⟩
  rcases at_ hx with ⟨a1, a2⟩ | ⟨a1, rfl⟩ <;> rcases at_ hx' with ⟨b1, b2⟩ | ⟨b1, rfl⟩
  · exact h.sepIn hk hd j j' x x' hj a2 b2
  · have l := low x (get_mem a2)
    exact ⟨by omega, fun y hy hy2 => by have := hm y hy2; have := l.2 y hy; omega⟩
  · have l := low x' (get_mem b2)
    exact ⟨by omega, fun y hy hy2 => by have := hm y hy; have := l.2 y hy2; omega⟩
  · omega
theorem cell2 {c : List Value} {i j k : Nat} {x y : Value} (h1 : k ≠ i) (h2 : k ≠ j) : ((c.set i x).set j y)[k]? = c[k]? := by rw [List.getElem?_set_ne (Ne.symm h2), List.getElem?_set_ne (Ne.symm h1)]
theorem cell_set1 {c : List Value} {i j : Nat} {x y : Value} (hi : i < c.length) (hij : i ≠ j) : ((c.set i x).set j y)[i]? = some x := by rw [List.getElem?_set_ne (Ne.symm hij), List.getElem?_set_self hi]
theorem cell_set2 {c : List Value} {i j : Nat} {x y : Value} (hj : j < c.length) : ((c.set i x).set j y)[j]? = some y := by rw [List.getElem?_set_self (by simpa using hj)]
/-- A count and a bag are written. -/
theorem cnt_set1 {c : List Value} {k e d : Nat} (h : ∀ i, 4 ≤ i → i < 14 → ∃ P, c[k * 16 + i]? = some (.int .u64 P)) {P : Int} (he : e + d < 14) {v : Value} (hl : k * 16 + 16 ≤ c.length) (j : Nat) (h4 : 4 ≤ j) (h14 : j < 14) : ∃ Q, ((c.set (k * 16 + e + d) (.int .u64 P)).set (k * 16 + 14 + d) v)[k * 16 + j]? = some (.int .u64 Q) := by
  by_cases ej : j = e + d
  · subst ej
    exact ⟨P, by rw [← Nat.add_assoc]; exact cell_set1 (by omega) (by omega)⟩
  · obtain ⟨Q, hQ⟩ := h j h4 h14
    exact ⟨Q, by rw [cell2 (by omega) (by omega), hQ]⟩
theorem cnt_set2 {c : List Value} {k e d : Nat} (h : ∀ i, 4 ≤ i → i < 14 → ∃ P, c[k * 16 + i]? = some (.int .u64 P)) {P : Int} (he : e + d < 14) {v : Value} (hl : k * 16 + 16 ≤ c.length) (j : Nat) (h4 : 4 ≤ j) (h14 : j < 14) : ∃ Q, ((c.set (k * 16 + 14 + d) v).set (k * 16 + e + d) (.int .u64 P))[k * 16 + j]? = some (.int .u64 Q) := by
  by_cases ej : j = e + d
  · subst ej
    exact ⟨P, by rw [← Nat.add_assoc]; exact cell_set2 (by omega)⟩
  · obtain ⟨Q, hQ⟩ := h j h4 h14
    exact ⟨Q, by rw [cell2 (by omega) (by omega), hQ]⟩
theorem erase_map {α β : Type} (f : α → β) : ∀ (l : List α) (j : Nat), (l.map f).eraseIdx j = (l.eraseIdx j).map f
  | [], _ => rfl
  | _ :: _, 0 => rfl
  | x :: l, j + 1 => by
    show f x :: (l.map f).eraseIdx j = f x :: (l.eraseIdx j).map f
    rw [erase_map f l j]
end
end Go.Proofs.Ytjnmfedefmemnaa
