import Derived.Test.YtjnmfedefmemnaaDbl2
import Derived.Test.YtjnmfedefmemnaaRowB
namespace Go.Proofs.Ytjnmfedefmemnaa
open Go.RowKit
set_option maxRecDepth 100000

/-- A mark: a byte of a small number. -/
def bt (n : Nat) : BitVec 8 := BitVec.ofNat 8 n
theorem ub_bt (n : Nat) (h : n < 256) : ub (bt n) = (n : Int) := by
  unfold ub bt
  rw [BitVec.toNat_ofNat, Nat.mod_eq_of_lt (by omega)]
/-- The slices of whole blocks of bytes. -/
def lsOf (al : List Nat) (xs : List (List (BitVec 8))) : List Value := List.zipWith (fun a x => Value.slice (some ⟨a, 0, none⟩) x.length x.length) al xs
theorem lsOf_get {al : List Nat} {xs : List (List (BitVec 8))} {i : Nat} (h1 : i < al.length) (h2 : i < xs.length) : (lsOf al xs)[i]? = some (.slice (some ⟨al[i], 0, none⟩) xs[i].length xs[i].length) := by
  unfold lsOf
  rw [List.getElem?_zipWith, List.getElem?_eq_getElem h1, List.getElem?_eq_getElem h2]
/-- Blocks of bytes, none of them twice, all from M on. -/
structure Blocks (M : Nat) (w : World) (al : List Nat) (xs : List (List (BitVec 8))) : Prop where
  la : al.length = xs.length
  nd : al.Nodup
  ge : ∀ a ∈ al, M ≤ a
  row : ∀ (i : Nat) (h1 : i < al.length) (h2 : i < xs.length), Row w al[i] (bcells xs[i]) 5
section
variable {M : Nat} {w w' : World} {al : List Nat} {xs : List (List (BitVec 8))}
theorem Blocks.lt (h : Blocks M w al xs) : ∀ a ∈ al, a < w.heap.size := fun a ha => by
  obtain ⟨i, hi, rfl⟩ := List.mem_iff_getElem.1 ha
  exact (h.row i hi (by rw [← h.la]; exact hi)).lt
theorem Blocks.kept {H : Nat} (h : Blocks M w al xs) (hb : Below H w w') (hH : ∀ a ∈ al, a < H) : Blocks M w' al xs :=
  ⟨h.la, h.nd, h.ge, fun i h1 h2 => (h.row i h1 h2).kept hb (hH _ (List.getElem_mem h1))⟩
theorem Blocks.nil (M : Nat) (w : World) : Blocks M w [] [] := ⟨rfl, List.nodup_nil, (fun a ha => by cases ha), (fun i h => by simp at h)⟩
theorem Blocks.snoc (h : Blocks M w al xs) {a : Nat} {x : List (BitVec 8)} (ha : w.heap.size ≤ a) (hM : M ≤ w.heap.size) (hb : Below w.heap.size w w') (R : Row w' a (bcells x) 5) : Blocks M w' (al ++ [a]) (xs ++ [x]) := by
  have h' := h.kept hb h.lt
  refine ⟨by simp [h.la], ?_, fun b hb' => ?_, fun i h1 h2 => ?_⟩
  · refine List.nodup_append.2 ⟨h.nd, by simp, fun b hb1 b' hb2 => ?_⟩
    have : b' = a := by simpa using hb2
    subst this
    have := h.lt b hb1
    omega
  · rcases List.mem_append.1 hb' with h1 | h1
    · exact h.ge b h1
    · have : b = a := by simpa using h1
      omega
  · by_cases hi : i < al.length
    · have hx : i < xs.length := by rw [← h.la]; exact hi
      have := h'.row i hi hx
      rw [List.getElem_append_left hi, List.getElem_append_left hx]
      exact this
    · have e : i = al.length := by simp at h1; omega
      subst e
      have hx : al.length = xs.length := h.la
      simp [hx]
      exact R
/-- A byte of one block is written. -/
theorem Blocks.set (h : Blocks M w al xs) {i k : Nat} (hi : i < al.length) (hx : i < xs.length) (b : BitVec 8) : Blocks M (w.setCell ⟨al[i], k, none⟩ (.int .u8 (ub b))) al (xs.set i (xs[i].set k b)) := by
  refine ⟨by simp [h.la], h.nd, h.ge, fun j h1 h2 => ?_⟩
  by_cases hj : j = i
  · subst hj
    rw [List.getElem_set_self]
    rw [← bcells_set]
    exact (h.row j h1 hx).set k _
  · have hx2 : j < xs.length := by simpa using h2
    rw [List.getElem_set_ne (Ne.symm hj)]
    exact (h.row j h1 hx2).setOther _ (fun e => hj ((List.getElem_inj h.nd).1 e)) _
end
/-- What a list of bytes is behind k marks. -/
def marked (b : BitVec 8) (k : Nat) (x : List (BitVec 8)) : List (BitVec 8) := List.replicate k b ++ x.drop k
theorem marked_zero (b : BitVec 8) (x : List (BitVec 8)) : marked b 0 x = x := by simp [marked]
theorem marked_len {b : BitVec 8} {k : Nat} {x : List (BitVec 8)} (h : k ≤ x.length) : (marked b k x).length = x.length := by simp [marked]; omega
theorem marked_set {b : BitVec 8} {k : Nat} {x : List (BitVec 8)} (h : k < x.length) : (marked b k x).set k b = marked b (k + 1) x := by
  unfold marked
  rw [List.set_append_right _ _ (by simp)]
  simp only [List.length_replicate, Nat.sub_self]
  rw [List.drop_eq_getElem_cons h, List.set_cons_zero, List.replicate_succ', List.append_assoc]
  rfl
theorem marked_all {b : BitVec 8} {x : List (BitVec 8)} : marked b x.length x = List.replicate x.length b := by simp [marked]
/-- The lists, the first i of them marked. -/
def mk (ff : List (List (BitVec 8))) (i : Nat) : List (List (BitVec 8)) := (List.range ff.length).map fun j => if j < i then List.replicate (ff.getD j []).length (bt (10 + j)) else ff.getD j []
theorem mk_len (ff : List (List (BitVec 8))) (i : Nat) : (mk ff i).length = ff.length := by simp [mk]
theorem mk_zero (ff : List (List (BitVec 8))) : mk ff 0 = ff := by
  apply List.ext_getElem
  · simp [mk]
  · intro j h1 h2
    simp [mk, h2]
theorem mk_get {ff : List (List (BitVec 8))} {i j : Nat} (hj : j < ff.length) : (mk ff i)[j]'(by rw [mk_len]; exact hj) = if j < i then List.replicate ff[j].length (bt (10 + j)) else ff[j] := by
  simp [mk, hj]
theorem mk_get_len {ff : List (List (BitVec 8))} {i j : Nat} (hj : j < ff.length) : ((mk ff i)[j]'(by rw [mk_len]; exact hj)).length = ff[j].length := by
  rw [mk_get hj]
  split <;> simp
theorem mk_succ {ff : List (List (BitVec 8))} {i : Nat} (hi : i < ff.length) : (mk ff i).set i (marked (bt (10 + i)) ff[i].length ff[i]) = mk ff (i + 1) := by
  apply List.ext_getElem
  · simp [mk]
  · intro j h1 h2
    have hj : j < ff.length := by simpa [mk] using h2
    by_cases e : j = i
    · subst e
      rw [List.getElem_set_self, mk_get hj, if_pos (by omega), marked_all]
    · rw [List.getElem_set_ne (Ne.symm e), mk_get hj, mk_get hj]
      by_cases hlt : j < i
      · rw [if_pos hlt, if_pos (by omega)]
      · rw [if_neg hlt, if_neg (by omega)]
theorem lsOf_congr {al : List Nat} : ∀ {xs ys : List (List (BitVec 8))}, xs.map List.length = ys.map List.length → lsOf al xs = lsOf al ys := fun {xs ys} h => by
  unfold lsOf
  apply List.ext_getElem?
  intro i
  rw [List.getElem?_zipWith, List.getElem?_zipWith]
  have hi : xs[i]?.map List.length = ys[i]?.map List.length := by rw [← List.getElem?_map, ← List.getElem?_map, h]
  cases h1 : al[i]? <;> cases h2 : xs[i]? <;> cases h3 : ys[i]? <;> simp_all
theorem mk_lens (ff : List (List (BitVec 8))) (i : Nat) : (mk ff i).map List.length = ff.map List.length := by
  apply List.ext_getElem
  · simp [mk]
  · intro j h1 h2
    have hj : j < ff.length := by simpa using h2
    rw [List.getElem_map, List.getElem_map, mk_get_len hj]
end Go.Proofs.Ytjnmfedefmemnaa
