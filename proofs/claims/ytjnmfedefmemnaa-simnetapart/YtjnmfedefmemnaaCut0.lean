import Derived.Test.YtjnmfedefmemnaaTell
namespace Go.Proofs.Ytjnmfedefmemnaa
open Go.RowKit
set_option maxRecDepth 100000

theorem pcells_erase (qs : List Nat) (k : Nat) : pcells (qs.eraseIdx k) = (pcells qs).take k ++ (pcells qs).drop (k + 1) := by
  rw [List.eraseIdx_eq_take_drop_succ]; simp [pcells, List.map_take, List.map_drop]
theorem erased {c : List Value} {o : Nat} {qs : List Nat} {k : Nat} (ht : (c.drop o).take qs.length = pcells qs) (hk : k < qs.length) :
    pcells (qs.eraseIdx k) = (c.drop o).take k ++ (c.drop (o + (k + 1))).take (qs.length - 1 - k) := by
  rw [pcells_erase, ← ht, List.take_take, Nat.min_eq_left (by omega), List.drop_take, List.drop_drop, show qs.length - (k + 1) = qs.length - 1 - k by omega]
theorem cut_left {c : List Value} {o : Nat} {qs : List Nat} {k : Nat} (hl : o + qs.length ≤ c.length) (ht : (c.drop o).take qs.length = pcells qs) (hk : k < qs.length) (x : Value) :
    (((c.take (o + 1) ++ (c.drop o).take k ++ c.drop (o + 1 + k)).set o x).drop (o + 1)).take (qs.length - 1) = pcells (qs.eraseIdx k) := by
  have h1 : (c.take (o + 1)).length = o + 1 := by simp; omega
  have h2 : ((c.drop o).take k).length = k := by simp; omega
  rw [erased ht hk, List.drop_set, if_pos (by omega), List.append_assoc, List.drop_append_of_le_length (by omega), List.drop_of_length_le (by omega), List.nil_append]
  generalize (c.drop o).take k = A at *
  rw [List.take_append, h2, List.take_of_length_le (by omega), show o + 1 + k = o + (k + 1) by omega]
theorem cut_right {c : List Value} {o : Nat} {qs : List Nat} {k : Nat} (hl : o + qs.length ≤ c.length) (ht : (c.drop o).take qs.length = pcells qs) (hk : k < qs.length) (x : Value) :
    (((c.take (o + k) ++ (c.drop (o + (k + 1))).take (qs.length - 1 - k) ++ c.drop (o + k + (qs.length - 1 - k))).set (o + (qs.length - 1)) x).drop o).take (qs.length - 1) = pcells (qs.eraseIdx k) := by
  have h1 : (c.take (o + k)).length = o + k := by simp; omega
  have h2 : ((c.drop (o + (k + 1))).take (qs.length - 1 - k)).length = qs.length - 1 - k := by simp; omega
  have h3 : ((c.drop o).take k).length = k := by simp; omega
  have h4 : (c.take (o + k)).drop o = (c.drop o).take k := by rw [List.drop_take, Nat.add_sub_cancel_left]
  rw [erased ht hk]
  generalize (c.drop (o + (k + 1))).take (qs.length - 1 - k) = B at *
  generalize (c.drop o).take k = A at *
  rw [List.drop_set, if_neg (by omega), Nat.add_sub_cancel_left, List.take_set_of_le (Nat.le_refl _), List.append_assoc, List.drop_append_of_le_length (by omega), h4]
  rw [← List.append_assoc, List.take_append_of_le_length (by rw [List.length_append]; omega), List.take_of_length_le (by rw [List.length_append]; omega)]
end Go.Proofs.Ytjnmfedefmemnaa
