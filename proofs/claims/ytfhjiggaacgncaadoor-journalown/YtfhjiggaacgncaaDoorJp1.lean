import Derived.Test.YtfhjiggaacgncaaDoorJp0
import Derived.Test.YtfhjiggaacgncaaDoorJg5
namespace Go.Proofs.YtfhjiggaacgncaaDoor
open Go.RowKit Go.Maps Go.Sort
set_option maxRecDepth 100000

/-- n bytes that begin with A, and zeros. -/
def cont (n : Nat) (A : List (BitVec 8)) : List (BitVec 8) := A ++ z (n - A.length)
theorem cont_len {n : Nat} {A : List (BitVec 8)} (h : A.length ≤ n) : (cont n A).length = n := by simp [cont, z_len]; omega
theorem z_drop (n k : Nat) : (z n).drop k = z (n - k) := by simp [z]
theorem lay_cont {n : Nat} {A b : List (BitVec 8)} (h : A.length + b.length ≤ n) : lay (cont n A) A.length b = cont n (A ++ b) := by
  unfold lay cont
  rw [List.take_left' rfl, List.drop_append, List.drop_of_length_le (by omega), List.nil_append, z_drop, List.length_append]
  congr 2
  omega
theorem cont_take {n e : Nat} {A : List (BitVec 8)} (h : e ≤ A.length) : (cont n A).take e = A.take e := by
  unfold cont
  rw [List.take_append_of_le_length h]
theorem cont_drop {n e : Nat} {A : List (BitVec 8)} (h : A.length ≤ e) : (cont n A).drop e = z (n - e) := by
  unfold cont
  rw [List.drop_append, List.drop_of_length_le h, List.nil_append, z_drop]
  congr 1
  omega
theorem cleanL_cont {n : Nat} {A B : List (BitVec 8)} (h : A.length + B.length ≤ n) : cleanL (cont n (A ++ B)) A.length = cont n A := by
  unfold cleanL
  rw [cont_take (by simp), List.take_left' rfl, cont_len (by simp; omega)]
  rfl
/-- What is found where records lie with something behind them that is none. -/
theorem scan_enc (N T : List (BitVec 8)) : ∀ (L : List (BitVec 8 × List (BitVec 8))) (f e i : Nat), (∀ x ∈ L, Fine x) → N.drop e = enc i L ++ T → rightP T (i + L.length) = none → L.length < f → scan N f e i = L
  | [], f + 1, e, i, _, hd, hT, _ => by
    rw [scan, hd]
    have : enc i [] ++ T = T := rfl
    rw [this]
    rw [List.length_nil, Nat.add_zero] at hT
    rw [hT]
  | x :: r, f + 1, e, i, hF, hd, hT, hf => by
    rw [enc, List.append_assoc] at hd
    have hr := rightP_rec i x (hF x (by simp)) (enc (i + 1) r ++ T)
    rw [scan, hd, hr]
    simp only
    congr 1
    refine scan_enc N T r f _ (i + 1) (fun y hy => hF y (List.mem_cons_of_mem _ hy)) ?_ (by rw [List.length_cons] at hT; rw [show i + 1 + r.length = i + (r.length + 1) by omega]; exact hT) (by simpa using hf)
    rw [← List.drop_drop, hd, List.drop_left' (recL_len i x.1 x.2)]
/-- What waits is a row of records behind those that are safe. -/
structure Row2 (P : List (BitVec 8 × List (BitVec 8))) (s n : Nat) (D : Dk) : Prop where
  le : s ≤ P.length
  fine : ∀ x ∈ P, Fine x
  fit : (enc 0 P).length ≤ n
  dS : D.S = cont n (enc 0 (P.take s))
  dN : D.N = cont n (enc 0 P)
  wl : D.W.length = P.length - s
  wa : ∀ j (h : j < D.W.length) (h2 : s + j < P.length), D.W[j].at_ = (enc 0 (P.take (s + j))).length ∧ D.W[j].bs = recL (s + j) P[s + j].1 P[s + j].2
theorem enc_take_succ (P : List (BitVec 8 × List (BitVec 8))) (j : Nat) (h : j < P.length) : enc 0 (P.take (j + 1)) = enc 0 (P.take j) ++ recL j P[j].1 P[j].2 := by
  rw [List.take_succ_eq_append_getElem h, enc_app, List.length_take, Nat.min_eq_left (by omega), Nat.zero_add]
  simp [enc]
theorem enc_take_le (P : List (BitVec 8 × List (BitVec 8))) (j : Nat) : (enc 0 (P.take j)).length ≤ (enc 0 P).length := by
  have : enc 0 P = enc 0 (P.take j) ++ enc (0 + (P.take j).length) (P.drop j) := by rw [← enc_app, List.take_append_drop]
  rw [this, List.length_append]
  omega
theorem Row2.lays {P : List (BitVec 8 × List (BitVec 8))} {s n : Nat} {D : Dk} (h : Row2 P s n D) : ∀ j, j ≤ D.W.length → layAll D.S (D.W.take j) = cont n (enc 0 (P.take (s + j)))
  | 0, _ => by rw [List.take_zero]; exact h.dS
  | j + 1, hj => by
    have hw := h.wl
    have hsj : s + j < P.length := by omega
    obtain ⟨h1, h2⟩ := h.wa j (by omega) hsj
    have hs := enc_take_succ P (s + j) hsj
    have hl := enc_take_le P (s + j + 1)
    rw [hs, List.length_append] at hl
    have hfit := h.fit
    rw [layAll_take D.S D.W j (by omega), Row2.lays h j (by omega), h1, h2, lay_cont (by omega), ← hs]
    rfl
theorem Row2.now {P : List (BitVec 8 × List (BitVec 8))} {s n : Nat} {D : Dk} (h : Row2 P s n D) : D.N = layAll D.S D.W := by
  have := h.lays D.W.length (Nat.le_refl _)
  rw [List.take_length] at this
  rw [this, h.dN, h.wl, show s + (P.length - s) = P.length by have := h.le; omega, List.take_length]
end Go.Proofs.YtfhjiggaacgncaaDoor
