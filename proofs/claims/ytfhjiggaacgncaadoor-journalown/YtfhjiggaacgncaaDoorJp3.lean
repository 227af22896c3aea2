import Derived.Test.YtfhjiggaacgncaaDoorJp2
namespace Go.Proofs.YtfhjiggaacgncaaDoor
open Go.RowKit Go.Maps Go.Sort
set_option maxRecDepth 100000

/-- What is found where records lie with something torn behind them. -/
theorem scan_left {P : List (BitVec 8 × List (BitVec 8))} {k n : Nat} {X : List (BitVec 8)} (hF : ∀ x ∈ P, Fine x) (h : Left P k n X) (hfit : (enc 0 P).length ≤ n) : scan X (X.length + 1) 0 0 = P.take k ∧ cleanL X (enc 0 (P.take k)).length = cont n (enc 0 (P.take k)) := by
  obtain ⟨hk, B, rfl, hl, hT⟩ := h
  have hlen : (cont n (enc 0 (P.take k) ++ B)).length = n := cont_len (by omega)
  have hp : ∀ L : List (BitVec 8 × List (BitVec 8)), L.length ≤ (L.map fun x => 18 + x.2.length).sum := fun L => by
    induction L with
    | nil => exact Nat.le_refl _
    | cons x r ih => simp; omega
  have h1 := hp (P.take k)
  rw [← enc_len 0] at h1
  rw [List.length_append] at hl
  refine ⟨?_, cleanL_cont (by omega)⟩
  refine scan_enc _ (B ++ z (n - (enc 0 (P.take k) ++ B).length)) (P.take k) _ 0 0 (fun x hx => hF x (List.mem_of_mem_take hx)) ?_ (hT _ _) (by omega)
  rw [List.drop_zero, cont, List.append_assoc]
theorem Row2.left_now {P : List (BitVec 8 × List (BitVec 8))} {s n : Nat} {D : Dk} (h : Row2 P s n D) : Left P P.length n D.N :=
  ⟨Nat.le_refl _, [], by rw [List.take_length, List.append_nil]; exact h.dN, by rw [List.take_length, List.append_nil]; exact Nat.le_refl _, fun i m => by simpa using rightP_zero i m⟩
/-- An Open behind whatever is left. -/
theorem row2_open {P : List (BitVec 8 × List (BitVec 8))} {k n : Nat} {D D' : Dk} {G : Lg} {w w' : World} {p q : Nat} (hF : ∀ x ∈ P, Fine x) (hfit : (enc 0 P).length ≤ n) (hX : Left P k n D.N) (hO : Opn w w' p q D D' G) : Row2 (P.take k) (P.take k).length n D' ∧ G.pr = P.take k ∧ G.end_ = (enc 0 (P.take k)).length := by
  obtain ⟨h1, h2⟩ := scan_left hF hX hfit
  have hpr : G.pr = P.take k := hO.pr.trans h1
  have hen : G.end_ = (enc 0 (P.take k)).length := by rw [hO.en, hpr, enc_len]
  have hc : cleanL D.N G.end_ = cont n (enc 0 (P.take k)) := by rw [hen]; exact h2
  refine ⟨⟨Nat.le_refl _, fun x hx => hF x (List.mem_of_mem_take hx), Nat.le_trans (enc_take_le P k) hfit, by rw [hO.dS, hc, List.take_length], by rw [hO.dN, hc], by rw [hO.dW]; simp, fun j hj => ?_⟩, hpr, hen⟩
  rw [hO.dW] at hj
  simp at hj
/-- What a crash leaves on the disk. -/
theorem row2_crash {P : List (BitVec 8 × List (BitVec 8))} {s n : Nat} {D : Dk} (h : Row2 P s n D) (keep torn : Int) : ∃ k, s ≤ k ∧ Left P k n (D.crash keep torn).N ∧ (D.crash keep torn).S = (D.crash keep torn).N ∧ (D.crash keep torn).W = [] := by
  obtain ⟨k, hk, hL⟩ := h.left keep torn
  have hf : (D.crash keep torn).N = D.left keep torn := h.forget hk hL
  exact ⟨k, hk, by rw [hf]; exact hL, by rw [hf]; rfl, rfl⟩
theorem good_calm {D : Dk} {n : Nat} (hS : D.S = D.N) (hW : D.W = []) (hl : D.N.length = n) (h1 : 1 ≤ n) (h2 : n ≤ 16777216) : D.Good :=
  ⟨⟨by rw [hS], by rw [hS]; omega, by rw [hS]; omega, fun x hx => (by rw [hW] at hx; cases hx)⟩, fun x hx => (by rw [hW] at hx; cases hx), by rw [hW]; simp, by rw [hW, hS]; rfl⟩
end Go.Proofs.YtfhjiggaacgncaaDoor
