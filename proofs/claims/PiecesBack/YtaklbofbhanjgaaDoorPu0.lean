import Derived.Test.YtaklbofbhanjgaaDoorRw1
namespace Go.Proofs.YtaklbofbhanjgaaDoor
open Go.RowKit
set_option maxRecDepth 100000
/-- A climb asks for no more than what lies within its stretch, and as many steps as there are suffice. -/
theorem upS_congr {σ : Type} {i : Nat} {f : List (BitVec 8)} {ans ans' : σ → Nat → Nat → List (BitVec 8)} {nx : σ → Nat → Nat → σ} {lo0 hi0 : Nat} (hh : hi0 - lo0 ≤ 4611686018427387904) (h : ∀ s x y, lo0 ≤ x → x < y → y ≤ hi0 → y - x < hi0 - lo0 → ans s x y = ans' s x y) :
    ∀ (k k' lo hi : Nat) (s : σ), lo < hi → lo0 ≤ lo → hi ≤ hi0 → hi - lo ≤ k → hi - lo ≤ k' → upS i f ans nx k lo hi s = upS i f ans' nx k' lo hi s
  | 0, _, lo, hi, s, a, _, _, c, _ => absurd c (by omega)
  | k + 1, 0, lo, hi, s, a, _, _, _, d => absurd d (by omega)
  | k + 1, k' + 1, lo, hi, s, a, b, c, d, e => by
    unfold upS
    by_cases e1 : hi = lo + 1
    · rw [if_pos e1, if_pos e1]
    · rw [if_neg e1, if_neg e1]
      obtain ⟨s1, s2, s3, -, -⟩ := splitN_bd (n := hi - lo) (by omega) (by omega)
      generalize splitN (hi - lo) = m at *
      by_cases e2 : i < lo + m
      · rw [if_pos e2, if_pos e2, upS_congr hh h k k' lo (lo + m) s (by omega) (by omega) (by omega) (by omega) (by omega), h _ (lo + m) hi (by omega) (by omega) (by omega) (by omega)]
      · rw [if_neg e2, if_neg e2, upS_congr hh h k k' (lo + m) hi s (by omega) (by omega) (by omega) (by omega) (by omega), h _ lo (lo + m) (by omega) (by omega) (by omega) (by omega)]
theorem overF_fuel {P : List (List (BitVec 8))} : ∀ (k k' lo hi : Nat), lo ≤ hi → hi - lo ≤ 4611686018427387904 → hi - lo ≤ k → hi - lo ≤ k' → overF P k lo hi = overF P k' lo hi
  | 0, 0, _, _, _, _, _, _ => rfl
  | 0, k' + 1, lo, hi, a, _, b, _ => by unfold overF; rw [if_pos (by omega)]
  | k + 1, 0, lo, hi, a, _, _, b => by unfold overF; rw [if_pos (by omega)]
  | k + 1, k' + 1, lo, hi, a, z, b, c => by
    unfold overF
    by_cases e : lo = hi
    · rw [if_pos e, if_pos e]
    · rw [if_neg e, if_neg e]
      rw [upS_congr (lo0 := lo) (hi0 := hi) z (ans' := fun _ x y => overF P k' x y) (fun _ x y h1 h2 h3 h4 => overF_fuel k k' x y (by omega) (by omega) (by omega) (by omega)) (hi - lo) (hi - lo) lo hi () (by omega) (by omega) (by omega) (by omega) (by omega)]
/-- The root over a row's digests from lo on, ahead of hi. -/
def overL (P : List (List (BitVec 8))) (lo hi : Nat) : List (BitVec 8) := overF P (hi - lo) lo hi
theorem overL_none (P : List (List (BitVec 8))) (lo : Nat) : overL P lo lo = sha [] := by unfold overL; rw [Nat.sub_self]; rfl
theorem overL_some {P : List (List (BitVec 8))} {lo hi : Nat} (h : lo < hi) (z : hi - lo ≤ 4611686018427387904) : overL P lo hi = (upS (σ := Unit) lo (P.getD lo z32) (fun _ x y => overL P x y) (fun _ _ _ => ()) (hi - lo) lo hi ()).1 := by
  unfold overL
  obtain ⟨k, hk⟩ : ∃ k, hi - lo = k + 1 := ⟨hi - lo - 1, by omega⟩
  rw [hk]
  conv => lhs; unfold overF
  rw [if_neg (by omega), hk]
  rw [upS_congr (lo0 := lo) (hi0 := hi) z (ans' := fun _ x y => overF P (y - x) x y) (fun _ x y h1 h2 h3 h4 => overF_fuel k (y - x) x y (by omega) (by omega) (by omega) (by omega)) (k + 1) (k + 1) lo hi () h (by omega) (by omega) (by omega) (by omega)]
theorem overL_len {P : List (List (BitVec 8))} (hP : ∀ x ∈ P, x.length = 32) {lo hi : Nat} (h : lo ≤ hi) : (overL P lo hi).length = 32 := overF_len hP _ _ _ h
theorem rootL_over (P : List (List (BitVec 8))) : rootL P = overL P 0 P.length := rfl
/-! A list of numbers below M, each once, has M of them at most. -/
theorem nodup_len : ∀ (M : Nat) (l : List Nat), l.Nodup → (∀ x ∈ l, x < M) → l.length ≤ M
  | 0, l, _, h => by
    cases l with
    | nil => exact Nat.le_refl _
    | cons a r => exact absurd (h a (by simp)) (Nat.not_lt_zero _)
  | M + 1, l, hn, h => by
    have h1 := nodup_len M (l.erase M) (hn.erase M) (fun x hx => by
      have hx1 := h x (List.mem_of_mem_erase hx)
      have hne : x ≠ M := fun e => by
        subst e
        exact (List.Nodup.not_mem_erase hn) hx
      omega)
    rw [List.length_erase] at h1
    split at h1 <;> omega
end Go.Proofs.YtaklbofbhanjgaaDoor
