import Derived.Test.YtjnmfedefmemnaaDbl2
import Derived.Maps.Own
import Derived.Maps.OwnOps
import Derived.Maps.OwnSet
import Derived.Maps.RangeWalk
import Derived.Maps.Views
namespace Go.Proofs.Ytjnmfedefmemnaa
open Go.RowKit Go.Maps
set_option maxRecDepth 100000

abbrev DM := DataW Unit
abbrev kw (j : Int) : Lit := .int .i64 j
theorem law3 : Keyed Try.prog 3 := int_keyed Try.underlying3
theorem zero5 (w : World) : (zeroValue 5).run Try.prog w = .ok (.int .u8 0) w := by kernel_rfl
abbrev OwnM (w : World) (b k : Nat) (D : DM) : Prop := w.ownsMap Try.prog 3 (plainElem Try.prog 5) b k D
theorem wf_key (j : Nat) (h : j ≤ 140737488351232) : (Lit.int .i64 (j : Int)).wf = true := WalkArith.wf_i64 (by omega)
theorem key_of (j : Nat) (h : j ≤ 140737488351232) : keyOf Try.prog 3 (.int .i64 (j : Int)) = some (kw j) := keyOf_int_mk Try.underlying3 (wf_key j h)
theorem wf_ub (b : BitVec 8) : (Lit.int .u8 (ub b)).wf = true := by
  have h := ub_bd b
  have h2 : ub b = ((b.toNat : Nat) : Int) := rfl
  simp [Lit.wf, show IntKind.u8.min = 0 by decide, show IntKind.u8.max = 255 by decide]
  omega
/-- The map holds the turned bits, none of them 0. -/
structure TInv (n : Nat) (D : DM) (T : Nat → BitVec 8) : Prop where
  at_ : ∀ j : Nat, j < n → D.atKey (kw j) (.lit (.int .u8 0)) = .lit (.int .u8 (ub (T j)))
  has_ : ∀ kl, Maps.has D kl = true → ∃ j : Nat, j < n ∧ kl = kw j ∧ T j ≠ 0
  hast : ∀ j : Nat, j < n → T j ≠ 0 → Maps.has D (kw j) = true
/-- One place's bits are turned. -/
def turnT (T : Nat → BitVec 8) (j : Nat) (m : BitVec 8) : Nat → BitVec 8 := fun i => if i = j then T i ^^^ m else T i
theorem kw_inj {i j : Nat} (h : kw (i : Int) = kw (j : Int)) : i = j := by
  injection h with _ h
  omega
theorem keyLit (j : Int) : WideAt.IsKeyLit (kw j) := trivial
theorem TInv.put {n : Nat} {D : DM} {T : Nat → BitVec 8} (h : TInv n D T) (hD : IsMap D) {j : Nat} (hj : j < n) {m : BitVec 8} (hne : T j ^^^ m ≠ 0) : TInv n (D.put (kw j) (.lit (.int .u8 (ub (T j ^^^ m))))) (turnT T j m) := by
  refine ⟨fun i hi => ?_, fun kl hh => ?_, fun i hi hT => ?_⟩
  · unfold turnT
    by_cases e : i = j
    · subst e
      rw [if_pos rfl, atKey_put_same hD (keyLit _)]
    · rw [if_neg e, atKey_put_other (fun h => e (kw_inj h))]
      exact h.at_ i hi
  · by_cases e : kl = kw j
    · exact ⟨j, hj, e, by unfold turnT; rw [if_pos rfl]; exact hne⟩
    · rw [has_put_other e] at hh
      obtain ⟨i, hi, rfl, hT⟩ := h.has_ kl hh
      exact ⟨i, hi, rfl, by unfold turnT; rw [if_neg (fun h => e (by rw [h]))]; exact hT⟩
  · by_cases e : i = j
    · subst e; exact has_put_same hD (keyLit _) _
    · rw [has_put_other (fun h => e (kw_inj h))]
      unfold turnT at hT
      rw [if_neg e] at hT
      exact h.hast i hi hT
theorem TInv.del {n : Nat} {D : DM} {T : Nat → BitVec 8} (h : TInv n D T) {j : Nat} {m : BitVec 8} (hz : T j ^^^ m = 0) : TInv n (D.del (kw j)) (turnT T j m) := by
  refine ⟨fun i hi => ?_, fun kl hh => ?_, fun i hi hT => ?_⟩
  · unfold turnT
    by_cases e : i = j
    · subst e
      rw [if_pos rfl, atKey_del_same, hz]
      rfl
    · rw [if_neg e, atKey_del_other (fun h => e (kw_inj h))]
      exact h.at_ i hi
  · by_cases e : kl = kw j
    · subst e; rw [has_del_same] at hh; cases hh
    · rw [has_del_other e] at hh
      obtain ⟨i, hi, rfl, hT⟩ := h.has_ kl hh
      exact ⟨i, hi, rfl, by unfold turnT; rw [if_neg (fun h => e (by rw [h]))]; exact hT⟩
  · by_cases e : i = j
    · subst e
      unfold turnT at hT
      rw [if_pos rfl] at hT
      exact absurd hz hT
    · rw [has_del_other (fun h => e (kw_inj h))]
      unfold turnT at hT
      rw [if_neg e] at hT
      exact h.hast i hi hT
theorem TInv.empty {n : Nat} {T : Nat → BitVec 8} (h : ∀ j, j < n → T j = 0) : TInv n (.map []) T :=
  ⟨(fun j hj => by rw [h j hj]; rfl), (fun kl hh => by cases hh), (fun j hj hT => absurd (h j hj) hT)⟩
/-- Something is turned just if the map has an entry. -/
theorem size_pos {w : World} {b k n : Nat} {D : DM} {T : Nat → BitVec 8} (ho : OwnM w b k D) (h : TInv n D T) : 0 < Maps.size D ↔ ∃ j, j < n ∧ T j ≠ 0 := by
  obtain ⟨es, rfl, _, hk⟩ := ho.entries law3
  constructor
  · intro hs
    cases es with
    | nil => simp [Maps.size] at hs
    | cons p r =>
      have hh : Maps.has (.map (p :: r) : DM) p.1 = true := by
        rw [Maps.has_eq, List.any_cons, WideAt.sameKey_self (hk p (by simp))]
        rfl
      obtain ⟨j, hj, _, hT⟩ := h.has_ _ hh
      exact ⟨j, hj, hT⟩
  · rintro ⟨j, hj, hT⟩
    have hh := h.hast j hj hT
    cases es with
    | nil => cases hh
    | cons p r => simp [Maps.size]
/-- The bytes, those turned that are no longer to come. -/
def xorL (bs : List (BitVec 8)) (T : Nat → BitVec 8) (left : Lit → Bool) : List (BitVec 8) := bs.mapIdx fun i b => if left (kw i) = true then b else b ^^^ T i
theorem xorL_len (bs : List (BitVec 8)) (T : Nat → BitVec 8) (left : Lit → Bool) : (xorL bs T left).length = bs.length := by simp [xorL]
theorem xorL_get {bs : List (BitVec 8)} {T : Nat → BitVec 8} {left : Lit → Bool} {i : Nat} (h : i < bs.length) : (xorL bs T left)[i]'(by rw [xorL_len]; exact h) = if left (kw i) = true then bs[i] else bs[i] ^^^ T i := by simp [xorL]
def xorT (bs : List (BitVec 8)) (T : Nat → BitVec 8) : List (BitVec 8) := xorL bs T (fun _ => false)
theorem xorL_start {bs : List (BitVec 8)} {D : DM} {T : Nat → BitVec 8} (h : TInv bs.length D T) : xorL bs T (Maps.has D) = bs := by
  apply List.ext_getElem
  · rw [xorL_len]
  · intro i h1 h2
    rw [xorL_get h2]
    by_cases hh : Maps.has D (kw i) = true
    · rw [if_pos hh]
    · rw [if_neg hh]
      have hT : T i = 0 := Classical.byContradiction fun hT => hh (h.hast i h2 hT)
      rw [hT]
      simp
theorem xorL_end {bs : List (BitVec 8)} {T : Nat → BitVec 8} {left : Lit → Bool} (h : ∀ kl, left kl = false) : xorL bs T left = xorT bs T := by
  have : left = fun _ => false := funext h
  rw [this]
  rfl
theorem xorL_step {bs : List (BitVec 8)} {T : Nat → BitVec 8} {left : Lit → Bool} {j : Nat} (hj : j < bs.length) : (xorL bs T left).set j (bs[j] ^^^ T j) = xorL bs T (fun z => left z && !z.sameKey (kw j)) := by
  apply List.ext_getElem
  · rw [List.length_set, xorL_len, xorL_len]
  · intro i h1 h2
    have hi : i < bs.length := by rw [xorL_len] at h2; exact h2
    rw [xorL_get hi]
    by_cases e : i = j
    · subst e
      rw [List.getElem_set_self, WideAt.sameKey_self (keyLit _)]
      simp
    · rw [List.getElem_set_ne (Ne.symm e), xorL_get hi]
      have : (kw (i : Int)).sameKey (kw (j : Int)) = false := sameKey_ne (fun h => e (kw_inj h))
      rw [this]
      simp
end Go.Proofs.Ytjnmfedefmemnaa
