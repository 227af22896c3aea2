import Derived.Test.YtgkfnbbgohdalaaDoorRows0
namespace Go.Proofs.YtgkfnbbgohdalaaDoor
open Go.RowKit

/-- What bytes fill, the highest first, as a number. -/
def val (bs : List (BitVec 8)) : Nat := bs.foldl (fun n x => n * 256 + x.toNat) 0
/-- A number as k bytes, the highest first. -/
def be : Nat → Nat → List (BitVec 8)
  | 0, _ => []
  | k + 1, n => be k (n / 256) ++ [BitVec.ofNat 8 n]
theorem be_len (k n : Nat) : (be k n).length = k := by
  induction k generalizing n with
  | zero => rfl
  | succ k ih => simp [be, ih]
theorem val_snoc (bs : List (BitVec 8)) (x : BitVec 8) : val (bs ++ [x]) = val bs * 256 + x.toNat := by simp [val, List.foldl_append]
theorem val_lt (bs : List (BitVec 8)) : val bs < 256 ^ bs.length := by
  obtain ⟨l, rfl⟩ : ∃ l : List (BitVec 8), bs = l.reverse := ⟨bs.reverse, by simp⟩
  induction l with
  | nil => simp [val]
  | cons x l ih =>
    rw [List.reverse_cons, val_snoc, List.length_append, List.length_singleton, Nat.pow_succ]
    have := x.isLt
    omega
theorem be_val (bs : List (BitVec 8)) : be bs.length (val bs) = bs := by
  obtain ⟨l, rfl⟩ : ∃ l : List (BitVec 8), bs = l.reverse := ⟨bs.reverse, by simp⟩
  induction l with
  | nil => rfl
  | cons x l ih =>
    rw [List.reverse_cons, val_snoc, List.length_append, List.length_singleton, be]
    have hx := x.isLt
    rw [show (val l.reverse * 256 + x.toNat) / 256 = val l.reverse by omega, ih]
    congr 1
    have : BitVec.ofNat 8 (val l.reverse * 256 + x.toNat) = x := by
      apply BitVec.eq_of_toNat_eq
      rw [BitVec.toNat_ofNat]
      omega
    rw [this]
theorem be_val' (bs : List (BitVec 8)) (k : Nat) (h : bs.length = k) : be k (val bs) = bs := by subst h; exact be_val bs
theorem val_be (k n : Nat) (h : n < 256 ^ k) : val (be k n) = n := by
  induction k generalizing n with
  | zero => simp [be, val] at *; omega
  | succ k ih =>
    rw [be, val_snoc, ih _ (by rw [Nat.pow_succ] at h; omega), BitVec.toNat_ofNat]
    omega
theorem be_get (k n j : Nat) (h : j < k) : (be k n)[j]'(by rw [be_len]; exact h) = BitVec.ofNat 8 (n / 256 ^ (k - 1 - j)) := by
  induction k generalizing n with
  | zero => omega
  | succ k ih =>
    simp only [be]
    by_cases hj : j < k
    · rw [List.getElem_append_left (by rw [be_len]; exact hj), ih _ hj, Nat.div_div_eq_div_mul, show k + 1 - 1 - j = (k - 1 - j) + 1 by omega, Nat.pow_succ, Nat.mul_comm]
    · have e : j = k := by omega
      subst e
      rw [List.getElem_append_right (by rw [be_len]; omega)]
      simp

/-- A frame, as plain data. -/
structure Fr where
  kind : Int
  path : Int
  num : Nat
  off : Nat
  edge : Nat
  data : List (BitVec 8)
  ranges : List (Nat × Nat)
  token : Nat
  nonce : Nat
  mac : List (BitVec 8)
  backup : Bool
  which : Int
  deriving DecidableEq

def Fr.zero : Fr := ⟨0, 0, 0, 0, 0, [], [], 0, 0, [], false, 0⟩
def known (k : Int) : Prop := 0 < k ∧ k < 12
instance (k : Int) : Decidable (known k) := by unfold known; exact inferInstance

/-- The ranges have numbers, rise, and leave out one at least between one another. -/
def apartAt (l : List (Nat × Nat)) (i : Nat) (h : i < l.length) : Prop :=
  (l[i]).1 < (l[i]).2 ∧ (l[i]).2 ≤ 4611686018427387905 ∧ (∀ h0 : 0 < i, (l[i - 1]).2 < (l[i]).1)
def apart (l : List (Nat × Nat)) : Prop := ∀ i (h : i < l.length), apartAt l i h
def bounded (f : Fr) : Prop :=
  if f.kind = 1 then 1 ≤ f.data.length ∧ f.data.length ≤ 1024 ∧ f.off ≤ 4611686018427387904 - f.data.length ∧ f.num ≤ 4611686018427387904
  else if f.kind = 2 then f.off ≤ 4611686018427387904 ∧ f.num ≤ 4611686018427387904
  else if f.kind = 3 then f.num ≤ 4611686018427387904
  else if f.kind = 4 then 1 ≤ f.ranges.length ∧ f.ranges.length ≤ 8 ∧ apart f.ranges
  else if f.kind = 5 then f.off ≤ 4611686018427387905 ∧ f.edge ≤ 9223372036854775808
  else if f.kind = 8 then f.mac.length = 8
  else if f.kind = 9 then f.mac.length = 20
  else if f.kind = 11 then 0 ≤ f.which ∧ f.which < 8
  else True
/-- A frame without the fields of its kind. -/
def strip (f : Fr) : Fr :=
  if f.kind = 1 then { f with data := [], off := 0, num := 0 }
  else if f.kind = 2 then { f with off := 0, num := 0 }
  else if f.kind = 3 then { f with num := 0 }
  else if f.kind = 4 then { f with ranges := [] }
  else if f.kind = 5 then { f with off := 0, edge := 0 }
  else if f.kind = 6 then { f with token := 0 }
  else if f.kind = 7 then { f with nonce := 0, backup := false, token := 0 }
  else if f.kind = 8 then { f with nonce := 0, mac := [] }
  else if f.kind = 9 then { f with mac := [] }
  else if f.kind = 10 then { f with backup := false }
  else if f.kind = 11 then { f with which := 0 }
  else f
def blank (f : Fr) : Prop := f.num = 0 ∧ f.off = 0 ∧ f.edge = 0 ∧ f.token = 0 ∧ f.nonce = 0 ∧ f.which = 0 ∧ f.backup = false ∧ f.data = [] ∧ f.ranges = [] ∧ f.mac = []
/-- A frame that can be written. -/
def fit (f : Fr) : Prop := known f.kind ∧ 0 ≤ f.path ∧ f.path < 8 ∧ bounded f ∧ blank (strip f)
/-- The fields of the kind alone (the reference's way). -/
def only (f : Fr) : Fr :=
  if f.kind = 1 then { Fr.zero with kind := f.kind, path := f.path, num := f.num, off := f.off, data := f.data }
  else if f.kind = 2 then { Fr.zero with kind := f.kind, path := f.path, num := f.num, off := f.off }
  else if f.kind = 3 then { Fr.zero with kind := f.kind, path := f.path, num := f.num }
  else if f.kind = 4 then { Fr.zero with kind := f.kind, path := f.path, ranges := f.ranges }
  else if f.kind = 5 then { Fr.zero with kind := f.kind, path := f.path, off := f.off, edge := f.edge }
  else if f.kind = 6 then { Fr.zero with kind := f.kind, path := f.path, token := f.token }
  else if f.kind = 7 then { Fr.zero with kind := f.kind, path := f.path, token := f.token, nonce := f.nonce, backup := f.backup }
  else if f.kind = 8 then { Fr.zero with kind := f.kind, path := f.path, nonce := f.nonce, mac := f.mac }
  else if f.kind = 9 then { Fr.zero with kind := f.kind, path := f.path, mac := f.mac }
  else if f.kind = 10 then { Fr.zero with kind := f.kind, path := f.path, backup := f.backup }
  else if f.kind = 11 then { Fr.zero with kind := f.kind, path := f.path, which := f.which }
  else { Fr.zero with kind := f.kind, path := f.path }
/-- The path and the fields of its kind are within their bounds (the reference's way). -/
def within (f : Fr) : Prop := 0 ≤ f.path ∧ f.path < 8 ∧ f.num ≤ 4611686018427387904 ∧
  (if f.kind = 1 then 1 ≤ f.data.length ∧ f.data.length ≤ 1024 ∧ f.off ≤ 4611686018427387904 ∧ f.off + f.data.length ≤ 4611686018427387904
  else if f.kind = 2 then f.off ≤ 4611686018427387904
  else if f.kind = 4 then 1 ≤ f.ranges.length ∧ f.ranges.length ≤ 8 ∧ apart f.ranges
  else if f.kind = 5 then f.off ≤ 4611686018427387905 ∧ f.edge ≤ 9223372036854775808
  else if f.kind = 8 then f.mac.length = 8
  else if f.kind = 9 then f.mac.length = 20
  else if f.kind = 11 then 0 ≤ f.which ∧ f.which < 8
  else 1 ≤ f.kind ∧ f.kind ≤ 11)
theorem kinds {k : Int} (h : known k) : k = 1 ∨ k = 2 ∨ k = 3 ∨ k = 4 ∨ k = 5 ∨ k = 6 ∨ k = 7 ∨ k = 8 ∨ k = 9 ∨ k = 10 ∨ k = 11 := by
  unfold known at h; omega
/-- Both ways tell the same. -/
theorem fit_ref (f : Fr) : fit f ↔ known f.kind ∧ f = only f ∧ within f := by
  obtain ⟨kind, path, num, off, edge, data, ranges, token, nonce, mac, backup, which⟩ := f
  constructor
  · rintro ⟨hk, h0, h8, hb, hs⟩
    refine ⟨hk, ?_⟩
    rcases kinds hk with rfl | rfl | rfl | rfl | rfl | rfl | rfl | rfl | rfl | rfl | rfl <;>
      simp [bounded, strip, blank, only, within, Fr.zero] at hb hs ⊢ <;> simp_all <;> omega
  · rintro ⟨hk, ho, hw⟩
    refine ⟨hk, hw.1, hw.2.1, ?_⟩
    rcases kinds hk with rfl | rfl | rfl | rfl | rfl | rfl | rfl | rfl | rfl | rfl | rfl <;>
      simp [bounded, strip, blank, only, within, Fr.zero] at hw ho ⊢ <;> simp_all <;> omega
end Go.Proofs.YtgkfnbbgohdalaaDoor
