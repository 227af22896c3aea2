import Derived.Test.YtoeldomhkeancaaRtBase
namespace Go.Proofs.Ytoeldomhkeancaa
set_option maxRecDepth 100000
/-! A heap, pure: the keys as a function of the place. -/
/-- The time and the number. -/
abbrev Key := Int × Int
def Ah (a b : Key) : Prop := a.1 < b.1 ∨ (a.1 = b.1 ∧ a.2 < b.2)
instance (a b : Key) : Decidable (Ah a b) := by unfold Ah; infer_instance
def Le (a b : Key) : Prop := ¬ Ah b a
theorem Le.refl (a : Key) : Le a a := by unfold Le Ah; omega
theorem Le.trans {a b c : Key} (h : Le a b) (k : Le b c) : Le a c := by unfold Le Ah at *; omega
theorem Ah.le {a b : Key} (h : Ah a b) : Le a b := by unfold Le Ah at *; omega
def par (j : Nat) : Nat := (j - 1) / 2
def Hp (n : Nat) (K : Nat → Key) : Prop := ∀ j, 0 < j → j < n → Le (K (par j)) (K j)
def swK (K : Nat → Key) (i j : Nat) : Nat → Key := fun x => if x = i then K j else if x = j then K i else K x
def UpI (n : Nat) (K : Nat → Key) (k : Nat) : Prop := (∀ j, 0 < j → j < n → j ≠ k → Le (K (par j)) (K j)) ∧ ∀ c, 0 < c → c < n → par c = k → 0 < k → Le (K (par k)) (K c)
theorem par_lt {j : Nat} (h : 0 < j) : par j < j := by unfold par; omega
theorem UpI.step {n : Nat} {K : Nat → Key} {k : Nat} (h : UpI n K k) (hk : 0 < k) (hn : k < n) (ha : Ah (K k) (K (par k))) : UpI n (swK K k (par k)) (par k) := by
  have hp := par_lt hk
  have hne : par k ≠ k := by omega
  refine ⟨fun j h0 hj hjp => ?_, fun c h0 hc hcp h0p => ?_⟩
  · by_cases e : j = k
    · subst e
      unfold swK
      rw [if_neg hne, if_pos rfl, if_pos rfl]
      exact ha.le
    · by_cases e1 : par j = k
      · have h1 := h.2 j h0 hj e1 hk
        unfold swK
        rw [if_pos e1, if_neg e, if_neg hjp]
        exact h1
      · by_cases e2 : par j = par k
        · have h1 := h.1 j h0 hj e
          unfold swK
          rw [if_neg e1, if_pos e2, if_neg e, if_neg hjp]
          rw [e2] at h1
          exact ha.le.trans h1
        · have h1 := h.1 j h0 hj e
          unfold swK
          rw [if_neg e1, if_neg e2, if_neg e, if_neg hjp]
          exact h1
  · have hpp := par_lt h0p
    have h1 := h.1 (par k) h0p (by omega) hne
    have e1 : par (par k) ≠ k := by omega
    have e2 : par (par k) ≠ par k := by omega
    have hcl := par_lt h0
    unfold swK
    rw [if_neg e1, if_neg e2]
    by_cases e : c = k
    · rw [if_pos e]; exact h1
    · have e3 : c ≠ par k := by omega
      rw [if_neg e, if_neg e3]
      have h2 := h.1 c h0 hc e
      rw [hcp] at h2
      exact h1.trans h2
theorem UpI.done {n : Nat} {K : Nat → Key} {k : Nat} (h : UpI n K k) (hk : k = 0 ∨ Le (K (par k)) (K k)) : Hp n K := fun j h0 hj => by
  by_cases e : j = k
  · subst e
    rcases hk with hk | hk
    · omega
    · exact hk
  · exact h.1 j h0 hj e
def DnI (n : Nat) (K : Nat → Key) (k : Nat) : Prop := (∀ j, 0 < j → j < n → par j ≠ k → Le (K (par j)) (K j)) ∧ ∀ j, 0 < j → j < n → par j = k → 0 < k → Le (K (par k)) (K j)
theorem DnI.step {n : Nat} {K : Nat → Key} {k m : Nat} (h : DnI n K k) (hm : par m = k) (h0m : 0 < m) (hmn : m < n) (ha : Ah (K m) (K k)) (hl : ∀ j, 0 < j → j < n → par j = k → Le (K m) (K j)) : DnI n (swK K k m) m := by
  have hkm : k < m := by have := par_lt h0m; omega
  have hne : k ≠ m := by omega
  refine ⟨fun j h0 hj hjm => ?_, fun j h0 hj hjm h0' => ?_⟩
  · by_cases e1 : par j = k
    · unfold swK
      rw [if_pos e1]
      by_cases e2 : j = m
      · rw [if_neg (by omega), if_pos e2]; exact ha.le
      · have hjk := par_lt h0
        rw [if_neg (by omega), if_neg e2]
        exact hl j h0 hj e1
    · have h1 := h.1 j h0 hj e1
      have e2 : j ≠ m := fun e => e1 (by rw [e]; exact hm)
      unfold swK
      rw [if_neg e1, if_neg hjm, if_neg e2]
      by_cases e : j = k
      · rw [if_pos e]
        subst e
        exact h.2 m h0m hmn hm h0
      · rw [if_neg e]; exact h1
  · have hjl := par_lt h0
    have h1 := h.1 j h0 hj (by omega)
    unfold swK
    rw [hm, if_pos rfl, if_neg (by omega), if_neg (by omega)]
    rw [hjm] at h1
    exact h1
theorem DnI.done {n : Nat} {K : Nat → Key} {k : Nat} (h : DnI n K k) (hk : ∀ j, 0 < j → j < n → par j = k → Le (K k) (K j)) : Hp n K := fun j h0 hj => by
  by_cases e : par j = k
  · rw [e]; exact hk j h0 hj e
  · exact h.1 j h0 hj e
theorem Hp.least {n : Nat} {K : Nat → Key} (h : Hp n K) : ∀ j, j < n → Le (K 0) (K j) := fun j => by
  induction j using Nat.strongRecOn with
  | _ j ih =>
    intro hj
    by_cases e : j = 0
    · subst e; exact Le.refl _
    · exact (ih (par j) (par_lt (by omega)) (by have := par_lt (j := j) (by omega); omega)).trans (h j (by omega) hj)
/-- An item: its time, its number, what it holds. -/
structure It (α : Type) where
  at_ : Int
  num : Int
  what : α
def It.key {α : Type} (x : It α) : Key := (x.at_, x.num)
section
variable {α : Type}
def kat (L : List (It α)) : Nat → Key := fun j => (L[j]?.map It.key).getD (0, 0)
theorem kat_get {L : List (It α)} {j : Nat} {x : It α} (h : L[j]? = some x) : kat L j = x.key := by unfold kat; rw [h]; rfl
def sw (L : List (It α)) (i j : Nat) (x y : It α) : List (It α) := (L.set i y).set j x
theorem sw_len (L : List (It α)) (i j : Nat) (x y : It α) : (sw L i j x y).length = L.length := by simp [sw]
theorem kat_sw {L : List (It α)} {i j : Nat} {x y : It α} (hi : L[i]? = some x) (hj : L[j]? = some y) : kat (sw L i j x y) = swK (kat L) i j := by
  have li := (List.getElem?_eq_some_iff.1 hi).1
  have lj := (List.getElem?_eq_some_iff.1 hj).1
  funext k
  unfold swK
  by_cases e1 : k = i
  · rw [if_pos e1, kat_get hj]
    subst e1
    by_cases e2 : j = k
    · subst e2
      rw [hi] at hj; cases hj
      exact kat_get (by unfold sw; simp [li])
    · exact kat_get (by unfold sw; rw [List.getElem?_set_ne e2, List.getElem?_set_self li])
  · rw [if_neg e1]
    by_cases e2 : k = j
    · subst e2
      rw [if_pos rfl, kat_get hi]
      exact kat_get (by unfold sw; rw [List.getElem?_set_self (by simpa using lj)])
    · rw [if_neg e2]
      unfold kat sw
      rw [List.getElem?_set_ne (fun e => e2 e.symm), List.getElem?_set_ne (fun e => e1 e.symm)]
theorem sw_perm {L : List (It α)} {i j : Nat} {x y : It α} (hi : L[i]? = some x) (hj : L[j]? = some y) : (sw L i j x y).Perm L := by
  have li := (List.getElem?_eq_some_iff.1 hi).1
  have lj := (List.getElem?_eq_some_iff.1 hj).1
  have ei := (List.getElem?_eq_some_iff.1 hi).2
  have ej := (List.getElem?_eq_some_iff.1 hj).2
  have h := List.set_set_perm li lj
  rw [ei, ej] at h
  exact h
theorem kat_app {L R : List (It α)} {j : Nat} (h : j < L.length) : kat (L ++ R) j = kat L j := by unfold kat; rw [List.getElem?_append_left h]
theorem up_start {L : List (It α)} (hh : Hp L.length (kat L)) (x : It α) : UpI (L.length + 1) (kat (L ++ [x])) L.length := by
  refine ⟨fun j h0 hj hne => ?_, fun c h0 hc hp _ => ?_⟩
  · have hp := par_lt h0
    rw [kat_app (by omega), kat_app (by omega)]
    exact hh j h0 (by omega)
  · have := par_lt h0
    omega
end
end Go.Proofs.Ytoeldomhkeancaa
