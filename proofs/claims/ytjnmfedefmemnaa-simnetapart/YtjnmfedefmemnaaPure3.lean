import Derived.Test.YtjnmfedefmemnaaAct3
namespace Go.Proofs.Ytjnmfedefmemnaa
open Go.RowKit Go.Maps
set_option maxRecDepth 100000

/-- Two data that agree at one path and direction. -/
structure SameAt (k d : Nat) (D E : Dat) : Prop where
  up : D.up k = E.up k
  cap : D.cap k = E.cap k
  cn : ∀ i, i = 4 ∨ i = 6 ∨ i = 8 ∨ i = 10 ∨ i = 12 → D.cn k (i + d) = E.cn k (i + d)
  fd : D.fd k d = E.fd k d
theorem SameAt.refl (k d : Nat) (D : Dat) : SameAt k d D D := ⟨rfl, rfl, fun _ _ => rfl, rfl⟩
section
variable {k d n : Nat} {D E : Dat}
theorem SameAt.err (h : SameAt k d D E) (z : Int) (b : Bool) : D.err n k d z b = E.err n k d z b := by
  unfold Dat.err
  simp only [Int.toNat_natCast, h.up, h.fd]
theorem SameAt.at_ (h : SameAt k d D E) (z : Int) : D.at k d z = E.at k d z := by
  unfold Dat.at
  simp only [Int.toNat_natCast, h.fd]
theorem SameAt.bump {D E : Dat} (h : ∀ i, i = 4 ∨ i = 6 ∨ i = 8 ∨ i = 10 ∨ i = 12 → D.cn k (i + d) = E.cn k (i + d)) (j : Nat) (hj : j = 4 ∨ j = 6 ∨ j = 8 ∨ j = 10 ∨ j = 12) (i : Nat) (hi : i = 4 ∨ i = 6 ∨ i = 8 ∨ i = 10 ∨ i = 12) :
    upd D.cn k (j + d) (Go.Proofs.Ytjnmfedefmemnaa.bump (D.cn k (j + d))) k (i + d) = upd E.cn k (j + d) (Go.Proofs.Ytjnmfedefmemnaa.bump (E.cn k (j + d))) k (i + d) := by
  unfold upd
  by_cases e : k = k ∧ i + d = j + d
  · rw [if_pos e, if_pos e, h j hj]
  · rw [if_neg e, if_neg e, h i hi]
theorem SameAt.put (h : SameAt k d D E) (f : List (BitVec 8)) : SameAt k d (D.put n k d f) (E.put n k d f) := by
  unfold Dat.put
  simp only [Int.toNat_natCast, h.up, h.fd, h.cap]
  split
  · exact h
  · split
    · exact h
    · split
      · exact ⟨h.up, h.cap, fun i hi => SameAt.bump h.cn 4 (by simp) i hi, by simp only [upd_same]⟩
      · refine ⟨h.up, h.cap, fun i hi => ?_, h.fd⟩
        show upd (upd D.cn k (4 + d) (Go.Proofs.Ytjnmfedefmemnaa.bump (D.cn k (4 + d)))) k (6 + d) _ k (i + d) = upd (upd E.cn k (4 + d) (Go.Proofs.Ytjnmfedefmemnaa.bump (E.cn k (4 + d)))) k (6 + d) _ k (i + d)
        by_cases e : k = k ∧ i + d = 6 + d
        · unfold upd
          rw [if_pos e, if_pos e, h.cn 6 (by simp)]
        · rw [upd_other _ _ _ _ e, upd_other _ _ _ _ e]
          exact SameAt.bump h.cn 4 (by simp) i hi
theorem SameAt.take (h : SameAt k d D E) (z : Int) : SameAt k d (D.take n k d z) (E.take n k d z) := by
  unfold Dat.take
  simp only [Int.toNat_natCast, h.err, h.fd]
  split
  · exact ⟨h.up, h.cap, fun i hi => SameAt.bump h.cn 8 (by simp) i hi, by simp only [upd_same]⟩
  · exact h
theorem SameAt.drop (h : SameAt k d D E) (z : Int) : SameAt k d (D.drop n k d z) (E.drop n k d z) := by
  unfold Dat.drop
  simp only [Int.toNat_natCast, h.err, h.fd]
  split
  · exact ⟨h.up, h.cap, fun i hi => SameAt.bump h.cn 10 (by simp) i hi, by simp only [upd_same]⟩
  · exact h
theorem SameAt.double (h : SameAt k d D E) (z : Int) : SameAt k d (D.double n k d z) (E.double n k d z) := by
  unfold Dat.double
  simp only [Int.toNat_natCast, h.err, h.fd, h.at_, h.cap]
  split
  · exact ⟨h.up, h.cap, fun i hi => SameAt.bump h.cn 12 (by simp) i hi, by simp only [upd_same]⟩
  · exact h
theorem SameAt.spoil (h : SameAt k d D E) (z a : Int) (m : BitVec 8) : SameAt k d (D.spoil n k d z a m) (E.spoil n k d z a m) := by
  unfold Dat.spoil
  simp only [Int.toNat_natCast, h.err, h.fd, h.at_]
  split
  · exact ⟨h.up, h.cap, h.cn, by simp only [upd_same]⟩
  · exact h
theorem SameAt.set (h : SameAt k d D E) (b : Bool) : SameAt k d (D.set n k b) (E.set n k b) := by
  unfold Dat.set
  split
  · exact ⟨by simp, h.cap, h.cn, h.fd⟩
  · exact h
/-- A call at this path and direction, or that sets the path. -/
theorem SameAt.act (h : SameAt k d D E) (o : OpV) (hp : o.path = k) (hd : o.kind = 6 ∨ o.dir = d) : SameAt k d (D.act n o) (E.act n o) := by
  unfold Dat.act
  rw [hp]
  by_cases h6 : o.kind = 6
  · simp only [h6]
    exact h.set o.up
  · have hd : o.dir = d := hd.resolve_left h6
    rw [hd]
    split
    · exact h.put _
    split
    · exact h.take _
    split
    · exact h.drop _
    split
    · exact h.double _
    split
    · exact h.spoil _ _ _
    · exact h
/-- What is written at another path or direction is not seen here. -/
theorem upd_cn {f : Nat → Nat → Int} {k' d' j : Nat} {v : Int} (hd : d < 2) (hd' : d' < 2) (hj : j = 4 ∨ j = 6 ∨ j = 8 ∨ j = 10 ∨ j = 12) (hne : ¬ (k = k' ∧ d = d')) (i : Nat) (hi : i = 4 ∨ i = 6 ∨ i = 8 ∨ i = 10 ∨ i = 12) : upd f k' (j + d') v k (i + d) = f k (i + d) := upd_other _ _ _ _ (fun e => hne ⟨e.1, by omega⟩)
theorem far_put (hd : d < 2) (x y : Int) (hne : ¬ (x = k ∧ y = d)) (f : List (BitVec 8)) : SameAt k d (D.put n x y f) D := by
  unfold Dat.put
  split
  · exact SameAt.refl _ _ _
  · rename_i h1
    have h1 := Classical.not_not.1 h1
    split
    · exact SameAt.refl _ _ _
    · rename_i h2
      have h2 := Classical.not_not.1 h2
      obtain ⟨k', rfl⟩ := Int.eq_ofNat_of_zero_le h1.1
      obtain ⟨d', rfl⟩ := Int.eq_ofNat_of_zero_le h2.1
      have hd' : d' < 2 := by omega
      have hne' : ¬ (k = k' ∧ d = d') := fun e => hne ⟨by rw [e.1], by rw [e.2]⟩
      simp only [Int.toNat_natCast]
      split
      · exact ⟨rfl, rfl, fun i hi => upd_cn hd hd' (by simp) hne' i hi, upd_other _ _ _ _ hne'⟩
      · refine ⟨rfl, rfl, fun i hi => ?_, rfl⟩
        show upd (upd D.cn _ _ _) _ _ _ k (i + d) = _
        rw [upd_cn hd hd' (by simp) hne' i hi, upd_cn hd hd' (by simp) hne' i hi]
theorem far_take (hd : d < 2) (x y z : Int) (hne : ¬ (x = k ∧ y = d)) : SameAt k d (D.take n x y z) D := by
  unfold Dat.take
  split
  · rename_i he
    obtain ⟨k', d', j, rfl, rfl, rfl, _, hd', _⟩ := Dat.err_zero he
    have hne' : ¬ (k = k' ∧ d = d') := fun e => hne ⟨by rw [e.1], by rw [e.2]⟩
    simp only [Int.toNat_natCast]
    exact ⟨rfl, rfl, fun i hi => upd_cn hd hd' (by simp) hne' i hi, upd_other _ _ _ _ hne'⟩
  · exact SameAt.refl _ _ _
theorem far_drop (hd : d < 2) (x y z : Int) (hne : ¬ (x = k ∧ y = d)) : SameAt k d (D.drop n x y z) D := by
  unfold Dat.drop
  split
  · rename_i he
    obtain ⟨k', d', j, rfl, rfl, rfl, _, hd', _⟩ := Dat.err_zero he
    have hne' : ¬ (k = k' ∧ d = d') := fun e => hne ⟨by rw [e.1], by rw [e.2]⟩
    simp only [Int.toNat_natCast]
    exact ⟨rfl, rfl, fun i hi => upd_cn hd hd' (by simp) hne' i hi, upd_other _ _ _ _ hne'⟩
  · exact SameAt.refl _ _ _
theorem far_double (hd : d < 2) (x y z : Int) (hne : ¬ (x = k ∧ y = d)) : SameAt k d (D.double n x y z) D := by
  unfold Dat.double
  split
  · rename_i he
    obtain ⟨k', d', j, rfl, rfl, rfl, _, hd', _⟩ := Dat.err_zero he.1
    have hne' : ¬ (k = k' ∧ d = d') := fun e => hne ⟨by rw [e.1], by rw [e.2]⟩
    simp only [Int.toNat_natCast]
    exact ⟨rfl, rfl, fun i hi => upd_cn hd hd' (by simp) hne' i hi, upd_other _ _ _ _ hne'⟩
  · exact SameAt.refl _ _ _
theorem far_spoil (x y z a : Int) (m : BitVec 8) (hne : ¬ (x = k ∧ y = d)) : SameAt k d (D.spoil n x y z a m) D := by
  unfold Dat.spoil
  split
  · rename_i he
    obtain ⟨k', d', j, rfl, rfl, rfl, _, hd', _⟩ := Dat.err_zero he.1
    have hne' : ¬ (k = k' ∧ d = d') := fun e => hne ⟨by rw [e.1], by rw [e.2]⟩
    simp only [Int.toNat_natCast]
    exact ⟨rfl, rfl, fun _ _ => rfl, upd_other _ _ _ _ hne'⟩
  · exact SameAt.refl _ _ _
theorem far_set (x : Int) (b : Bool) (hne : ¬ x = k) : SameAt k d (D.set n x b) D := by
  unfold Dat.set
  split
  · rename_i h1
    obtain ⟨k', rfl⟩ := Int.eq_ofNat_of_zero_le h1.1
    exact ⟨if_neg (fun e => hne (by rw [e]; simp)), rfl, fun _ _ => rfl, rfl⟩
  · exact SameAt.refl _ _ _
/-- A call elsewhere. -/
theorem far_act (hd : d < 2) (o : OpV) (hne : ¬ (o.path = k ∧ (o.kind = 6 ∨ o.dir = d))) : SameAt k d (D.act n o) D := by
  have h2 : ¬ (o.path = k ∧ o.dir = d) := fun e => hne ⟨e.1, .inr e.2⟩
  unfold Dat.act
  split
  · exact far_put hd _ _ h2 _
  split
  · exact far_take hd _ _ _ h2
  split
  · exact far_drop hd _ _ _ h2
  split
  · exact far_double hd _ _ _ h2
  split
  · exact far_spoil _ _ _ _ _ h2
  split
  · rename_i h6
    exact far_set _ _ (fun e => hne ⟨e, .inl h6⟩)
  · exact SameAt.refl _ _ _
end
end Go.Proofs.Ytjnmfedefmemnaa
