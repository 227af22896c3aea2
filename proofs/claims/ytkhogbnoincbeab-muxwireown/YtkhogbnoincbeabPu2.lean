import Derived.Test.YtkhogbnoincbeabPu1
namespace Go.Proofs.Ytkhogbnoincbeab
open Go.RowKit Go.Maps Go.Sort
set_option maxRecDepth 100000

section
variable {t : List (Nat × Nat)} {f : Nat} {F : PF} {m : List (BitVec 8)}
theorem allD_str {s : Int} (h0 : 0 ≤ s) (h1 : s ≤ 4611686018427387904) (hf : fitB f { F with s := s } = true) : allD ((32, f) :: t) F (numB s.toNat ++ m) = allD t { F with s := s } m := by
  have e : readF 32 F (numB s.toNat ++ m) = (0, { F with s := s }, m) := by
    simp only [readF, if_pos, strD]
    rw [numD_back _ _ (by omega)]
    simp only [Int.toNat_of_nonneg h0]
  simp only [allD]
  rw [e, if_neg (by simp), if_neg (by simp [hf])]
theorem allD_n {n : Int} (h0 : 0 ≤ n) (h1 : n ≤ 4611686018427387904) (hf : fitB f { F with n := n } = true) : allD ((41, f) :: t) F (numB n.toNat ++ m) = allD t { F with n := n } m := by
  have e : readF 41 F (numB n.toNat ++ m) = (0, { F with n := n }, m) := by
    simp only [readF, nD]
    rw [if_neg (by decide), if_neg (by decide), if_neg (by decide), if_neg (by decide), numD_back _ _ (by omega)]
    simp only [Int.toNat_of_nonneg h0]
  simp only [allD]
  rw [e, if_neg (by simp), if_neg (by simp [hf])]
theorem allD_cls {c : Int} (h0 : 0 ≤ c) (h1 : c ≤ 255) (hf : fitB f { F with c := c } = true) : allD ((34, f) :: t) F (by8 c :: m) = allD t { F with c := c } m := by
  have e : readF 34 F (by8 c :: m) = (0, { F with c := c }, m) := by
    simp only [readF, clsD, oneD]
    rw [if_neg (by decide), if_pos trivial, ← by8_ub h0 h1]
  simp only [allD]
  rw [e, if_neg (by simp), if_neg (by simp [hf])]
theorem allD_shr {c : Int} (h0 : 0 ≤ c) (h1 : c ≤ 255) (hf : fitB f { F with h := c } = true) : allD ((36, f) :: t) F (by8 c :: m) = allD t { F with h := c } m := by
  have e : readF 36 F (by8 c :: m) = (0, { F with h := c }, m) := by
    simp only [readF, shrD, oneD]
    rw [if_neg (by decide), if_neg (by decide), if_pos trivial, ← by8_ub h0 h1]
  simp only [allD]
  rw [e, if_neg (by simp), if_neg (by simp [hf])]
theorem allD_data {bs : List (BitVec 8)} (h1 : bs.length ≤ 16384) (hf : fitB f { F with bs := bs } = true) : allD ((38, f) :: t) F (numB bs.length ++ (bs ++ m)) = allD t { F with bs := bs } m := by
  have e : readF 38 F (numB bs.length ++ (bs ++ m)) = (0, { F with bs := bs }, m) := by
    simp only [readF, dataD]
    rw [if_neg (by decide), if_neg (by decide), if_neg (by decide), if_pos trivial, numD_back _ _ (by omega)]
    simp only [not_true_eq_false, if_false]
    rw [if_neg (by omega), if_neg (by simp)]
    simp
  simp only [allD]
  rw [e, if_neg (by simp), if_neg (by simp [hf])]
end
theorem allA_kind {k : Int} (hk : Known k) (m : List (BitVec 8)) : allA PF.zero (by8 k :: m) = allD (flds k.toNat) { PF.zero with k := k } m := by
  obtain ⟨k0, k1⟩ := hk
  have e := by8_ub (x := k) (by omega) (by omega)
  have e2 : kindD PF.zero (by8 k :: m) = (0, { PF.zero with k := k }, m) := by
    simp only [kindD, oneD]
    rw [← e, if_neg (fun hh => hh.2 ⟨k0, k1⟩)]
  simp only [allA]
  rw [e2, if_neg (by simp)]
/-- There and back. -/
theorem dec_enc {k s n c h : Int} {bs : List (BitVec 8)} (hs0 : 0 ≤ s) (hn0 : 0 ≤ n) (hf : faultI k s n c h bs.length = 0) (m : List (BitVec 8)) : allA PF.zero (encB k s n c h bs ++ m) = (0, ⟨k, s, n, c, h, bs⟩, m) := by
  obtain ⟨hk, hb, hl, hbn, hba⟩ := faultI_zero hf
  unfold Big at hb
  have hs1 : s ≤ 4611686018427387904 := by omega
  have hn1 : n ≤ 4611686018427387904 := by omega
  unfold encB
  rw [List.cons_append, allA_kind hk]
  obtain ⟨k0, k1⟩ := hk
  obtain ⟨b1, b2, b3⟩ := hbn
  obtain ⟨a1, a2, a3, a4⟩ := hba
  have hbz : ∀ x : List (BitVec 8), x.length = 0 → x = [] := fun x => List.eq_nil_of_length_eq_zero
  have : k = 1 ∨ k = 2 ∨ k = 3 ∨ k = 4 ∨ k = 5 ∨ k = 6 ∨ k = 7 ∨ k = 8 ∨ k = 9 := by omega
  rcases this with e | e | e | e | e | e | e | e | e <;> subst e
  · obtain ⟨c1, c2, c3⟩ := b1 rfl
    obtain rfl : n = 0 := by simpa [HasN] using a2
    obtain rfl : bs = [] := hbz bs (by simpa using a4)
    have c2' := c2
    have c3' := c3
    unfold Cls at c2
    unfold Shr at c3
    rw [if_pos (by decide), if_pos rfl, List.append_assoc]
    show allD [(32, 33), (34, 35), (36, 37)] _ _ = _
    rw [allD_str hs0 hs1 (by simpa [fitB] using c1)]
    show allD [(34, 35), (36, 37)] _ (by8 c :: (by8 h :: m)) = _
    rw [allD_cls (by omega) (by omega) (by exact decide_eq_true c2'), allD_shr (by omega) (by omega) (by exact decide_eq_true c3')]
    rfl
  · obtain ⟨c1, c2⟩ := b2 rfl
    obtain rfl : n = 0 := by simpa [HasN] using a2
    obtain ⟨rfl, rfl⟩ : c = 0 ∧ h = 0 := by simpa using a3
    rw [if_pos (by decide), if_neg (by decide), if_pos rfl, List.append_assoc, List.append_assoc]
    show allD [(32, 33), (38, 39)] _ _ = _
    rw [allD_str hs0 hs1 (by simpa [fitB] using c1), allD_data hl (by simpa [fitB] using c2)]
    rfl
  all_goals
    obtain ⟨rfl, rfl⟩ : c = 0 ∧ h = 0 := by simpa using a3
    obtain rfl : bs = [] := hbz bs (by simpa using a4)
  · rw [if_pos (by decide), if_neg (by decide), if_neg (by decide), if_pos (by decide), List.append_assoc]
    show allD [(32, 40), (41, 40)] _ _ = _
    rw [allD_str hs0 hs1 rfl, allD_n hn0 hn1 rfl]
    rfl
  · obtain rfl : n = 0 := by simpa [HasN] using a2
    rw [if_pos (by decide), if_neg (by decide), if_neg (by decide), if_neg (by decide), List.append_nil]
    show allD [(32, 33)] _ _ = _
    rw [allD_str hs0 hs1 (by simpa [fitB] using b3 (by decide))]
    rfl
  · rw [if_pos (by decide), if_neg (by decide), if_neg (by decide), if_pos (by decide), List.append_assoc]
    show allD [(32, 33), (41, 40)] _ _ = _
    rw [allD_str hs0 hs1 (by simpa [fitB] using b3 (by decide)), allD_n hn0 hn1 rfl]
    rfl
  · rw [if_pos (by decide), if_neg (by decide), if_neg (by decide), if_pos (by decide), List.append_assoc]
    show allD [(32, 33), (41, 40)] _ _ = _
    rw [allD_str hs0 hs1 (by simpa [fitB] using b3 (by decide)), allD_n hn0 hn1 rfl]
    rfl
  · obtain rfl : s = 0 := by simpa [HasS] using a1
    rw [if_neg (by decide), if_neg (by decide), if_neg (by decide), if_pos (by decide), List.nil_append]
    show allD [(41, 40)] _ _ = _
    rw [allD_n hn0 hn1 rfl]
    rfl
  · obtain rfl : s = 0 := by simpa [HasS] using a1
    rw [if_neg (by decide), if_neg (by decide), if_neg (by decide), if_pos (by decide), List.nil_append]
    show allD [(41, 40)] _ _ = _
    rw [allD_n hn0 hn1 rfl]
    rfl
  · rw [if_pos (by decide), if_neg (by decide), if_neg (by decide), if_pos (by decide), List.append_assoc]
    show allD [(32, 40), (41, 40)] _ _ = _
    rw [allD_str hs0 hs1 rfl, allD_n hn0 hn1 rfl]
    rfl
end Go.Proofs.Ytkhogbnoincbeab
