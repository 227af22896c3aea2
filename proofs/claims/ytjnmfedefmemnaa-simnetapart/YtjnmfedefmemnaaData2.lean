import Derived.Test.YtjnmfedefmemnaaData
namespace Go.Proofs.Ytjnmfedefmemnaa
open Go.RowKit Go.Maps
set_option maxRecDepth 100000

/-- The error of a call that looks for a frame, 0 if there is none. -/
def Dat.err (D : Dat) (n : Nat) (x y z : Int) (b : Bool) : Int :=
  if ¬ (0 ≤ x ∧ x < n) then 42
  else if ¬ (0 ≤ y ∧ y < 2) then 43
  else if b = true ∧ D.up x.toNat = false then 44
  else if ¬ (0 ≤ z ∧ z < ((D.fd x.toNat y.toNat).length : Int)) then 45
  else 0
theorem Dat.err_zero {D : Dat} {n : Nat} {x y z : Int} {b : Bool} (h : D.err n x y z b = 0) : ∃ k d j : Nat, x = k ∧ y = d ∧ z = j ∧ k < n ∧ d < 2 ∧ j < (D.fd k d).length ∧ (b = true → D.up k = true) := by
  unfold Dat.err at h
  split at h
  · cases h
  · rename_i h1
    have h1 := Classical.not_not.1 h1
    split at h
    · cases h
    · rename_i h2
      have h2 := Classical.not_not.1 h2
      split at h
      · cases h
      · rename_i h3
        split at h
        · cases h
        · rename_i h4
          have h4 := Classical.not_not.1 h4
          obtain ⟨k, rfl⟩ := Int.eq_ofNat_of_zero_le h1.1
          obtain ⟨d, rfl⟩ := Int.eq_ofNat_of_zero_le h2.1
          obtain ⟨j, rfl⟩ := Int.eq_ofNat_of_zero_le h4.1
          simp only [Int.toNat_natCast] at h3 h4
          refine ⟨k, d, j, rfl, rfl, rfl, by omega, by omega, by omega, fun hb => ?_⟩
          cases hu : D.up k
          · exact absurd ⟨hb, hu⟩ h3
          · rfl
section
variable {B : Nat} {w w' : World} {p g n K : Nat} {vs : Nat → Nat → Value} {fr : Nat → Nat → List Fr} {D : Dat}
theorem NetP.findEr (h : NetP B w p g n vs fr K D) {x y z : Int} {b : Bool} (he : D.err n x y z b ≠ 0) : FindEr w p x y z b (D.err n x y z b) := by
  intro w' f hb
  obtain ⟨c, hG0, hD⟩ := h
  have hG := hG0.kept hb
  unfold Dat.err at he ⊢
  by_cases h1 : 0 ≤ x ∧ x < n
  · rw [if_neg (fun e => e h1)] at he ⊢
    obtain ⟨k, rfl⟩ := Int.eq_ofNat_of_zero_le h1.1
    have hk : k < n := by omega
    by_cases h2 : 0 ≤ y ∧ y < 2
    · rw [if_neg (fun e => e h2)] at he ⊢
      obtain ⟨d, rfl⟩ := Int.eq_ofNat_of_zero_le h2.1
      have hd : d < 2 := by omega
      simp only [Int.toNat_natCast] at he ⊢
      have hlen : ((D.fd k d).length : Int) = (((fr k d).map Fr.q).length : Int) := by rw [← hD.fd k d hk hd, List.length_map, List.length_map]
      by_cases h3 : b = true ∧ D.up k = false
      · rw [if_pos h3]
        rw [h3.1]
        exact find_down z f hG.net hG.row hk hd (by rw [hD.up k hk, h3.2])
      · rw [if_neg h3] at he ⊢
        by_cases h4 : 0 ≤ z ∧ z < ((D.fd k d).length : Int)
        · rw [if_neg (fun e => e h4)] at he
          exact absurd rfl he
        · rw [if_pos h4]
          refine find_place f hG.net hG.row hk hd (hD.up k hk) ?_ (hG.hbag k d hk hd) (hG.bag k d hk hd) (by omega)
          cases b
          · exact .inl rfl
          · right
            cases hu : D.up k
            · exact absurd ⟨rfl, hu⟩ h3
            · rfl
    · rw [if_pos h2]
      exact find_er (by decide) (bag_dir (hG.net.cell 0 _ rfl) hk (by omega)) z _ f
  · rw [if_pos h1]
    exact find_er (by decide) (bag_path (hG.net.cell 0 _ rfl) (by omega) y) z _ f
end
/-- Take, of the data. -/
def Dat.take (D : Dat) (n : Nat) (x y z : Int) : Dat :=
  if D.err n x y z true = 0 then { D with cn := upd D.cn x.toNat (8 + y.toNat) (bump (D.cn x.toNat (8 + y.toNat))), fd := upd D.fd x.toNat y.toNat ((D.fd x.toNat y.toNat).eraseIdx z.toNat) } else D
def Dat.drop (D : Dat) (n : Nat) (x y z : Int) : Dat :=
  if D.err n x y z false = 0 then { D with cn := upd D.cn x.toNat (10 + y.toNat) (bump (D.cn x.toNat (10 + y.toNat))), fd := upd D.fd x.toNat y.toNat ((D.fd x.toNat y.toNat).eraseIdx z.toNat) } else D
def Dat.at (D : Dat) (x y z : Int) : List (BitVec 8) × (Nat → BitVec 8) := (D.fd x.toNat y.toNat).getD z.toNat ([], fun _ => 0)
def Dat.double (D : Dat) (n : Nat) (x y z : Int) : Dat :=
  if D.err n x y z true = 0 ∧ ((D.fd x.toNat y.toNat).length : Int) < D.cap x.toNat then { D with cn := upd D.cn x.toNat (12 + y.toNat) (bump (D.cn x.toNat (12 + y.toNat))), fd := upd D.fd x.toNat y.toNat (D.fd x.toNat y.toNat ++ [D.at x y z]) } else D
def Dat.spoil (D : Dat) (n : Nat) (x y z a : Int) (m : BitVec 8) : Dat :=
  if D.err n x y z false = 0 ∧ 0 ≤ a ∧ a < ((D.at x y z).1.length : Int) then { D with fd := upd D.fd x.toNat y.toNat ((D.fd x.toNat y.toNat).set z.toNat ((D.at x y z).1, turnT (D.at x y z).2 a.toNat m)) } else D
def Dat.set (D : Dat) (n : Nat) (x : Int) (b : Bool) : Dat := if 0 ≤ x ∧ x < n then { D with up := fun k => if k = x.toNat then b else D.up k } else D
section
variable {B : Nat} {w w' : World} {p g n K : Nat} {vs : Nat → Nat → Value} {fr : Nat → Nat → List Fr} {D : Dat}
theorem dat_at {c : List Value} (hD : DatOf n c fr D) {k d j : Nat} (hk : k < n) (hd : d < 2) (hj : j < (D.fd k d).length) : ∃ x, (fr k d)[j]? = some x ∧ D.at k d j = (x.bs, x.T) := by
  have e := hD.fd k d hk hd
  have hj' : j < (fr k d).length := by rw [← e, List.length_map] at hj; exact hj
  refine ⟨(fr k d)[j], List.getElem?_eq_getElem hj', ?_⟩
  unfold Dat.at
  simp only [Int.toNat_natCast]
  rw [← e, List.getD_eq_getElem?_getD, List.getElem?_map, List.getElem?_eq_getElem hj']
  rfl
/-- Take at any numbers: its answer, and what is left. -/
theorem NetP.take (h : NetP B w p g n vs fr K D) (x y z : Int) :
    Calls Try.prog 13 #[.pointer (some ⟨p, 0, none⟩), .int .i64 x, .int .i64 y, .int .i64 z] w fun e w' => ∃ a m b er, e = .returned (.tuple #[.agg #[.slice a m m, .bool b], .int .i64 er]) ∧ er = D.err n x y z true ∧ (er ≠ 0 → a = none ∧ m = 0 ∧ b = false) ∧ (er = 0 → m = (D.at x y z).1.length ∧ b = sp (D.at x y z).2 m ∧ ∃ g', a = some ⟨g', 0, none⟩ ∧ w.heap.size ≤ g' ∧ Row w' g' (bcells (xorT (D.at x y z).1 (D.at x y z).2)) 5) ∧
      ∃ vs' fr', NetP B w' p g n vs' fr' K (D.take n x y z) ∧ Stays w w' g n vs vs' fr fr' := by
  unfold Dat.take
  by_cases he : D.err n x y z true = 0
  · rw [if_pos he]
    obtain ⟨c, hG, hD⟩ := h
    obtain ⟨k, d, j, rfl, rfl, rfl, hk, hd, hj, hup⟩ := Dat.err_zero he
    obtain ⟨u, hu, hat⟩ := dat_at hD hk hd hj
    have c8 : c[k * 16 + 8 + d]? = some (.int .u64 (D.cn k (8 + d))) := by rw [Nat.add_assoc]; exact hD.cn k (8 + d) hk (by omega) (by omega)
    refine (hG.take hk hd (by rw [hD.up k hk, hup rfl]) c8 hu).mono ?_
    rintro e w' ⟨g', rfl, hg, hrb, v', hG', hS⟩
    refine ⟨_, _, _, _, rfl, he.symm, fun h0 => absurd rfl h0, fun _ => ⟨by rw [hat], by rw [hat], g', rfl, hg, by rw [hat]; exact hrb⟩, _, _, ⟨_, hG', ?_⟩, hS⟩
    simp only [Int.toNat_natCast]
    have h1 := ((hD.bagv (k := k) hd v').count (by simpa using hG.len) hk (i := 8 + d) (by omega) (by omega) (bump (D.cn k (8 + d)))).frames (k := k) (d := d) ((fr k d).eraseIdx j)
    rw [← Nat.add_assoc] at h1
    rw [← erase_map, hD.fd k d hk hd] at h1
    exact h1
  · rw [if_neg he]
    refine (take_er (h.findEr he)).mono ?_
    rintro e w' ⟨rfl, hb⟩
    exact ⟨none, 0, false, _, rfl, rfl, fun _ => ⟨rfl, rfl, rfl⟩, fun h0 => absurd h0 he, _, _, h.kept hb, Stays.below hb⟩
theorem NetP.drop (h : NetP B w p g n vs fr K D) (x y z : Int) :
    Calls Try.prog 20 #[.pointer (some ⟨p, 0, none⟩), .int .i64 x, .int .i64 y, .int .i64 z] w fun e w' => (∃ er, e = .returned (.int .i64 er)) ∧ ∃ vs' fr', NetP B w' p g n vs' fr' K (D.drop n x y z) ∧ Stays w w' g n vs vs' fr fr' := by
  unfold Dat.drop
  by_cases he : D.err n x y z false = 0
  · rw [if_pos he]
    obtain ⟨c, hG, hD⟩ := h
    obtain ⟨k, d, j, rfl, rfl, rfl, hk, hd, hj, _⟩ := Dat.err_zero he
    have c8 : c[k * 16 + 10 + d]? = some (.int .u64 (D.cn k (10 + d))) := by rw [Nat.add_assoc]; exact hD.cn k (10 + d) hk (by omega) (by omega)
    refine (hG.drop hk hd c8 (by rw [← hD.fd k d hk hd, List.length_map] at hj; exact hj)).mono ?_
    rintro e w' ⟨rfl, v', hG', hS⟩
    refine ⟨⟨_, rfl⟩, _, _, ⟨_, hG', ?_⟩, hS⟩
    simp only [Int.toNat_natCast]
    have h1 := ((hD.bagv (k := k) hd v').count (by simpa using hG.len) hk (i := 10 + d) (by omega) (by omega) (bump (D.cn k (10 + d)))).frames (k := k) (d := d) ((fr k d).eraseIdx j)
    rw [← Nat.add_assoc] at h1
    rw [← erase_map, hD.fd k d hk hd] at h1
    exact h1
  · rw [if_neg he]
    refine (drop_er (h.findEr he)).mono ?_
    rintro e w' ⟨rfl, hb⟩
    exact ⟨⟨_, rfl⟩, _, _, h.kept hb, Stays.below hb⟩
end
end Go.Proofs.Ytjnmfedefmemnaa
