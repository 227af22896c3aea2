import Derived.Test.YtjnmfedefmemnaaWhole5
namespace Go.Proofs.Ytjnmfedefmemnaa
open Go.RowKit Go.Maps
set_option maxRecDepth 100000

/-- What a net is, without its memory: by path; the counts by path and place (4 + d put, 6 + d lost, 8 + d taken, 10 + d gone, 12 + d twice); the frames by path and direction, as they were put and what is turned of them. -/
structure Dat where
  up : Nat → Bool
  cap : Nat → Int
  cn : Nat → Nat → Int
  fd : Nat → Nat → List (List (BitVec 8) × (Nat → BitVec 8))
def Fr.dat (x : Fr) : List (BitVec 8) × (Nat → BitVec 8) := (x.bs, x.T)
structure DatOf (n : Nat) (c : List Value) (fr : Nat → Nat → List Fr) (D : Dat) : Prop where
  up : ∀ k, k < n → c[k * 16]? = some (.bool (D.up k))
  cap : ∀ k, k < n → c[k * 16 + 1]? = some (.int .i64 (D.cap k))
  cn : ∀ k i, k < n → 4 ≤ i → i < 14 → c[k * 16 + i]? = some (.int .u64 (D.cn k i))
  fd : ∀ k d, k < n → d < 2 → (fr k d).map Fr.dat = D.fd k d
def NetP (B : Nat) (w : World) (p g n : Nat) (vs : Nat → Nat → Value) (fr : Nat → Nat → List Fr) (K : Nat) (D : Dat) : Prop := ∃ c, NetG B w p g n c vs fr K ∧ DatOf n c fr D
def bump (x : Int) : Int := IntKind.u64.wrap (x + 1)
section
variable {n k d i : Nat} {c : List Value} {fr : Nat → Nat → List Fr} {D : Dat}
theorem DatOf.count (h : DatOf n c fr D) (hl : c.length = 16 * n) (hk : k < n) (h4 : 4 ≤ i) (h14 : i < 14) (P : Int) : DatOf n (c.set (k * 16 + i) (.int .u64 P)) fr { D with cn := upd D.cn k i P } :=
  { up := fun k' hk' => by rw [List.getElem?_set_ne (by omega)]; exact h.up k' hk'
    cap := fun k' hk' => by rw [List.getElem?_set_ne (by omega)]; exact h.cap k' hk'
    cn := fun k' i' hk' h1 h2 => by
      by_cases e : k' = k ∧ i' = i
      · obtain ⟨rfl, rfl⟩ := e
        rw [List.getElem?_set_self (by omega)]
        simp only [upd_same]
      · rw [List.getElem?_set_ne (by omega)]
        simp only [upd_other _ _ _ _ e]
        exact h.cn k' i' hk' h1 h2
    fd := h.fd }
theorem DatOf.bagv (h : DatOf n c fr D) (hd : d < 2) (v : Value) : DatOf n (c.set (k * 16 + 14 + d) v) fr D :=
  { up := fun k' hk' => by rw [List.getElem?_set_ne (by omega)]; exact h.up k' hk'
    cap := fun k' hk' => by rw [List.getElem?_set_ne (by omega)]; exact h.cap k' hk'
    cn := fun k' i' hk' h1 h2 => by rw [List.getElem?_set_ne (by omega)]; exact h.cn k' i' hk' h1 h2
    fd := h.fd }
theorem DatOf.frames (h : DatOf n c fr D) (l : List Fr) : DatOf n c (upd fr k d l) { D with fd := upd D.fd k d (l.map Fr.dat) } :=
  { up := h.up, cap := h.cap, cn := h.cn
    fd := fun k' d' hk' hd' => by
      by_cases e : k' = k ∧ d' = d
      · obtain ⟨rfl, rfl⟩ := e
        simp only [upd_same]
      · simp only [upd_other _ _ _ _ e]
        exact h.fd k' d' hk' hd' }
end
/-- Put, of the data. -/
def Dat.put (D : Dat) (n : Nat) (x y : Int) (f : List (BitVec 8)) : Dat :=
  if ¬ (0 ≤ x ∧ x < n) then D
  else if ¬ (0 ≤ y ∧ y < 2) then D
  else if D.up x.toNat = true ∧ ((D.fd x.toNat y.toNat).length : Int) < D.cap x.toNat then
    { D with cn := upd D.cn x.toNat (4 + y.toNat) (bump (D.cn x.toNat (4 + y.toNat))), fd := upd D.fd x.toNat y.toNat (D.fd x.toNat y.toNat ++ [(f, fun _ => 0)]) }
  else { D with cn := upd (upd D.cn x.toNat (4 + y.toNat) (bump (D.cn x.toNat (4 + y.toNat)))) x.toNat (6 + y.toNat) (bump (D.cn x.toNat (6 + y.toNat))) }
section
variable {B : Nat} {w w' : World} {p g n K : Nat} {vs : Nat → Nat → Value} {fr : Nat → Nat → List Fr} {D : Dat}
theorem NetP.kept (h : NetP B w p g n vs fr K D) (hb : Below w.heap.size w w') : NetP B w' p g n vs fr K D := by
  obtain ⟨c, h1, h2⟩ := h
  exact ⟨c, h1.kept hb, h2⟩
theorem Stays.below (hb : Below w.heap.size w w') : Stays w w' g n vs vs fr fr := ⟨⟨[], Only.of_below hb (Nat.le_refl _), fun _ hx => by cases hx⟩, fun _ hx => .inl hx⟩
/-- Put at any numbers. -/
theorem NetP.put (h : NetP B w p g n vs fr K D) (x y : Int) {a : Option Addr} {cap : Nat} {bs : List (BitVec 8)} (hF : BytesAt w a bs) (hm : bs.length ≤ 140737488351232) :
    Calls Try.prog 10 #[.pointer (some ⟨p, 0, none⟩), .int .i64 x, .int .i64 y, .slice a bs.length cap] w fun e w' => (∃ b er, e = .returned (.tuple #[.bool b, .int .i64 er])) ∧ ∃ vs' fr', NetP B w' p g n vs' fr' K (D.put n x y bs) ∧ Stays w w' g n vs vs' fr fr' := by
  obtain ⟨c, hG, hD⟩ := h
  unfold Dat.put
  by_cases hx : 0 ≤ x ∧ x < n
  · rw [if_neg (fun e => e hx)]
    obtain ⟨k, rfl⟩ := Int.eq_ofNat_of_zero_le hx.1
    have hk : k < n := by omega
    by_cases hy : 0 ≤ y ∧ y < 2
    · rw [if_neg (fun e => e hy)]
      obtain ⟨d, rfl⟩ := Int.eq_ofNat_of_zero_le hy.1
      have hd : d < 2 := by omega
      simp only [Int.toNat_natCast]
      have hlen : ((D.fd k d).length : Int) = ((fr k d).length : Int) := by rw [← hD.fd k d hk hd, List.length_map]
      have c4 : c[k * 16 + 4 + d]? = some (.int .u64 (D.cn k (4 + d))) := by rw [Nat.add_assoc]; exact hD.cn k (4 + d) hk (by omega) (by omega)
      have c6 : c[k * 16 + 6 + d]? = some (.int .u64 (D.cn k (6 + d))) := by rw [Nat.add_assoc]; exact hD.cn k (6 + d) hk (by omega) (by omega)
      by_cases hin : D.up k = true ∧ ((D.fd k d).length : Int) < D.cap k
      · rw [if_pos hin]
        refine (hG.put hk hd (by rw [hD.up k hk, hin.1]) (hD.cap k hk) c4 (by rw [← hlen]; exact hin.2) hF rfl hm).mono ?_
        rintro e w' ⟨rfl, v', q, hG', hS⟩
        refine ⟨⟨_, _, rfl⟩, _, _, ⟨_, hG', ?_⟩, hS⟩
        have h1 := ((hD.count hG.len hk (i := 4 + d) (by omega) (by omega) (bump (D.cn k (4 + d)))).bagv (k := k) hd v').frames (k := k) (d := d) (fr k d ++ [⟨q, bs, fun _ => 0, .map none⟩])
        rw [← Nat.add_assoc] at h1
        rw [List.map_append, hD.fd k d hk hd] at h1
        exact h1
      · rw [if_neg hin]
        refine (hG.lost hk hd (hD.up k hk) (hD.cap k hk) c4 c6 (by
          rw [← hlen]
          cases hu : D.up k
          · exact .inl rfl
          · exact .inr (Int.not_lt.1 (fun e => hin ⟨hu, e⟩))) _).mono ?_
        rintro e w' ⟨rfl, hG', hS⟩
        refine ⟨⟨_, _, rfl⟩, _, _, ⟨_, hG', ?_⟩, hS⟩
        have h1 := (hD.count hG.len hk (i := 4 + d) (by omega) (by omega) (bump (D.cn k (4 + d)))).count (by simpa using hG.len) hk (i := 6 + d) (by omega) (by omega) (bump (D.cn k (6 + d)))
        rw [← Nat.add_assoc, ← Nat.add_assoc] at h1
        exact h1
    · rw [if_pos hy]
      refine Calls.mono (put_er (er := 43) (by decide) (bag_dir (hG.net.cell 0 _ rfl) hk (by omega)) _) ?_
      rintro e w' ⟨rfl, rfl⟩
      exact ⟨⟨_, _, rfl⟩, _, _, ⟨c, hG, hD⟩, Stays.below (Below.refl _ _)⟩
  · rw [if_pos hx]
    refine Calls.mono (put_er (er := 42) (by decide) (bag_path (hG.net.cell 0 _ rfl) (by omega) y) _) ?_
    rintro e w' ⟨rfl, rfl⟩
    exact ⟨⟨_, _, rfl⟩, _, _, ⟨c, hG, hD⟩, Stays.below (Below.refl _ _)⟩
end
end Go.Proofs.Ytjnmfedefmemnaa
