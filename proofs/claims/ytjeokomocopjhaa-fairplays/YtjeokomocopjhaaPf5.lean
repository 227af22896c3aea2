import Derived.Test.YtjeokomocopjhaaPf4
namespace Go.Proofs.Ytjeokomocopjhaa
open Go.RowKit Go.Maps
set_option maxRecDepth 100000

theorem PF.repaint {col col' : Nat → Nat} {w w' : World} {a p : Nat} {F : Fs} (h : PF col w a p F) (hb : Below w.heap.size w w') (hc : ∀ k, k < w.heap.size → col' k = col k) : PF col' w' a p F :=
  h.kept (T := fun _ => False) ⟨Fr.of_below hb (Nat.le_refl _), hc, fun _ _ _ hr _ _ _ _ _ => hr.kept hb hr.lt⟩ (fun e => e)
theorem PR.repaint {col col' : Nat → Nat} {w w' : World} {a r : Nat} {F : Fs} (h : PR col w a r F) (hb : Below w.heap.size w w') (hc : ∀ k, k < w.heap.size → col' k = col k) : PR col' w' a r F :=
  h.kept (T := fun _ => False) ⟨Fr.of_below hb (Nat.le_refl _), hc, fun _ _ _ hr _ _ _ _ _ => hr.kept hb hr.lt⟩ (fun e => e)
/-- All that the law holds: two of the program's, two of the document's, the two arrays. -/
structure PlS (w : World) (p0 p1 r0 r1 bf br : Nat) (W : World) : Prop where
  four : ∃ col F0 F1, PF col W 0 p0 F0 ∧ PR col W 2 r0 F0 ∧ PF col W 1 p1 F1 ∧ PR col W 3 r1 F1 ∧ ∀ k, k < w.heap.size → col k = 9
  af : Row W bf [pt p0 0, pt p1 0] 46
  ar : Row W br [pt r0 0, pt r1 0] 49
  be : Below w.heap.size w W
section
variable {w W W' : World} {p0 p1 r0 r1 bf br : Nat}
theorem PlS.below (h : PlS w p0 p1 r0 r1 bf br W) (hb : Below W.heap.size W W') : PlS w p0 p1 r0 r1 bf br W' := by
  obtain ⟨⟨col, F0, F1, h1, h2, h3, h4, h5⟩, ha, hr, hbe⟩ := h
  exact ⟨⟨col, F0, F1, h1.below hb, h2.below hb, h3.below hb, h4.below hb, h5⟩, ha.kept hb ha.lt, hr.kept hb hr.lt, hbe.trans (hb.mono hbe.size)⟩
theorem PlS.do0 (h : PlS w p0 p1 r0 r1 bf br W) : ∃ col, Fin2 col W 0 2 p0 r0 W ∧ ∀ W', Fin2 col W 0 2 p0 r0 W' → Rk W W' → PlS w p0 p1 r0 r1 bf br W' := by
  obtain ⟨⟨col, F0, F1, h1, h2, h3, h4, h5⟩, ha, hr, hbe⟩ := h
  refine ⟨col, ⟨col, F0, h1, h2, Tn.refl _ _ _⟩, fun W' hF hk => ?_⟩
  obtain ⟨c', F', k1, k2, k3⟩ := hF
  have hB := k3.below hbe.size (fun k hk => by rw [h5 k hk]; decide)
  exact ⟨⟨c', F', F1, k1, k2, h3.kept k3 (by decide), h4.kept k3 (by decide), fun k hk => (k3.col k (Nat.lt_of_lt_of_le hk hbe.size)).trans (h5 k hk)⟩, hk _ _ _ ha (by decide) (by decide) (by decide) (by decide) (by decide), hk _ _ _ hr (by decide) (by decide) (by decide) (by decide) (by decide), hbe.trans hB⟩
theorem PlS.do1 (h : PlS w p0 p1 r0 r1 bf br W) : ∃ col, Fin2 col W 1 3 p1 r1 W ∧ ∀ W', Fin2 col W 1 3 p1 r1 W' → Rk W W' → PlS w p0 p1 r0 r1 bf br W' := by
  obtain ⟨⟨col, F0, F1, h1, h2, h3, h4, h5⟩, ha, hr, hbe⟩ := h
  refine ⟨col, ⟨col, F1, h3, h4, Tn.refl _ _ _⟩, fun W' hF hk => ?_⟩
  obtain ⟨c', F', k1, k2, k3⟩ := hF
  have hB := k3.below hbe.size (fun k hk => by rw [h5 k hk]; decide)
  exact ⟨⟨c', F0, F', h1.kept k3 (by decide), h2.kept k3 (by decide), k1, k2, fun k hk => (k3.col k (Nat.lt_of_lt_of_le hk hbe.size)).trans (h5 k hk)⟩, hk _ _ _ ha (by decide) (by decide) (by decide) (by decide) (by decide), hk _ _ _ hr (by decide) (by decide) (by decide) (by decide) (by decide), hbe.trans hB⟩
/-- One call of the script. -/
theorem PlS.call0 (h : PlS w p0 p1 r0 r1 bf br W) (K : Int) (ot : Bool) {id : Int} (cls shr n : Int) (h0 : 0 ≤ id) (h1 : id ≤ 18446744073709551615) :
    Calls Try.prog 16 #[pt p0 0, pt r0 0, .agg #[.int .i64 K, .bool ot, .int .u64 id, .int .i64 cls, .int .i64 shr, .int .i64 n]] W fun e w' => e = .returned (.bool true) ∧ PlS w p0 p1 r0 r1 bf br w' ∧ Rk W w' := by
  obtain ⟨col, hF, hM⟩ := h.do0
  refine (do_any (by decide) hF K ot cls shr n h0 h1).mono ?_
  rintro e w' ⟨rfl, k1, k2⟩
  exact ⟨rfl, hM _ k1 k2, k2⟩
theorem PlS.call1 (h : PlS w p0 p1 r0 r1 bf br W) (K : Int) (ot : Bool) {id : Int} (cls shr n : Int) (h0 : 0 ≤ id) (h1 : id ≤ 18446744073709551615) :
    Calls Try.prog 16 #[pt p1 0, pt r1 0, .agg #[.int .i64 K, .bool ot, .int .u64 id, .int .i64 cls, .int .i64 shr, .int .i64 n]] W fun e w' => e = .returned (.bool true) ∧ PlS w p0 p1 r0 r1 bf br w' ∧ Rk W w' := by
  obtain ⟨col, hF, hM⟩ := h.do1
  refine (do_any (by decide) hF K ot cls shr n h0 h1).mono ?_
  rintro e w' ⟨rfl, k1, k2⟩
  exact ⟨rfl, hM _ k1 k2, k2⟩
/-- The looks of one of the two, side by side. -/
def Looks (p r : Nat) (W : World) : Prop := ∃ F : Fs, F.Ok ∧ (∃ col a, PF col W a p F) ∧ ∃ col a, PR col W a r F
theorem Looks.below {p r : Nat} (h : Looks p r W) (hb : Below W.heap.size W W') : Looks p r W' := by
  obtain ⟨F, k, ⟨c, a, h1⟩, c2, a2, h2⟩ := h
  exact ⟨F, k, ⟨c, a, h1.below hb⟩, c2, a2, h2.below hb⟩
theorem PlS.look (h : PlS w p0 p1 r0 r1 bf br W) (k : Nat) (hk : k < 2) : ∃ p r, [pt p0 0, pt p1 0][k]? = some (pt p 0) ∧ [pt r0 0, pt r1 0][k]? = some (pt r 0) ∧ ∃ F : Fs, F.Ok ∧ (∃ col, PF col W k p F) ∧ ∃ col a, PR col W a r F := by
  obtain ⟨⟨col, F0, F1, h1, h2, h3, h4, h5⟩, ha, hr, hbe⟩ := h
  have : k = 0 ∨ k = 1 := by omega
  rcases this with rfl | rfl
  · exact ⟨p0, r0, rfl, rfl, F0, h1.ok, ⟨col, h1⟩, col, 2, h2⟩
  · exact ⟨p1, r1, rfl, rfl, F1, h3.ok, ⟨col, h3⟩, col, 3, h4⟩
end
/-- New, with its colour. -/
theorem pf_new (w : World) (quantum : Int) (col : Nat → Nat) (a : Nat) : Calls Try.prog 7 #[.int .i64 quantum] w fun e w' => ∃ p, e = .returned (pt p 0) ∧ PF (paint col w.heap.size a) w' a p (Fs.zero (qN quantum)) ∧ Below w.heap.size w w' :=
  (new_any w quantum).mono (fun _ _ ⟨p, b, V, he, hA, hb, hf⟩ => ⟨p, he, ⟨zero_ok quantum, b, V, hA, fun k hk => if_neg (by have := hf k hk; omega)⟩, hb⟩)
theorem pr_new (w : World) (quantum : Int) (col : Nat → Nat) (a : Nat) : Calls Try.prog 15 #[.int .i64 quantum] w fun e w' => ∃ r, e = .returned (pt r 0) ∧ PR (paint col w.heap.size a) w' a r (Fs.zero (qN quantum)) ∧ Below w.heap.size w w' :=
  (rnew_any w quantum).mono (fun _ _ ⟨r, he, hA, hb, hr, _⟩ => ⟨r, he, ⟨zero_ok quantum, _, _, hA, fun k hk => by
    rcases hk with rfl | e | ⟨j, _, e⟩
    · exact if_neg (by omega)
    · cases e
    · cases e⟩, hb⟩)
end Go.Proofs.Ytjeokomocopjhaa
