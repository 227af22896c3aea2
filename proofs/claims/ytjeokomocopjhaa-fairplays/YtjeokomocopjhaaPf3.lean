import Derived.Test.YtjeokomocopjhaaPf2
import Derived.Deep.RegionHeld3
namespace Go.Proofs.Ytjeokomocopjhaa
open Go.RowKit Go.Maps
set_option maxRecDepth 100000

/-- Rows that none of the four has stay. -/
def Rk (w w' : World) : Prop := ∀ g c t, Row w g c t → t ≠ 57 → t ≠ 44 → t ≠ 26 → t ≠ 66 → t ≠ 71 → Row w' g c t
theorem Rk.of_below {w w' : World} (hb : Below w.heap.size w w') : Rk w w' := fun _ _ _ hr _ _ _ _ _ => hr.kept hb hr.lt
theorem Rk.trans {w w' w'' : World} (h : Rk w w') (k : Rk w' w'') : Rk w w'' := fun g c t hr h1 h2 h3 h4 h5 => k g c t (h g c t hr h1 h2 h3 h4 h5) h1 h2 h3 h4 h5
/-- Between the two calls of one thing, and behind them. -/
def Mid (col : Nat → Nat) (w : World) (a b p r : Nat) (Fm : Nat → Fs) (F : Fs) (W : World) : Prop := ∃ col' g, PF col' W a p (Fm g) ∧ PR col' W b r F ∧ Tn (fun t => t = a ∨ t = b) col w col' W
def Fin2 (col : Nat → Nat) (w : World) (a b p r : Nat) (W : World) : Prop := ∃ col' F, PF col' W a p F ∧ PR col' W b r F ∧ Tn (fun t => t = a ∨ t = b) col w col' W
section
variable {col : Nat → Nat} {w W W' : World} {a b p r : Nat} {Fm : Nat → Fs} {F : Fs}
theorem Mid.below (h : Mid col w a b p r Fm F W) (hb : Below W.heap.size W W') : Mid col w a b p r Fm F W' := by
  obtain ⟨c, g, h1, h2, h3⟩ := h
  exact ⟨c, g, h1.below hb, h2.below hb, h3.trans (Tn.of_below hb)⟩
theorem Fin2.below (h : Fin2 col w a b p r W) (hb : Below W.heap.size W W') : Fin2 col w a b p r W' := by
  obtain ⟨c, g, h1, h2, h3⟩ := h
  exact ⟨c, g, h1.below hb, h2.below hb, h3.trans (Tn.of_below hb)⟩
theorem Fin2.fresh (h : Fin2 col w a b p r W) (hf : Fr (fun k => W.heap.size ≤ k) W W') : Fin2 col w a b p r W' := by
  obtain ⟨c, g, h1, h2, h3⟩ := h
  exact ⟨c, g, h1.kept (T := fun _ => False) (Tn.of_new hf) (fun e => e), h2.kept (T := fun _ => False) (Tn.of_new hf) (fun e => e), h3.trans (Tn.of_new hf)⟩
/-- A call of the program's. -/
theorem mid_of (hab : a ≠ b) {cw : Nat → Nat} {w1 : World} (hT : Tn (fun t => t = a ∨ t = b) col w cw w1) (hR : PR cw w1 b r F) {g : Nat} {c' : Nat → Nat} (h1 : PF c' W a p (Fm g)) (h2 : Tn (fun t => t = a) cw w1 c' W) : Mid col w a b p r Fm F W ∧ Rk w1 W :=
  ⟨⟨c', g, h1, hR.kept h2 (fun e => hab e.symm), hT.trans (h2.wider (fun _ e => .inl e))⟩, h2.row⟩
/-- A call of the document's. -/
theorem fin_of (hab : a ≠ b) {cw : Nat → Nat} {w1 : World} (hT : Tn (fun t => t = a ∨ t = b) col w cw w1) (hF : PF cw w1 a p F) {c' : Nat → Nat} (h1 : PR c' W b r F) (h2 : Tn (fun t => t = b) cw w1 c' W) : Fin2 col w a b p r W ∧ Rk w1 W :=
  ⟨⟨c', F, hF.kept h2 hab, h1, hT.trans (h2.wider (fun _ e => .inr e))⟩, h2.row⟩
/-- Add, Remove, More: the two calls, and that they answer alike. -/
theorem two_add (hab : a ≠ b) (h : Fin2 col w a b p r W) {id : Int} (cls shr : Int) (h0 : 0 ≤ id) (h1 : id ≤ 18446744073709551615) :
    ∃ (E : Int) (Fm : Nat → Fs) (F : Fs), (∀ W', Below W.heap.size W W' → Calls Try.prog 9 #[pt p 0, .int .u64 id, .int .i64 cls, .int .i64 shr] W' fun e w' => e = .returned (.int .i64 E) ∧ Mid col w a b p r Fm F w' ∧ Rk W' w') ∧
      ∀ W', Mid col w a b p r Fm F W' → Calls Try.prog 27 #[pt r 0, .int .u64 id, .int .i64 cls, .int .i64 shr] W' fun e w' => e = .returned (.int .i64 E) ∧ Fin2 col w a b p r w' ∧ Rk W' w' := by
  obtain ⟨cw, F, hF, hR, hT⟩ := h
  refine ⟨F.addE id cls shr, F.addF id cls shr, F, fun W' hb => ?_, fun W' hM => ?_⟩
  · refine (pf_add (hF.below hb) cls shr h0 h1).mono ?_
    rintro e w' ⟨rfl, c', g, k1, k2⟩
    exact ⟨rfl, mid_of (g := g) hab (hT.trans (Tn.of_below hb)) (hR.below hb) k1 k2⟩
  · obtain ⟨c1, g, k1, k2, k3⟩ := hM
    refine (pr_add k2 cls shr h0 h1).mono ?_
    rintro e w' ⟨rfl, c', k4, k5⟩
    exact ⟨rfl, fin_of hab k3 k1 (k4 g) k5⟩
theorem two_rem (hab : a ≠ b) (h : Fin2 col w a b p r W) {id : Int} (h0 : 0 ≤ id) (h1 : id ≤ 18446744073709551615) :
    ∃ (E : Int) (Fm : Nat → Fs) (F : Fs), (∀ W', Below W.heap.size W W' → Calls Try.prog 12 #[pt p 0, .int .u64 id] W' fun e w' => e = .returned (.int .i64 E) ∧ Mid col w a b p r Fm F w' ∧ Rk W' w') ∧
      ∀ W', Mid col w a b p r Fm F W' → Calls Try.prog 28 #[pt r 0, .int .u64 id] W' fun e w' => e = .returned (.int .i64 E) ∧ Fin2 col w a b p r w' ∧ Rk W' w' := by
  obtain ⟨cw, F, hF, hR, hT⟩ := h
  refine ⟨F.remE id, fun _ => F.remF id, F, fun W' hb => ?_, fun W' hM => ?_⟩
  · refine (pf_rem (hF.below hb) h0 h1).mono ?_
    rintro e w' ⟨rfl, c', k1, k2⟩
    exact ⟨rfl, mid_of (Fm := fun _ => F.remF id) (g := 0) hab (hT.trans (Tn.of_below hb)) (hR.below hb) k1 k2⟩
  · obtain ⟨c1, g, k1, k2, k3⟩ := hM
    refine (pr_rem k2 id).mono ?_
    rintro e w' ⟨rfl, c', k4, k5⟩
    exact ⟨rfl, fin_of hab k3 k1 k4 k5⟩
theorem two_more (hab : a ≠ b) (h : Fin2 col w a b p r W) {id : Int} (n : Int) (h0 : 0 ≤ id) (h1 : id ≤ 18446744073709551615) :
    ∃ (E : Int) (Fm : Nat → Fs) (F : Fs), (∀ W', Below W.heap.size W W' → Calls Try.prog 10 #[pt p 0, .int .u64 id, .int .i64 n] W' fun e w' => e = .returned (.int .i64 E) ∧ Mid col w a b p r Fm F w' ∧ Rk W' w') ∧
      ∀ W', Mid col w a b p r Fm F W' → Calls Try.prog 29 #[pt r 0, .int .u64 id, .int .i64 n] W' fun e w' => e = .returned (.int .i64 E) ∧ Fin2 col w a b p r w' ∧ Rk W' w' := by
  obtain ⟨cw, F, hF, hR, hT⟩ := h
  refine ⟨F.mrE id n, fun _ => F.mrF id n, F, fun W' hb => ?_, fun W' hM => ?_⟩
  · refine (pf_more (hF.below hb) n h0 h1).mono ?_
    rintro e w' ⟨rfl, c', k1, k2⟩
    exact ⟨rfl, mid_of (Fm := fun _ => F.mrF id n) (g := 0) hab (hT.trans (Tn.of_below hb)) (hR.below hb) k1 k2⟩
  · obtain ⟨c1, g, k1, k2, k3⟩ := hM
    refine (pr_more k2 id n).mono ?_
    rintro e w' ⟨rfl, c', k4, k5⟩
    exact ⟨rfl, fin_of hab k3 k1 k4 k5⟩
theorem two_next (hab : a ≠ b) (h : Fin2 col w a b p r W) (most : Int) :
    ∃ (X N : Int) (O : Bool) (Fm : Nat → Fs) (F : Fs), (Calls Try.prog 11 #[pt p 0, .int .i64 most] W fun e w' => e = .returned (.tuple #[.agg #[.int .u64 X, .int .i64 N], .bool O]) ∧ Mid col w a b p r Fm F w' ∧ Rk W w') ∧
      ∀ W', Mid col w a b p r Fm F W' → Calls Try.prog 30 #[pt r 0, .int .i64 most] W' fun e w' => e = .returned (.tuple #[.agg #[.int .u64 X, .int .i64 N], .bool O]) ∧ Fin2 col w a b p r w' ∧ Rk W' w' := by
  obtain ⟨cw, F, hF, hR, hT⟩ := h
  have hno : ((∀ c, c < 8 → F.R c = []) ∨ most < 1) → ∃ (X N : Int) (O : Bool) (Fm : Nat → Fs) (F : Fs), (Calls Try.prog 11 #[pt p 0, .int .i64 most] W fun e w' => e = .returned (.tuple #[.agg #[.int .u64 X, .int .i64 N], .bool O]) ∧ Mid col w a b p r Fm F w' ∧ Rk W w') ∧
      ∀ W', Mid col w a b p r Fm F W' → Calls Try.prog 30 #[pt r 0, .int .i64 most] W' fun e w' => e = .returned (.tuple #[.agg #[.int .u64 X, .int .i64 N], .bool O]) ∧ Fin2 col w a b p r w' ∧ Rk W' w' := fun hE => by
    refine ⟨0, 0, false, fun _ => F, F, ?_, fun W' hM => ?_⟩
    · refine (fa_next_none hF.fa hE).mono ?_
      rintro e w' ⟨rfl, hb⟩
      exact ⟨rfl, ⟨cw, 0, hF.below hb, hR.below hb, hT.trans (Tn.of_below hb)⟩, Rk.of_below hb⟩
    · obtain ⟨c1, g, k1, k2, k3⟩ := hM
      refine (pr_next_none k2 hE).mono ?_
      rintro e w' ⟨rfl, hb⟩
      exact ⟨rfl, ⟨c1, F, k1.below hb, k2.below hb, k3.trans (Tn.of_below hb)⟩, Rk.of_below hb⟩
  by_cases hm : most < 1
  · exact hno (.inr hm)
  · rcases F.turn_or hF.ok with hE | ⟨x, B, t⟩
    · exact hno (.inl hE)
    · refine ⟨x.num, x.tk F.q most, true, fun _ => F.next x most B, F, ?_, fun W' hM => ?_⟩
      · refine (pf_next hF (by omega) t).mono ?_
        rintro e w' ⟨rfl, c', k1, k2⟩
        exact ⟨rfl, mid_of (Fm := fun _ => F.next x most B) (g := 0) hab hT hR k1 k2⟩
      · obtain ⟨c1, g, k1, k2, k3⟩ := hM
        refine (pr_next k2 (by omega) t).mono ?_
        rintro e w' ⟨rfl, c', k4, k5⟩
        exact ⟨rfl, fin_of hab k3 k1 k4 k5⟩
end
end Go.Proofs.Ytjeokomocopjhaa
