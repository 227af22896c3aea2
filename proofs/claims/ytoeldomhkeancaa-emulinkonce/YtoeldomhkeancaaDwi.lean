import Derived.Test.YtoeldomhkeancaaLk0
namespace Go.Proofs.Ytoeldomhkeancaa
open Go.RowKit Go.Maps
set_option maxRecDepth 100000

/-- What a call of due comes to. -/
def DueCi (p o : Nat) (c : List Value) (v : Value) (L : List (It Value)) (t : Int) (w : World) (x : It Value) (ok : Bool) (w' : World) : Prop :=
  (ok = true ∧ L[0]? = some x ∧ x.at_ ≤ t ∧ PoEndi w p o c v L x w') ∨ (ok = false ∧ x = zIi ∧ (∀ y, L[0]? = some y → t < y.at_) ∧ Below w.heap.size w w')
theorem due_anyi {w : World} {p o : Nat} {c : List Value} {v : Value} {L : List (It Value)} (h : HMi w p o c v L) (hh : Hp L.length (kat L)) (t : Int) (hl : L.length ≤ 2932031007402) :
    Calls Try.prog 31 #[pt p o, .int .u64 t] w fun e w' => ∃ x ok, e = .returned (.tuple #[.agg (icells x).toArray, .bool ok]) ∧ x.what.oneCell' = true ∧ DueCi p o c v L t w x ok w' := by
  cases L with
  | nil => exact (due_noi h (now := t) (fun y hy => by simp at hy) hl).mono fun e w' ⟨h1, h2⟩ => ⟨_, _, h1, rfl, .inr ⟨rfl, rfl, fun y hy => by simp at hy, h2⟩⟩
  | cons a r =>
    by_cases hle : a.at_ ≤ t
    · exact (due_yesi h hh (a := a) rfl hle hl).mono fun e w' ⟨h1, h2⟩ => ⟨_, _, h1, h.one a (by simp), .inl ⟨rfl, rfl, hle, h2⟩⟩
    · refine (due_noi h (now := t) (fun y hy => by simp at hy; subst hy; omega) hl).mono fun e w' ⟨h1, h2⟩ => ⟨_, _, h1, rfl, .inr ⟨rfl, rfl, fun y hy => by simp at hy; subst hy; omega, h2⟩⟩
section
variable {w w1 w2 w3 : World} {p o b : Nat} {c : List Value} {v : Value} {L : List (It Value)} {t : Int} {x : It Value} {ok : Bool}
theorem DueCi.ahead (h : DueCi p o c v L t w1 x ok w2) (hb : Below w.heap.size w w1) : DueCi p o c v L t w x ok w2 := by
  rcases h with ⟨h1, h2, h3, v', L', e1, e2, e3, e4, e5⟩ | ⟨h1, h2, h3, h4⟩
  · exact .inl ⟨h1, h2, h3, v', L', e1, e2, e3, (Fr.of_below hb (Nat.le_refl _)).trans e4 (fun _ e => .inl e), e5⟩
  · exact .inr ⟨h1, h2, h3, below_two hb h4 (Nat.le_refl _)⟩
theorem DueCi.row (h : DueCi p o c v L t w1 x ok w2) {cs : List Value} {ty : TypeId} (hr : Row w1 b cs ty) (hp : p ≠ b) (hv : v.ownBlock ≠ some b) : Row w2 b cs ty := by
  rcases h with ⟨h1, h2, h3, v', L', e1, e2, e3, e4, e5⟩ | ⟨h1, h2, h3, h4⟩
  · exact e4.row hr (by rintro (e | e); exact hp e.symm; exact hv e)
  · exact hr.kept h4 hr.lt
theorem DueCi.fresh (h : DueCi p o c v L t w x ok w2) (hf : Fr (fun j => j = b) w2 w3) (hb : w.heap.size ≤ b) (hp : p ≠ b) (hv : v.ownBlock ≠ some b) : DueCi p o c v L t w x ok w3 := by
  rcases h with ⟨h1, h2, h3, h4⟩ | ⟨h1, h2, h3, h4⟩
  · exact .inl ⟨h1, h2, h3, h4.far hf hb hp (fun g e e' => hv (e' ▸ e))⟩
  · exact .inr ⟨h1, h2, h3, h4.trans (hf.below (fun x e => by omega) h4.size)⟩
theorem DueCi.below (h : DueCi p o c v L t w x ok w2) (hb : Below w2.heap.size w2 w3) : DueCi p o c v L t w x ok w3 := by
  rcases h with ⟨h1, h2, h3, v', L', e1, e2, e3, e4, e5⟩ | ⟨h1, h2, h3, h4⟩
  · exact .inl ⟨h1, h2, h3, v', L', e1.below hb, e2, e3, e4.trans (T := fun _ => False) (Fr.of_below hb (Nat.le_refl _)) (fun _ e => e.elim), e5⟩
  · exact .inr ⟨h1, h2, h3, below_two h4 hb (Nat.le_refl _)⟩
/-- What stands behind the statement 'x, ok := due(..)': the box first, or the call first. -/
def DueRi (p o : Nat) (c : List Value) (v : Value) (L : List (It Value)) (t : Int) (w : World) (v4 v5 : Value) (w3 : World) : Prop :=
  ∃ b x ok, v4 = pt b 0 ∧ v5 = .bool ok ∧ w.heap.size ≤ b ∧ Row w3 b (icells x) 87 ∧ DueCi p o c v L t w x ok w3
theorem fr_cellsi (w : World) (b o : Nat) (vs : List Value) : Fr (fun j => j = b) w (w.setCells b o vs) := by
  have := Only.setCells (S := [b]) (g := b) vs o (Only.refl [b] w) (.inl (by simp))
  exact ⟨this.os, this.tape, this.output, this.size, fun k hk hne => this.block k hk (fun e => hne (by simpa using e))⟩
theorem dueR_onei (hM : HMi w p o c v L) (hb1 : Below w.heap.size w w1) (hR : Row w1 b (icells zIi) 87) (hb : w.heap.size ≤ b) (hC : DueCi p o c v L t w1 x ok w2) :
    w2.there b 0 3 ∧ DueRi p o c v L t w (pt b 0) (.bool ok) (w2.setCells b 0 (icells x)) := by
  have hp : p ≠ b := fun e => by have := hM.row.lt; omega
  have hv : v.ownBlock ≠ some b := fun e => by have := own_lt hM.own e; omega
  have hR2 := hC.row hR hp hv
  refine ⟨hR2.there 0 3 (by simp [icells]), b, x, ok, rfl, rfl, hb, ?_, (hC.ahead hb1).fresh (fr_cellsi _ _ _ _) hb hp hv⟩
  simpa [icells] using hR2.setCells (icells x) 0 (by simp [icells])
theorem dueR_twoi (hM : HMi w p o c v L) (hb1 : Below w.heap.size w w1) (hC : DueCi p o c v L t w1 x ok w2) (hb2 : Below w2.heap.size w2 w3) (hR : Row w3 b (icells zIi) 87) (hb : w2.heap.size ≤ b) :
    w3.there b 0 3 ∧ DueRi p o c v L t w (pt b 0) (.bool ok) (w3.setCells b 0 (icells x)) := by
  have hC0 := (hC.ahead hb1).below hb2
  have hs : w.heap.size ≤ w2.heap.size := by
    rcases hC with ⟨_, _, _, _, _, _, _, _, e4, _⟩ | ⟨_, _, _, h4⟩
    · exact Nat.le_trans hb1.size e4.size
    · exact Nat.le_trans hb1.size h4.size
  have hp : p ≠ b := fun e => by have := hM.row.lt; omega
  have hv : v.ownBlock ≠ some b := fun e => by have := own_lt hM.own e; omega
  refine ⟨hR.there 0 3 (by simp [icells]), b, x, ok, rfl, rfl, Nat.le_trans hs hb, ?_, hC0.fresh (fr_cellsi _ _ _ _) (Nat.le_trans hs hb) hp hv⟩
  simpa [icells] using hR.setCells (icells x) 0 (by simp [icells])
end
end Go.Proofs.Ytoeldomhkeancaa
