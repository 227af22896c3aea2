import Derived.Test.YtjpllcliehgnfaaDoorJ25
namespace Go.Proofs.YtjpllcliehgnfaaDoor
open Go.RowKit Go.Sort
set_option maxRecDepth 100000

def askF (path : Int) (a b : Nat) (bk : Bool) : Fo := ⟨7, path, tok b, nonceOf a path, [], bk⟩
def ansF (path : Int) (a b : Nat) : Fo := ⟨8, path, 0#32, nonceOf b path, (proofL b a (nonceOf b path) (nonceOf a path)).take 8, false⟩
def prfF (path : Int) (a b : Nat) : Fo := ⟨9, path, 0#32, 0#32, (proofL a b (nonceOf a path) (nonceOf b path)).take 20, false⟩
/-- What a Tick makes of a Half. -/
def TkA (w : World) (p : Nat) (F : Hf) (Rn : Nat) (e : Ending) (w' : World) : Prop := ∃ F' fo bo, Ans w p F' fo bo e w' ∧ (F' = F ∨ (F.waits = true ∧ F' = { F with st := 0 }) ∨ (F.waits = true ∧ F.ag < Rn ∧ ∃ mk, F' = { F with ag := F.ag + 1, mrk := mk }))
theorem tick_any {w : World} {p : Nat} {F : Hf} (hH : HfAt w p F) (Rn : Nat) (hR : F.ret = (Rn : Int)) (h16 : Rn ≤ 16) (ha : F.ag ≤ Rn) (now : Nat) (h64 : now < 18446744073709551616) (hpe : F.peer < 18446744073709551616) (hK : KTab w) (h2 : 1 ≤ p) :
    Calls Tryd.prog 11 #[.pointer (some ⟨p, 0, none⟩), .int .u64 (now : Int)] w (TkA w p F Rn) := by
  by_cases hc : F.waits = true ∧ F.mrk ≤ now ∧ F.wt ≤ now - F.mrk
  · by_cases hr : (F.ag : Int) = F.ret
    · exact (tick_end hH (by omega) now h64 hc.1 hc.2.1 hc.2.2 hr).mono fun e w' h => ⟨_, _, _, h, .inr (.inl ⟨hc.1, rfl⟩)⟩
    · refine (tick_again hH (by omega) now h64 hc.1 hc.2.1 hc.2.2 hr hpe hK h2).mono fun e w' h => ⟨_, _, _, h, .inr (.inr ⟨hc.1, ?_, now, rfl⟩)⟩
      rw [hR] at hr
      omega
  · exact (tick_early hH (by omega) now h64 hc).mono fun e w' h => ⟨_, _, _, h, .inl rfl⟩
/-- The list of turns. -/
def TnAt (W : World) (ad : Option Addr) (L : List (Int × Int)) : Prop := ∀ k (h : k < L.length), ∃ g o, ad = some ⟨g, o, none⟩ ∧ W.cell? ⟨g, o + k * 2, none⟩ = some (.int .i64 L[k].1) ∧ W.cell? ⟨g, o + k * 2 + 1, none⟩ = some (.int .i64 L[k].2)
def BOk (path : Int) (a b Rn : Nat) (bk said : Bool) (B : Hf) (sA : Int) : Prop :=
  (said = false ∧ B = ⟨1, path, b, a, (Rn : Int), 0, false, 0#32, 0, 0⟩) ∨ (said = true ∧ ∃ (sB : Int) (agB mkB : Nat), B = ⟨1, path, b, a, (Rn : Int), sB, bk, nonceOf a path, agB, mkB⟩ ∧ (sB = 2 ∨ (sB = 3 ∧ sA = 3)) ∧ agB ≤ Rn)
/-- Where the turns stand. -/
structure CmI (w : World) (q g17 g18 g19 g22 : Nat) (path : Int) (a b Rn len : Nat) (bk : Bool) (v20 v21 v76 : Value) (wr : World) : Prop where
  ex : ∃ (i : Nat) (said proved : Bool) (sA : Int) (agA mkA : Nat) (B : Hf) (n0 n1 : Nat) (m17 m18 m19 : Value), v20 = .bool said ∧ v21 = .bool proved ∧ v76 = .int .i64 (i : Int) ∧ i ≤ len ∧ Tw w w.heap.size q ⟨0, path, a, b, (Rn : Int), sA, bk, 0#32, agA, mkA⟩ B wr ∧ (sA = 1 ∨ sA = 3) ∧ agA ≤ Rn ∧ BOk path a b Rn bk said B sA ∧ (proved = true → said = true ∧ sA = 3) ∧
    Bx q g17 (askF path a b bk) m17 wr ∧ Bx q g18 (if said then ansF path a b else Fo.zero) m18 wr ∧ Bx q g19 (if proved then prfF path a b else Fo.zero) m19 wr ∧ Rw q g22 [.int .u64 (n0 : Int), .int .u64 (n1 : Int)] 40 wr ∧ n0 < 18446744073709551616 ∧ n1 < 18446744073709551616
theorem ownB_off {x x' : World} {B r : Nat} {m : Value} {bs : List (BitVec 8)} {c : List Value} {t : TypeId} (h : OwnB x B m bs) (ho : Only r x x') (R : Row x r c t) (ht : t ≠ 5) : OwnB x' B m bs := by
  refine ⟨h.1, ?_⟩
  rcases h.2 with e | ⟨g, cap, cur, hv, h1, hg, h2⟩
  · exact .inl e
  · refine .inr ⟨g, cap, cur, hv, h1, ?_, h2⟩
    have hne : g ≠ r := by
      intro e
      subst e
      have := R.at_
      rw [hg] at this
      simp only [Option.some.injEq, Obj.cells.injEq] at this
      exact ht this.2.1.symm
    rw [ho.block g (Array.getElem?_eq_some_iff.1 hg).1 hne]
    exact hg
theorem Bx.off {q g r : Nat} {f : Fo} {m : Value} {x x' : World} {c : List Value} {t : TypeId} (h : Bx q g f m x) (ho : Only r x x') (R : Row x r c t) (ht : t ≠ 5) (hne : g ≠ r) : Bx q g f m x' := ⟨ho.row h.row hne, ownB_off h.own ho R ht, h.gt⟩
theorem Rw.off {q g r : Nat} {c : List Value} {t : TypeId} {x x' : World} (h : Rw q g c t x) (ho : Only r x x') (hne : g ≠ r) : Rw q g c t x' := ⟨ho.row h.row hne, h.gt⟩
theorem Tw.off {w x x' : World} {p q r : Nat} {A B : Hf} (h : Tw w p q A B x) (ho : Only r x x') (hr : q < r) : Tw w p q A B x' := ⟨ho.row h.ha (by have := h.ne; omega), ho.row h.hb (by omega), h.bel.trans (ho.below h.bel.size (by have := h.ne; have := h.ge; omega)), h.ne, h.ge⟩
theorem i42 : (Tryd.prog.info? 42).map (·.size) = some 2 := by kernel_rfl
theorem tn_range {W : World} {g o : Nat} {x y : Int} (h1 : W.cell? ⟨g, o, none⟩ = some (.int .i64 x)) (h2 : W.cell? ⟨g, o + 1, none⟩ = some (.int .i64 y)) : W.rangeAt g o [.int .i64 x, .int .i64 y] := by
  intro j v hv
  match j, hv with
  | 0, hv => cases hv; exact h1
  | 1, hv => cases hv; exact h2
  | (n + 2), hv => simp at hv
end Go.Proofs.YtjpllcliehgnfaaDoor
