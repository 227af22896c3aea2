import Derived.Test.YtjeokomocopjhaaRf8
import Derived.Test.YtjeokomocopjhaaRf7
namespace Go.Proofs.Ytjeokomocopjhaa
open Go.RowKit Go.Maps
set_option maxRecDepth 100000

theorem RfAt.other {w : World} {r : Nat} {vL : Value} {V : Nat → Value} {q : Int} {L : List Sm} {R : Nat → List Int} (h : RfAt w r vL V q L R) {k : Nat} {c : List Value} {t : TypeId} (hk : Row w k c t) (h1 : t ≠ 66) (h2 : t ≠ 71) (h3 : t ≠ 26) : ¬ RFoot r vL V k := by
  rintro (rfl | e | ⟨j, hj, e⟩)
  · exact h1 (cells_type hk.at_ h.row.at_)
  · obtain ⟨cur, hg⟩ := own_blk h.lst e
    exact h2 (cells_type hk.at_ hg)
  · obtain ⟨cur, hg⟩ := own_blk (h.own j hj) e
    exact h3 (cells_type hk.at_ hg)
theorem RMv.box {w w' : World} {r : Nat} {vL vL' : Value} {V V' : Nat → Value} {q : Int} {L L' : List Sm} {R R' : Nat → List Int} (m : RMv r vL V w vL' V' q L' R' w') (h : RfAt w r vL V q L R) {k : Nat} {c : List Value} {t : TypeId} (hk : Row w k c t) (h1 : t ≠ 66 ∧ t ≠ 71 ∧ t ≠ 26) : Row w' k c t :=
  m.fr.row hk (h.other hk h1.1 h1.2.1 h1.2.2)
theorem RMv.boxed {w w' : World} {r : Nat} {vL vL' : Value} {V V' : Nat → Value} {q : Int} {L' : List Sm} {R' : Nat → List Int} (m : RMv r vL V w vL' V' q L' R' w') {bx : Nat} {c : List Value} (hb : w.heap.size ≤ bx) (hr : Row w' bx c 31) (a b : Value) : RMv r vL V w vL' V' q L' R' ((w'.setCell ⟨bx, 0, none⟩ a).setCell ⟨bx, 1, none⟩ b) :=
  ⟨m.at_.kept (S := fun k => k = bx) (((Fr.refl (fun k => k = bx) w').setCell bx 0 a (.inl rfl)).setCell bx 1 b (.inl rfl)) (fun k hk e => m.at_.other hr (by decide) (by decide) (by decide) (e ▸ hk)), (m.fr.setCell bx 0 a (.inr hb)).setCell bx 1 b (.inr hb), m.gr⟩
end Go.Proofs.Ytjeokomocopjhaa
