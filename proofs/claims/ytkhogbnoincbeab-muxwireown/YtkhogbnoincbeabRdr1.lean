import Derived.Test.YtkhogbnoincbeabRdr0
import Derived.Test.YtkhogbnoincbeabLay
namespace Go.Proofs.Ytkhogbnoincbeab
open Go.RowKit Go.Maps Go.Sort
set_option maxRecDepth 100000

theorem own_type {w : World} {B : Nat} {v : Value} {all : List (BitVec 8)} (h : OwnBy w B v all) {g : Nat} (hg : v.ownBlock = some g) {c : List Value} {t : TypeId} (hr : Row w g c t) : t = 5 := by
  rcases h.2 with ⟨rfl, _⟩ | ⟨g', cap, cur, rfl, h1, h2, _⟩
  · simp [Value.ownBlock] at hg
  · simp [Value.ownBlock] at hg
    subst hg
    have h3 := hr.at_.symm.trans h2
    injection h3 with h3
    injection h3
theorem row_type {w : World} {g : Nat} {c c' : List Value} {t t' : TypeId} (h : Row w g c t) (k : Row w g c' t') : t = t' := by
  have h3 := h.at_.symm.trans k.at_
  injection h3 with h3
  injection h3
theorem sc_type {w : World} {p : Nat} {v : Value} {k s n c h : Int} {d : Value} (H : Sc w p v k s n c h d) {j : Nat} (hj : j ≤ 9) {c' : List Value} {t : TypeId} (hr : Row w (p + j) c' t) (h1 : t ≠ 76) (h2 : t ≠ 79) : False := by
  rcases Nat.eq_zero_or_pos j with e0 | e0
  · subst e0
    exact h1 (row_type hr H.row)
  · exact h2 (row_type hr (H.tab j e0 hj))
/-- Bytes are laid behind those of a Reader. -/
theorem write_any {B : Nat} {w : World} {q p : Nat} {v : Value} {all : List (BitVec 8)} {left : Nat} {at_ : Int} (H : Rdr B w q p v all left at_ 0) {ax : Option Addr} {n c : Nat} {bs : List (BitVec 8)} (hz : ax = none → c = 0) (hn : bs.length = n) (hB : BytesAt w ax bs) (hl : all.length + n ≤ 140737488355328) :
    Calls Try.prog 7 #[.pointer (some ⟨q, 0, none⟩), .slice ax n c] w fun e w' => e = .returned (.tuple #[]) ∧ ∃ v', Rdr B w' q p v' (all ++ bs) (left + n) at_ 0 ∧ Fr (fun x => x = q ∨ v.ownBlock = some x) w w' ∧ (v'.ownBlock = v.ownBlock ∨ v'.ownBlock = some w.heap.size) := by
  have HH := hid H
  have HZ := hid hz
  have HN := hid hn
  have HB := hid hB
  have HL := hid hl
  have c4 := H.row.cell 4 _ rfl
  have c1 := H.row.cell 1 _ rfl
  have HBW : Hid (B ≤ w.heap.size) := by have := H.bq; have := H.row.lt; exact (by omega : B ≤ w.heap.size)
  have HLF := hid H.le
  clear H hz hn hB hl
  go_enter Try.func7, Try.ntmps7
  go_wp2_with (at_builtin; refine wpAppendA (.tmp 13) (.tmp 14) rfl rfl (base := B) rfl HH.out.own HBW.out rfl HZ.out HN.out HB.out HL.out ?_; intro w1 v1 hO1 hg1; have HO1 := hid (own_one hO1.out rfl HN.out); obtain ⟨a1, k1, rfl, hsh⟩ := ownBy_shape HO1.out; clear hsh hO1; have HG1 := hid hg1.out.2; have HF1 := hid (Fr.of_grown (S := fun x => v.ownBlock = some x) hg1.out.1 (fun k e => .inl e)); have HR1 := hid (HF1.out.row HH.out.row (fun e => by have := own_type HH.out.own e HH.out.row; cases this)); have HS1 := hid (HH.out.sc.fr HF1.out (fun j hj e => by rcases Nat.eq_zero_or_pos j with e0 | e0; (· subst e0; have := own_type HH.out.own e HH.out.sc.row; cases this); (· have := own_type HH.out.own e (HH.out.sc.tab j e0 hj); cases this))); have c1' := HR1.out.cell 1 _ rfl; have c2' := HR1.out.cell 2 _ rfl; have f1 := HR1.out.frozen 1; have f2 := HR1.out.frozen 2)
  refine bodyPost_end (results_none Try.results7 _ _ _) rfl ?_
  have r : wrap64 ((left : Int) + (n : Int)) = ((left + n : Nat) : Int) := by have := HL.out; have := HLF.out; unfold wrap64; omega
  rw [r, ← List.length_append]
  have F1 : Fr (fun x => x = q) w1 ((w1.setCell ⟨q, 1, none⟩ (.slice a1 (all ++ bs).length k1)).setCell ⟨q, 2, none⟩ (.int .i64 ((left + n : Nat) : Int))) := (fr_set w1 q 1 _).trans (fr_set _ q 2 _) (fun x e => .inl e)
  refine ⟨rfl, _, ⟨(HR1.out.set 1 _).set 2 _, HS1.out.fr F1 (fun j hj e => ?_), F1.own HO1.out (fun x hx e => ?_), by have := HLF.out; have := HN.out; simp; omega, HH.out.bq, HH.out.bp⟩, (HF1.out.wider (T := fun x => x = q ∨ v.ownBlock = some x) (fun x hx => .inr hx)).trans F1 (fun x e => .inl (.inl e)), HG1.out⟩
  · exact sc_type HS1.out hj (by rw [e]; exact HR1.out) (by decide) (by decide)
  · have := own_type HO1.out hx (by rw [e]; exact HR1.out)
    cases this
end Go.Proofs.Ytkhogbnoincbeab
