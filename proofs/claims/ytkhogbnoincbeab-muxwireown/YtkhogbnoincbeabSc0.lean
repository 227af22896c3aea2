import Derived.Test.YtkhogbnoincbeabMx4
import Derived.Laws.EntriesVeiled
import Derived.WideLaws
namespace Go.Proofs.Ytkhogbnoincbeab
open Go.RowKit Go.Maps Go.Sort
set_option maxRecDepth 100000

/-- A reader as a method value of the scan at p. -/
def rdf (p : Nat) (f : Nat) : Value := .func (.func f) #[.pointer (some ⟨p, 0, none⟩)] #[]
def ftf (f : Nat) : Value := .func (.func f) #[] #[]
/-- The fields of each kind: what reads them, what bounds them. -/
def flds : Nat → List (Nat × Nat)
  | 1 => [(32, 33), (34, 35), (36, 37)]
  | 2 => [(32, 33), (38, 39)]
  | 3 => [(32, 40), (41, 40)]
  | 4 => [(32, 33)]
  | 5 => [(32, 33), (41, 40)]
  | 6 => [(32, 33), (41, 40)]
  | 7 => [(41, 40)]
  | 8 => [(41, 40)]
  | 9 => [(32, 40), (41, 40)]
  | _ => []
def fcells (p : Nat) (l : List (Nat × Nat)) : List Value := l.flatMap fun x => [rdf p x.1, ftf x.2]
def rowV (p k : Nat) : Value := .slice (some ⟨p + k, 0, none⟩) (flds k).length (flds k).length
def scCells (p : Nat) (left : Value) (k s n c h : Int) (d : Value) : List Value :=
  [.slice none 0 0, rowV p 1, rowV p 2, rowV p 3, rowV p 4, rowV p 5, rowV p 6, rowV p 7, rowV p 8, rowV p 9, left, .int .i64 k, .int .u64 s, .int .u64 n, .int .i64 c, .int .i64 h, d]
/-- The scan at p: its tables, what is left (v), what was read. -/
structure Sc (w : World) (p : Nat) (v : Value) (k s n c h : Int) (d : Value) : Prop where
  row : Row w p (scCells p v k s n c h d) 76
  tab : ∀ j, 1 ≤ j → j ≤ 9 → Row w (p + j) (fcells p (flds j)) 79
section
variable {w w' : World} {p : Nat} {v v' : Value} {k s n c h : Int} {d : Value}
theorem Sc.lt (H : Sc w p v k s n c h d) : p < w.heap.size := H.row.lt
theorem Sc.fr {S : Nat → Prop} (H : Sc w p v k s n c h d) (hf : Fr S w w') (h0 : ∀ j, j ≤ 9 → ¬ S (p + j)) : Sc w' p v k s n c h d :=
  ⟨hf.row H.row (h0 0 (by omega)), fun j h1 h2 => hf.row (H.tab j h1 h2) (h0 j h2)⟩
theorem Sc.kept (H : Sc w p v k s n c h d) (hb : Below w.heap.size w w') : Sc w' p v k s n c h d :=
  H.fr (Fr.of_below hb (Nat.le_refl _) (S := fun _ => False)) (fun _ _ h => h)
theorem Sc.set (H : Sc w p v k s n c h d) (j : Nat) (u : Value) {v' : Value} {k' s' n' c' h' : Int} {d' : Value} (e : (scCells p v k s n c h d).set j u = scCells p v' k' s' n' c' h' d') : Sc (w.setCell ⟨p, j, none⟩ u) p v' k' s' n' c' h' d' := by
  refine ⟨?_, fun i h1 h2 => (H.tab i h1 h2).setOther ⟨p, j, none⟩ (by show p + i ≠ p; omega) u⟩
  rw [← e]
  exact H.row.set j u
theorem fr_set (w : World) (p j : Nat) (u : Value) : Fr (fun x => x = p) w (w.setCell ⟨p, j, none⟩ u) :=
  ⟨rfl, rfl, rfl, by simp [World.setCell], fun k _ hs => Below.heap_setCell w ⟨p, j, none⟩ u k (fun e => hs e)⟩
end
/-- What is left of the bytes: l, at an address that is none of the scan's. -/
def Lf (w : World) (p : Nat) (v : Value) (l : List (BitVec 8)) : Prop := ∃ a cap, v = .slice a l.length cap ∧ BytesAt w a l ∧ (l.length ≤ cap ∧ cap ≤ maxLen) ∧ (a = none → cap = 0) ∧ (∀ g o, a = some ⟨g, o, none⟩ → 0 < l.length → ¬ g = p)
theorem Lf.fr {w w' : World} {p : Nat} {v : Value} {l : List (BitVec 8)} (H : Lf w p v l) (hf : Fr (fun x => x = p) w w') : Lf w' p v l := by
  obtain ⟨a, cap, e, hB, h1, h2, h3⟩ := H
  exact ⟨a, cap, e, fun k hk => by obtain ⟨g, o, e, c⟩ := hB k hk; exact ⟨g, o, e, hf.cell c (h3 g o e (by omega))⟩, h1, h2, h3⟩
theorem Lf.kept {w w' : World} {p : Nat} {v : Value} {l : List (BitVec 8)} (H : Lf w p v l) (hb : Below w.heap.size w w') : Lf w' p v l := by
  obtain ⟨a, cap, e, hB, h1, h2, h3⟩ := H
  exact ⟨a, cap, e, hB.kept hb, h1, h2, h3⟩
theorem BytesAt.tail {w : World} {g o : Nat} {x : BitVec 8} {l : List (BitVec 8)} (h : BytesAt w (some ⟨g, o, none⟩) (x :: l)) : BytesAt w (some ⟨g, o + 1, none⟩) l := fun k hk => by
  obtain ⟨g', o', e, c⟩ := h (k + 1) (by simp; omega)
  cases e
  exact ⟨g, o + 1, rfl, by rw [show o + 1 + k = o + (k + 1) by omega, c]; rfl⟩
theorem BytesAt.drop {w : World} {ad : Addr} {l : List (BitVec 8)} (h : BytesAt w (some ad) l) (n : Nat) : BytesAt w (some (ad.add n)) (l.drop n) := fun k hk => by
  have hk2 : n + k < l.length := by simp at hk; omega
  obtain ⟨g, o, e, c⟩ := h (n + k) hk2
  cases e
  exact ⟨g, o + n, by rw [Addr.add_lit], by rw [show o + n + k = o + (n + k) by omega, c, List.getElem_drop]⟩
theorem Lf.drop {w : World} {p : Nat} {ad : Addr} {cap : Nat} {l : List (BitVec 8)} (H : Lf w p (.slice (some ad) l.length cap) l) {n : Nat} (hn : n ≤ l.length) : Lf w p (.slice (some (ad.add n)) (l.length - n) (cap - n)) (l.drop n) := by
  obtain ⟨a, cap', e, hB, h1, h2, h3⟩ := H
  injection e with e1 e2 e3
  subst e1 e3
  refine ⟨_, _, by rw [List.length_drop], hB.drop n, ⟨by rw [List.length_drop]; omega, by omega⟩, fun e => (by cases e), fun g o e hl => ?_⟩
  rw [List.length_drop] at hl
  obtain ⟨g1, o1, e1, _⟩ := hB 0 (by omega)
  injection e1 with e1
  subst e1
  injection e with e
  rw [Addr.add_lit] at e
  injection e with e4 e5
  subst e4
  exact h3 g1 o1 rfl (by omega)
theorem lf_out (w : World) (p : Nat) (ad : Option Addr) {n : Nat} {l : List (BitVec 8)} (hn : l.length ≤ n) : Lf w p (.slice ad (l.length - n) 0) (l.drop n) := by
  have e : l.drop n = [] := List.drop_eq_nil_of_le hn
  rw [e, show l.length - n = 0 by omega]
  exact ⟨ad, 0, rfl, BytesAt_nil _ _, ⟨Nat.le_refl _, Nat.zero_le _⟩, fun _ => rfl, fun g o _ hl => absurd hl (by simp)⟩
theorem Lf.far {S : Nat → Prop} {w w' : World} {p : Nat} {v : Value} {l : List (BitVec 8)} (H : Lf w p v l) (hf : Fr S w w') (hS : ∀ n cap g o, v = .slice (some ⟨g, o, none⟩) n cap → 0 < l.length → ¬ S g) : Lf w' p v l := by
  obtain ⟨a, cap, e, hB, h1, h2, h3⟩ := H
  exact ⟨a, cap, e, fun k hk => by obtain ⟨g, o, e2, c⟩ := hB k hk; exact ⟨g, o, e2, hf.cell c (hS _ cap g o (by rw [e, e2]) (by omega))⟩, h1, h2, h3⟩
theorem one_no {w : World} {p : Nat} {v : Value} {k s n c h : Int} {d : Value} (H : Sc w p v k s n c h d) (hl : Lf w p v []) :
    Calls Try.prog 54 #[.pointer (some ⟨p, 0, none⟩)] w fun e w' => e = .returned (.tuple #[.int .u8 0, .int .i64 174]) ∧ w' = w := by
  obtain ⟨a, cap, rfl, -⟩ := hl
  have c10 := H.row.cell 10 _ rfl
  clear H
  simp only [List.length_nil] at c10
  go_enter Try.func54, Try.ntmps54
  go_wp2
  go_ret2
  exact ⟨rfl, rfl⟩
set_option maxHeartbeats 1000000 in
theorem one_yes {w : World} {p : Nat} {v : Value} {k s n c h : Int} {d : Value} {x : BitVec 8} {l : List (BitVec 8)} (H : Sc w p v k s n c h d) (hl : Lf w p v (x :: l)) :
    Calls Try.prog 54 #[.pointer (some ⟨p, 0, none⟩)] w fun e w' => e = .returned (.tuple #[.int .u8 (ub x), .int .i64 0]) ∧ ∃ v', Sc w' p v' k s n c h d ∧ Lf w' p v' l ∧ Fr (fun x => x = p) w w' := by
  obtain ⟨a, cap, rfl, hB, h1, h2, h3⟩ := hl
  obtain ⟨g, o, rfl, hx⟩ := hB 0 (by simp)
  have c10 := H.row.cell 10 _ rfl
  have f10 := H.row.frozen 10
  have HS := hid H
  have HB := hid hB
  have H3 := hid (h3 g o rfl (by simp))
  rw [List.length_cons] at c10 h1
  have HCM := hid h1.2
  replace h1 := h1.1
  simp only [List.getElem_cons_zero, Nat.add_zero] at hx
  have hq : (0 : Int) < ((l.length + 1 : Nat) : Int) := by omega
  have HC := hid h1
  clear H hB h2 h3 h1
  generalize hN : l.length = N at *
  have HNL := hid hN.symm
  clear hN
  go_enter Try.func54, Try.ntmps54
  go_wp2
  · go_ret2
    refine ⟨rfl, _, HS.out.set 10 _ rfl, ?_, fr_set w p 10 _⟩
    rename_i hc1
    have := HC.out
    obtain rfl : l = [] := List.eq_nil_of_length_eq_zero (by have := HNL.out; omega)
    refine Lf.fr ?_ (fr_set w p 10 _)
    exact ⟨some ⟨g, o, none⟩, 0, by rw [← HNL.out], BytesAt_nil _ _, ⟨Nat.le_refl _, Nat.zero_le _⟩, fun e => (by cases e), fun g' o' e _ => (by cases e; exact H3.out)⟩
  · go_ret2
    refine ⟨rfl, _, HS.out.set 10 _ rfl, ?_, fr_set w p 10 _⟩
    refine Lf.fr ?_ (fr_set w p 10 _)
    exact ⟨some ⟨g, o + 1, none⟩, cap - 1, by rw [← HNL.out], HB.out.tail, ⟨by have := HC.out; have := HNL.out; omega, by have := HCM.out; omega⟩, fun e => (by cases e), fun g' o' e _ => (by cases e; exact H3.out)⟩
end Go.Proofs.Ytkhogbnoincbeab
