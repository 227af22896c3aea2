import Derived.Test.YtjeokomocopjhaaFa4
import Derived.Laws.MakeOwn
namespace Go.Proofs.Ytjeokomocopjhaa
open Go.RowKit Go.Maps
set_option maxRecDepth 100000

/-- A stream of the document's own. -/
structure Sm where
  num : Int
  cls : Nat
  shr : Int
  wt : Int
  cr : Int
  on : Bool
def Sm.cells (x : Sm) : List Value := [.int .u64 x.num, .int .i64 x.cls, .int .i64 x.shr, .int .i64 x.wt, .int .i64 x.cr, .bool x.on]
def smz : Sm := ⟨0, 0, 0, 0, 0, false⟩
def flatS (L : List Sm) : List Value := L.flatMap Sm.cells
theorem flatS_nil : flatS [] = [] := rfl
theorem flatS_cons (x : Sm) (L : List Sm) : flatS (x :: L) = x.cells ++ flatS L := by simp [flatS]
theorem flatS_app (A B : List Sm) : flatS (A ++ B) = flatS A ++ flatS B := by simp [flatS]
theorem flatS_len : ∀ L : List Sm, (flatS L).length = L.length * 6
  | [] => rfl
  | x :: L => by rw [flatS_cons, List.length_append, flatS_len L]; simp [Sm.cells]; omega
theorem flatS_one (L : List Sm) : ∀ v ∈ flatS L, v.oneCell' = true := by
  intro v hv
  simp only [flatS, List.mem_flatMap] at hv
  obtain ⟨x, _, hx⟩ := hv
  simp only [Sm.cells, List.mem_cons, List.not_mem_nil, or_false] at hx
  rcases hx with rfl | rfl | rfl | rfl | rfl | rfl <;> rfl
theorem flatS_at {A B : List Sm} {x : Sm} {j : Nat} (h : j < 6) : (flatS (A ++ x :: B))[A.length * 6 + j]? = x.cells[j]? := by
  rw [flatS_app, flatS_cons, List.getElem?_append_right (by rw [flatS_len]; omega), flatS_len, show A.length * 6 + j - A.length * 6 = j by omega, List.getElem?_append_left (by simpa [Sm.cells] using h)]
theorem flatS_set {A B : List Sm} {x y : Sm} {j : Nat} {v : Value} (h : j < 6) (hc : x.cells.set j v = y.cells) : (flatS (A ++ x :: B)).set (A.length * 6 + j) v = flatS (A ++ y :: B) := by
  rw [flatS_app, flatS_app, flatS_cons, flatS_cons, List.set_append_right _ _ (by rw [flatS_len]; omega), flatS_len, show A.length * 6 + j - A.length * 6 = j by omega, List.set_append_left _ _ (by simpa [Sm.cells] using h), hc]
def rcells (q : Int) (vL : Value) (V : Nat → Value) : List Value := [.int .i64 q, vL, V 0, V 1, V 2, V 3, V 4, V 5, V 6, V 7]
theorem rcells_get (q : Int) (vL : Value) (V : Nat → Value) {c : Nat} (h : c < 8) : (rcells q vL V)[2 + c]? = some (V c) := by
  rcases lt8 h with rfl | rfl | rfl | rfl | rfl | rfl | rfl | rfl <;> rfl
theorem rcells_set (q : Int) (vL : Value) (V : Nat → Value) {c : Nat} (h : c < 8) (v : Value) : (rcells q vL V).set (2 + c) v = rcells q vL (upR V c v) := by
  rcases lt8 h with rfl | rfl | rfl | rfl | rfl | rfl | rfl | rfl <;> rfl
/-- The document's memory. -/
structure RfAt (w : World) (r : Nat) (vL : Value) (V : Nat → Value) (q : Int) (L : List Sm) (R : Nat → List Int) : Prop where
  row : Row w r (rcells q vL V) 66
  lst : w.ownsRow 0 71 6 vL L.length (flatS L)
  own : ∀ k, k < 8 → OwnN w (V k) (R k)
  ap : ∀ j k, j < 8 → k < 8 → j ≠ k → ∀ g, (V j).ownBlock = some g → (V k).ownBlock ≠ some g
def RFoot (r : Nat) (vL : Value) (V : Nat → Value) (k : Nat) : Prop := k = r ∨ vL.ownBlock = some k ∨ ∃ j, j < 8 ∧ (V j).ownBlock = some k
section
variable {w w' : World} {r : Nat} {vL : Value} {V : Nat → Value} {q : Int} {L : List Sm} {R : Nat → List Int}
theorem RfAt.lt (h : RfAt w r vL V q L R) {k : Nat} (hk : RFoot r vL V k) : k < w.heap.size := by
  rcases hk with rfl | e | ⟨j, hj, e⟩
  · exact h.row.lt
  · exact own_lt h.lst e
  · exact own_lt (h.own j hj) e
theorem RfAt.kept {S : Nat → Prop} (h : RfAt w r vL V q L R) (hf : Fr S w w') (hS : ∀ k, RFoot r vL V k → ¬ S k) : RfAt w' r vL V q L R :=
  ⟨hf.row h.row (hS r (.inl rfl)), own_keep h.lst hf (fun g e => hS g (.inr (.inl e))), fun k hk => own_keep (h.own k hk) hf (fun g e => hS g (.inr (.inr ⟨k, hk, e⟩))), h.ap⟩
theorem RfAt.below (h : RfAt w r vL V q L R) (hb : Below w.heap.size w w') : RfAt w' r vL V q L R :=
  h.kept (S := fun _ => False) (Fr.of_below hb (Nat.le_refl _)) (fun _ _ e => e)
theorem RfAt.lr (h : RfAt w r vL V q L R) : vL.ownBlock ≠ some r := fun e => by
  obtain ⟨cur, hg⟩ := own_blk h.lst e
  exact absurd (cells_type h.row.at_ hg) (by decide)
theorem RfAt.vr (h : RfAt w r vL V q L R) {j : Nat} (hj : j < 8) : (V j).ownBlock ≠ some r := fun e => by
  obtain ⟨cur, hg⟩ := own_blk (h.own j hj) e
  exact absurd (cells_type h.row.at_ hg) (by decide)
theorem RfAt.vl (h : RfAt w r vL V q L R) {j : Nat} (hj : j < 8) {g : Nat} (e : (V j).ownBlock = some g) : vL.ownBlock ≠ some g := fun e' => by
  obtain ⟨cur, hg⟩ := own_blk (h.own j hj) e
  obtain ⟨cur', hg'⟩ := own_blk h.lst e'
  exact absurd (cells_type hg hg') (by decide)
end
/-- A call's turn of the document's memory. -/
structure RMv (r : Nat) (vL : Value) (V : Nat → Value) (w : World) (vL' : Value) (V' : Nat → Value) (q : Int) (L' : List Sm) (R' : Nat → List Int) (w' : World) : Prop where
  at_ : RfAt w' r vL' V' q L' R'
  fr : Fr (RFoot r vL V) w w'
  gr : ∀ k, RFoot r vL' V' k → RFoot r vL V k ∨ w.heap.size ≤ k
section
variable {w w' w'' : World} {r : Nat} {vL vL' vL'' : Value} {V V' V'' : Nat → Value} {q : Int} {L L' L'' : List Sm} {R R' R'' : Nat → List Int}
theorem RMv.refl (h : RfAt w r vL V q L R) : RMv r vL V w vL V q L R w := ⟨h, Fr.refl _ _, fun _ hk => .inl hk⟩
theorem RMv.trans (h : RMv r vL V w vL' V' q L' R' w') (k : RMv r vL' V' w' vL'' V'' q L'' R'' w'') : RMv r vL V w vL'' V'' q L'' R'' w'' :=
  ⟨k.at_, h.fr.trans k.fr h.gr, fun x hx => by
    rcases k.gr x hx with e | e
    · exact h.gr x e
    · exact .inr (Nat.le_trans h.fr.size e)⟩
theorem RMv.below (h : RMv r vL V w vL' V' q L' R' w') (hb : Below w'.heap.size w' w'') : RMv r vL V w vL' V' q L' R' w'' :=
  ⟨h.at_.below hb, h.fr.trans (T := fun _ => False) (Fr.of_below hb (Nat.le_refl _)) (fun _ e => e.elim), h.gr⟩
theorem RMv.drewN (h : RMv r vL V w vL' V' q L' R' w') (n : Nat) : RMv r vL V w vL' V' q L' R' (w'.drewN n) := h.below (below_drewN (Below.refl _ _) n)
theorem RMv.ahead (hb : Below w.heap.size w w') (h : RMv r vL V w' vL' V' q L' R' w'') : RMv r vL V w vL' V' q L' R' w'' :=
  ⟨h.at_, (Fr.of_below hb (Nat.le_refl _)).trans h.fr (fun x hx => .inl hx), fun x hx => by
    rcases h.gr x hx with e | e
    · exact .inl e
    · exact .inr (Nat.le_trans hb.size e)⟩
/-- A cell of a stream is another one. -/
theorem RfAt.cell {g cap n : Nat} {A B : List Sm} {x y : Sm} (h : RfAt w r (.slice (some ⟨g, 0, none⟩) n cap) V q (A ++ x :: B) R) {j : Nat} {v : Value} (hj : j < 6) (hc : x.cells.set j v = y.cells) :
    RMv r (.slice (some ⟨g, 0, none⟩) n cap) V w (.slice (some ⟨g, 0, none⟩) n cap) V q (A ++ y :: B) R (w.setCell ⟨g, A.length * 6 + j, none⟩ v) := by
  have hF := (Fr.refl (fun k => k = g) w).setCell g (A.length * 6 + j) v (.inl rfl)
  have hln : (A ++ y :: B).length = (A ++ x :: B).length := by simp
  refine ⟨⟨hF.row h.row (fun e => h.lr (by rw [e]; rfl)), ?_, fun k hk => own_keep (h.own k hk) hF (fun g' e e' => h.vl hk e (by rw [e']; rfl)), h.ap⟩, hF.wider (fun k e => .inr (.inl (by rw [e]; rfl))), fun k hk => .inl hk⟩
  obtain ⟨hl, ⟨e, _⟩ | ⟨g', cap', cur, e, hb, hg, hnc, hcm, hcs, htk⟩⟩ := h.lst
  · cases e
  · cases e
    refine ⟨by rw [flatS_len], .inr ⟨g, cap, (cur.toList.set (A.length * 6 + j) v).toArray, by rw [hln], hb, ?_, by rw [hln]; exact hnc, hcm, by simpa using hcs, ?_⟩⟩
    · have R0 : Row w g cur.toList 71 := ⟨by simpa using hg⟩
      exact (R0.set (A.length * 6 + j) v).at_
    · rw [hln, List.take_set, htk]
      exact flatS_set hj hc
/-- A row is another one. -/
theorem RfAt.put (h : RfAt w r vL V q L R) {c : Nat} (hc : c < 8) {v : Value} {l : List Int} (hf : Fr (fun k => (V c).ownBlock = some k) w w') (ho : OwnN w' v l) (hn : ∀ g, v.ownBlock = some g → (V c).ownBlock = some g ∨ w.heap.size ≤ g) :
    RMv r vL V w vL (upR V c v) q L (upR R c l) (w'.setCell ⟨r, 2 + c, none⟩ v) := by
  have hp' := hf.row h.row (h.vr hc)
  have hF : Fr (fun k => k = r ∨ (V c).ownBlock = some k) w (w'.setCell ⟨r, 2 + c, none⟩ v) := (hf.wider (fun _ e => .inr e)).setCell r (2 + c) v (.inl (.inl rfl))
  have hvp : v.ownBlock ≠ some r := fun e => by
    obtain ⟨cur, hg⟩ := own_blk ho e
    exact absurd (cells_type hp'.at_ hg) (by decide)
  refine ⟨⟨?_, ?_, fun k hk => ?_, fun j k hj hk hjk g e e' => ?_⟩, hF.wider (fun k e => ?_), fun k hk => ?_⟩
  · have := hp'.set (2 + c) v
    rwa [rcells_set _ _ _ hc] at this
  · exact own_keep h.lst hF (fun g e e' => by
      rcases e' with e' | e'
      · subst e'; exact h.lr e
      · exact h.vl hc e' e)
  · by_cases e : k = c
    · subst e
      rw [upR_same, upR_same]
      exact own_keep (S := fun k => k = r) ho ((Fr.refl _ _).setCell r (2 + k) v (.inl rfl)) (fun g e e' => by subst e'; exact hvp e)
    · rw [upR_other _ _ e, upR_other _ _ e]
      exact own_keep (h.own k hk) hF (fun g e1 e2 => by
        rcases e2 with e2 | e2
        · subst e2; exact h.vr hk e1
        · exact h.ap k c hk hc e g e1 e2)
  · have hlt : ∀ i, i < 8 → i ≠ c → (V i).ownBlock = some g → v.ownBlock = some g → False := fun i hi hic ei ev => by
      rcases hn g ev with e1 | e1
      · exact h.ap i c hi hc hic g ei e1
      · have := own_lt (h.own i hi) ei
        omega
    by_cases ej : j = c
    · subst ej
      rw [upR_same] at e
      rw [upR_other _ _ (fun e => hjk e.symm)] at e'
      exact hlt k hk (fun e => hjk e.symm) e' e
    · rw [upR_other _ _ ej] at e
      by_cases ek : k = c
      · subst ek
        rw [upR_same] at e'
        exact hlt j hj ej e e'
      · rw [upR_other _ _ ek] at e'
        exact h.ap j k hj hk hjk g e e'
  · rcases e with e | e
    · exact .inl e
    · exact .inr (.inr ⟨c, hc, e⟩)
  · rcases hk with e | e | ⟨j, hj, e⟩
    · exact .inl (.inl e)
    · exact .inl (.inr (.inl e))
    · by_cases ej : j = c
      · subst ej
        rw [upR_same] at e
        rcases hn k e with e | e
        · exact .inl (.inr (.inr ⟨j, hj, e⟩))
        · exact .inr e
      · rw [upR_other _ _ ej] at e
        exact .inl (.inr (.inr ⟨j, hj, e⟩))
/-- The list is another one. -/
theorem RfAt.lay (h : RfAt w r vL V q L R) {v : Value} {L' : List Sm} (hf : Fr (fun k => vL.ownBlock = some k) w w') (ho : w'.ownsRow 0 71 6 v L'.length (flatS L')) (hn : ∀ g, v.ownBlock = some g → vL.ownBlock = some g ∨ w.heap.size ≤ g) :
    RMv r vL V w v V q L' R (w'.setCell ⟨r, 1, none⟩ v) := by
  have hp' := hf.row h.row h.lr
  have hF : Fr (fun k => k = r ∨ vL.ownBlock = some k) w (w'.setCell ⟨r, 1, none⟩ v) := (hf.wider (fun _ e => .inr e)).setCell r 1 v (.inl (.inl rfl))
  have hvp : v.ownBlock ≠ some r := fun e => by
    obtain ⟨cur, hg⟩ := own_blk ho e
    exact absurd (cells_type hp'.at_ hg) (by decide)
  refine ⟨⟨hp'.set 1 v, own_keep (S := fun k => k = r) ho ((Fr.refl _ _).setCell r 1 v (.inl rfl)) (fun g e e' => by subst e'; exact hvp e), fun k hk => ?_, h.ap⟩, hF.wider (fun k e => ?_), fun k hk => ?_⟩
  · exact own_keep (h.own k hk) hF (fun g e1 e2 => by
      rcases e2 with e2 | e2
      · subst e2; exact h.vr hk e1
      · exact h.vl hk e1 e2)
  · rcases e with e | e
    · exact .inl e
    · exact .inr (.inl e)
  · rcases hk with e | e | e
    · exact .inl (.inl e)
    · rcases hn k e with e | e
      · exact .inl (.inr (.inl e))
      · exact .inr e
    · exact .inl (.inr (.inr e))
end
/-- What the list is. -/
theorem lst_shape {w : World} {v : Value} {L : List Sm} (h : w.ownsRow 0 71 6 v L.length (flatS L)) : (v = .slice none 0 0 ∧ L = []) ∨ ∃ g cap, v = .slice (some ⟨g, 0, none⟩) L.length cap ∧ L.length ≤ cap ∧ cap ≤ maxLen ∧ g < w.heap.size ∧ (∀ j u, (flatS L)[j]? = some u → w.cell? ⟨g, j, none⟩ = some u) ∧ (∀ j, w.frozen? ⟨g, j, none⟩ = false) := by
  obtain ⟨hl, ⟨rfl, hn⟩ | ⟨g, cap, cur, rfl, hb, hg, hnc, hcm, hcs, htk⟩⟩ := h
  · exact .inl ⟨rfl, List.eq_nil_of_length_eq_zero hn⟩
  · refine .inr ⟨g, cap, rfl, hnc, hcm, (Array.getElem?_eq_some_iff.1 hg).1, fun j u hu => ?_, fun j => (⟨by simpa using hg⟩ : Row w g cur.toList 71).frozen j⟩
    have hj : j < L.length * 6 := by have := (List.getElem?_eq_some_iff.1 hu).1; rwa [flatS_len] at this
    rw [cell_of_row w g _ _ _ _ hg, ← Array.getElem?_toList, ← List.getElem?_take_of_lt hj, htk]
    exact hu
end Go.Proofs.Ytjeokomocopjhaa
