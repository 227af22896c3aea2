import Derived.Test.YtjeokomocopjhaaRf9
import Derived.Test.YtjeokomocopjhaaRf2
import Derived.Test.YtjeokomocopjhaaWk0
namespace Go.Proofs.Ytjeokomocopjhaa
open Go.RowKit Go.Maps
set_option maxRecDepth 100000

/-- A stream as the document has it. -/
def Ln.sm (x : Ln) : Sm := ⟨x.num, x.s.cls, x.s.shr, x.s.wt, x.s.cr, decide (x.s.cr ≠ 0)⟩
/-- What a call turns: blocks of the colours T, rows of the two's types; all else keeps its colour. -/
structure Tn (T : Nat → Prop) (col : Nat → Nat) (w : World) (col' : Nat → Nat) (w' : World) : Prop where
  fr : Fr (fun k => T (col k)) w w'
  col : ∀ k, k < w.heap.size → col' k = col k
  row : ∀ g c t, Row w g c t → t ≠ 57 → t ≠ 44 → t ≠ 26 → t ≠ 66 → t ≠ 71 → Row w' g c t
section
variable {T T' : Nat → Prop} {col col' col'' : Nat → Nat} {w w' w'' : World}
theorem Tn.refl (T : Nat → Prop) (col : Nat → Nat) (w : World) : Tn T col w col w := ⟨Fr.refl _ _, fun _ _ => rfl, fun _ _ _ h _ _ _ _ _ => h⟩
theorem Tn.trans (h : Tn T col w col' w') (k : Tn T col' w' col'' w'') : Tn T col w col'' w'' :=
  ⟨⟨k.fr.os.trans h.fr.os, k.fr.tape.trans h.fr.tape, k.fr.output.trans h.fr.output, Nat.le_trans h.fr.size k.fr.size, fun x hx hS => (k.fr.block x (Nat.lt_of_lt_of_le hx h.fr.size) (by rw [h.col x hx]; exact hS)).trans (h.fr.block x hx hS)⟩,
    fun x hx => (k.col x (Nat.lt_of_lt_of_le hx h.fr.size)).trans (h.col x hx), fun g c t hr h1 h2 h3 h4 h5 => k.row g c t (h.row g c t hr h1 h2 h3 h4 h5) h1 h2 h3 h4 h5⟩
theorem Tn.wider (h : Tn T col w col' w') (hT : ∀ x, T x → T' x) : Tn T' col w col' w' := ⟨h.fr.wider (fun _ hk => hT _ hk), h.col, h.row⟩
theorem Tn.of_new (hf : Fr (fun k => w.heap.size ≤ k) w w') : Tn T col w col w' :=
  ⟨⟨hf.os, hf.tape, hf.output, hf.size, fun k hk _ => hf.block k hk (by omega)⟩, fun _ _ => rfl, fun g c t hr _ _ _ _ _ => hf.row hr (by have := hr.lt; omega)⟩
theorem Tn.of_below (hb : Below w.heap.size w w') : Tn T col w col w' := Tn.of_new (Fr.of_below hb (Nat.le_refl _))
theorem Tn.below (h : Tn T col w col' w') {s0 : Nat} (hs : s0 ≤ w.heap.size) (hc : ∀ k, k < s0 → ¬ T (col k)) : Below s0 w w' :=
  ⟨h.fr.os, h.fr.tape, h.fr.output, h.fr.size, fun k hk => h.fr.block k (by omega) (hc k hk)⟩
end
/-- The program's own, of one colour; the document's. -/
structure PF (col : Nat → Nat) (w : World) (a p : Nat) (F : Fs) : Prop where
  ok : F.Ok
  at_ : ∃ b V, FaAt w p b V F ∧ ∀ k, Foot p b V F k → col k = a
structure PR (col : Nat → Nat) (w : World) (a r : Nat) (F : Fs) : Prop where
  ok : F.Ok
  at_ : ∃ vL V, RfAt w r vL V F.q (F.U.map Ln.sm) F.R ∧ ∀ k, RFoot r vL V k → col k = a
section
variable {T : Nat → Prop} {col col' : Nat → Nat} {w w' : World} {a p r : Nat} {F F' : Fs}
theorem PF.kept (h : PF col w a p F) (t : Tn T col w col' w') (ha : ¬ T a) : PF col' w' a p F := by
  obtain ⟨k, b, V, hA, hf⟩ := h
  exact ⟨k, b, V, hA.kept t.fr (fun j hj => by rw [hf j hj]; exact ha), fun j hj => (t.col j (hA.lt hj)).trans (hf j hj)⟩
theorem PR.kept (h : PR col w a r F) (t : Tn T col w col' w') (ha : ¬ T a) : PR col' w' a r F := by
  obtain ⟨k, b, V, hA, hf⟩ := h
  exact ⟨k, b, V, hA.kept t.fr (fun j hj => by rw [hf j hj]; exact ha), fun j hj => (t.col j (hA.lt hj)).trans (hf j hj)⟩
theorem PF.below (h : PF col w a p F) (hb : Below w.heap.size w w') : PF col w' a p F := h.kept (T := fun _ => False) (Tn.of_below hb) (fun e => e)
theorem PR.below (h : PR col w a r F) (hb : Below w.heap.size w w') : PR col w' a r F := h.kept (T := fun _ => False) (Tn.of_below hb) (fun e => e)
def paint (col : Nat → Nat) (s a : Nat) : Nat → Nat := fun k => if k < s then col k else a
theorem Mv.pf {b : Nat} {V V' : Nat → Value} (m : Mv p b V F w V' F' w') (h : FaAt w p b V F) (hf : ∀ k, Foot p b V F k → col k = a) (k : F'.Ok) : PF (paint col w.heap.size a) w' a p F' ∧ Tn (fun t => t = a) col w (paint col w.heap.size a) w' := by
  refine ⟨⟨k, b, V', m.at_, fun j hj => ?_⟩, m.fr.wider (fun j hj => hf j hj), fun j hj => if_pos hj, fun g c t hr h1 h2 h3 _ _ => m.fr.row hr (h.other hr.at_ h1 h2 h3)⟩
  unfold paint
  split
  · rcases m.gr j hj with e | e
    · exact hf j e
    · omega
  · rfl
theorem RMv.pr {vL vL' : Value} {V V' : Nat → Value} {L : List Sm} {R R' : Nat → List Int} {q : Int} {L' : List Sm} (m : RMv r vL V w vL' V' q L' R' w') (h : RfAt w r vL V q L R) (hf : ∀ k, RFoot r vL V k → col k = a) (k : F'.Ok) (hq : q = F'.q) (hL : L' = F'.U.map Ln.sm) (hR : R' = F'.R) : PR (paint col w.heap.size a) w' a r F' ∧ Tn (fun t => t = a) col w (paint col w.heap.size a) w' := by
  subst hq hL hR
  refine ⟨⟨k, vL', V', m.at_, fun j hj => ?_⟩, m.fr.wider (fun j hj => hf j hj), fun j hj => if_pos hj, fun g c t hr _ _ h3 h4 h5 => m.fr.row hr (h.other hr h4 h5 h3)⟩
  unfold paint
  split
  · rcases m.gr j hj with e | e
    · exact hf j e
    · omega
  · rfl
end
/-! The lists. -/
theorem sm_len (U : List Ln) : (U.map Ln.sm).length = U.length := by simp
theorem sumS_sm (U : List Ln) : sumS (U.map Ln.sm) = waitL (fun _ => false) U := by
  induction U with
  | nil => rfl
  | cons x r ih => simp only [List.map_cons, sumS, ih, waitL]; rfl
theorem flatV_sm (U : List Ln) : flatV (U.map Ln.sm) = flatI U := by
  unfold flatV flatI
  rw [List.flatMap_map]
  rfl
theorem addE_sm (F : Fs) (id cls shr : Int) : raddE (F.U.map Ln.sm) id cls shr = F.addE id cls shr := by
  unfold raddE Fs.addE
  have e : (F.U.map Ln.sm).any (fun x => decide (x.num = id)) = (fnd F.U id).isSome := by
    unfold fnd
    rw [List.any_map, Bool.eq_iff_iff, List.find?_isSome, List.any_eq_true]
    rfl
  rw [e, sm_len]
theorem ins_at {y : Ln} : ∀ {U : List Ln} {i : Nat}, Rising U → i ≤ U.length → (∀ x ∈ U.drop i, y.num < x.num) → (∀ x, U[i - 1]? = some x → 0 < i → x.num < y.num) → ins y U = U.take i ++ y :: U.drop i
  | [], i, _, hi, _, _ => by obtain rfl : i = 0 := by simpa using hi
                             rfl
  | a :: r, 0, _, _, hd, _ => by
    have := hd a (by simp)
    unfold ins
    rw [if_pos this]
    rfl
  | a :: r, j + 1, h, hi, hd, hb => by
    obtain ⟨h1, h2⟩ := List.pairwise_cons.1 h
    have hj : j < (a :: r).length := hi
    have hx := hb (a :: r)[j] (by simp [List.getElem?_eq_getElem hj]) (by omega)
    have ha : a.num < y.num := by
      cases j with
      | zero => exact hx
      | succ j =>
        have hm : (a :: r)[j + 1] ∈ r := by
          rw [List.getElem_cons_succ]
          exact List.getElem_mem _
        have := h1 _ hm
        omega
    unfold ins
    rw [if_neg (by omega), ins_at (i := j) h2 (by simpa using hi) hd (fun x hx' hj0 => hb x (by
      rw [show j + 1 - 1 = (j - 1) + 1 by omega, List.getElem?_cons_succ]
      exact hx') (by omega))]
    rfl
theorem Rising.split {A B : List Ln} {x : Ln} (h : Rising (A ++ x :: B)) : (∀ a ∈ A, a.num ≠ x.num) ∧ ∀ b ∈ B, b.num ≠ x.num := by
  obtain ⟨_, h2, h3⟩ := List.pairwise_append.1 h
  obtain ⟨h4, _⟩ := List.pairwise_cons.1 h2
  exact ⟨fun a ha e => by have := h3 a ha x (by simp); omega, fun b hb e => by have := h4 b hb; omega⟩
theorem upd_at {A B : List Ln} {x : Ln} (h : Rising (A ++ x :: B)) (s : Ss) : upd (A ++ x :: B) x.num s = A ++ { x with s := s } :: B := by
  obtain ⟨h1, h2⟩ := h.split
  have e : ∀ {L : List Ln}, (∀ a ∈ L, a.num ≠ x.num) → upd L x.num s = L := fun {L} hL => by
    unfold upd
    exact (List.map_congr_left (fun a ha => if_neg (hL a ha))).trans (List.map_id' L)
  show List.map _ (A ++ x :: B) = _
  rw [List.map_append, List.map_cons, if_pos rfl]
  have e1 := e h1
  have e2 := e h2
  unfold upd at e1 e2
  rw [e1, e2]
theorem less_at {A B : List Ln} {x : Ln} (h : Rising (A ++ x :: B)) : less (A ++ x :: B) x.num = A ++ B := by
  obtain ⟨h1, h2⟩ := h.split
  unfold less
  rw [List.filter_append, List.filter_cons]
  simp only [ne_eq, not_true_eq_false, decide_false, Bool.false_eq_true, if_false]
  rw [List.filter_eq_self.2 (fun a ha => by simpa using h1 a ha), List.filter_eq_self.2 (fun a ha => by simpa using h2 a ha)]
theorem sm_next {F : Fs} {x : Ln} (most : Int) : x.sm.nx F.q most = ({ x with s := if (x.aft F.q most).wt = 0 ∨ (x.aft F.q most).cr = 0 then (x.aft F.q most).over else x.aft F.q most } : Ln).sm := by
  have e1 : x.sm.cr1 F.q = x.cr1 F.q := rfl
  have e2 : x.sm.tk F.q most = x.tk F.q most := rfl
  have e3 : x.sm.ov F.q most = true ↔ ((x.aft F.q most).wt = 0 ∨ (x.aft F.q most).cr = 0) := by
    unfold Sm.ov
    rw [e1, e2, Bool.or_eq_true, decide_eq_true_eq, decide_eq_true_eq]
    rfl
  unfold Sm.nx
  by_cases h : (x.aft F.q most).wt = 0 ∨ (x.aft F.q most).cr = 0
  · rw [if_pos h, if_pos (e3.2 h), e2]
    rfl
  · rw [if_neg h, if_neg (fun e => h (e3.1 e)), e1, e2]
    have : (x.aft F.q most).cr ≠ 0 := fun e => h (.inr e)
    show _ = Sm.mk _ _ _ _ _ (decide ((x.aft F.q most).cr ≠ 0))
    rw [decide_eq_true this]
    rfl
theorem R_next {F : Fs} {x : Ln} (most : Int) (T : List Int) : nxR x.sm F.q most F.R T = (F.next x most T).R := by
  have e1 : x.sm.cr1 F.q = x.cr1 F.q := rfl
  have e2 : x.sm.tk F.q most = x.tk F.q most := rfl
  have e3 : x.sm.ov F.q most = true ↔ ((x.aft F.q most).wt = 0 ∨ (x.aft F.q most).cr = 0) := by
    unfold Sm.ov
    rw [e1, e2, Bool.or_eq_true, decide_eq_true_eq, decide_eq_true_eq]
    rfl
  unfold nxR Fs.next
  by_cases h : (x.aft F.q most).wt = 0 ∨ (x.aft F.q most).cr = 0
  · rw [if_pos h, if_pos (e3.2 h), e2]
    rfl
  · rw [if_neg h, if_neg (fun e => h (e3.1 e))]
end Go.Proofs.Ytjeokomocopjhaa
