import Derived.Test.YtkhogbnoincbeabCu1
namespace Go.Proofs.Ytkhogbnoincbeab
open Go.RowKit Go.Maps Go.Sort
set_option maxRecDepth 100000

/-- A frame that may be, and its bytes. -/
def PF.fit (F : PF) : Prop := 0 ≤ F.s ∧ 0 ≤ F.n ∧ faultI F.k F.s F.n F.c F.h F.bs.length = 0
def PF.enc (F : PF) : List (BitVec 8) := encB F.k F.s F.n F.c F.h F.bs
theorem PF.fit.dec {F : PF} (h : F.fit) (m : List (BitVec 8)) : allA PF.zero (F.enc ++ m) = (0, F, m) := dec_enc h.1 h.2.1 h.2.2 m
def encs (Gs : List PF) : List (BitVec 8) := Gs.flatMap PF.enc
theorem encs_app (A B : List PF) : encs (A ++ B) = encs A ++ encs B := by simp [encs]
theorem Pr_encs : ∀ (Gs : List PF) (m : List (BitVec 8)), (∀ F ∈ Gs, F.fit) → Pr (encs Gs ++ m) = (Gs ++ (Pr m).1, (Pr m).2)
  | [], m, _ => rfl
  | F :: r, m, h => by
    have ih := Pr_encs r m (fun G hG => h G (by simp [hG]))
    have e := (h F (by simp)).dec (encs r ++ m)
    have e2 : encs (F :: r) ++ m = F.enc ++ (encs r ++ m) := by simp [encs]
    rw [e2, Pr_one (by rw [e]), e]
    simp only
    rw [ih]
    rfl
theorem Pr_all {Gs : List PF} (h : ∀ F ∈ Gs, F.fit) : Pr (encs Gs) = (Gs, 0, []) := by
  have := Pr_encs Gs [] h
  rw [List.append_nil, Pr_nil] at this
  simpa using this
theorem Pr_last {A : List PF} {F : PF} (h : ∀ G ∈ A ++ [F], G.fit) (hl : 1 ≤ F.enc.length) : Pr ((encs (A ++ [F])).take ((encs (A ++ [F])).length - 1)) = (A, 0, F.enc.take (F.enc.length - 1)) := by
  have hF := h F (by simp)
  have e1 : encs (A ++ [F]) = encs A ++ F.enc := by rw [encs_app]; simp [encs]
  rw [e1, List.length_append, show (encs A).length + F.enc.length - 1 = (encs A).length + (F.enc.length - 1) by omega, List.take_length_add_append, Pr_encs A _ (fun G hG => h G (by simp [hG]))]
  have hd := hF.dec []
  rw [List.append_nil] at hd
  obtain ⟨_, _, _, _, he⟩ := dec_one hd
  have hs : (allA PF.zero (F.enc.take (F.enc.length - 1))).1 = 174 := he.cut _ (by unfold PF.enc at hl ⊢; omega)
  rw [Pr_short hs]
  simp
theorem numB_one (n : Nat) : 1 ≤ (numB n).length := by
  unfold numB
  split <;> simp
theorem enc_two {F : PF} (h : F.fit) : 2 ≤ F.enc.length ∧ F.enc.length ≤ 60 + F.bs.length := by
  obtain ⟨h0, h1, h2⟩ := h
  obtain ⟨hk, hb, hl, _, _⟩ := faultI_zero h2
  unfold Big at hb
  have n1 : (numB F.s.toNat).length ≤ 9 := numB_len 8 _ (by omega)
  have n2 : (numB F.n.toNat).length ≤ 9 := numB_len 8 _ (by omega)
  have n3 : (numB F.bs.length).length ≤ 9 := numB_len 8 _ (by omega)
  have m1 := numB_one F.s.toNat
  have m2 := numB_one F.n.toNat
  have m3 := numB_one F.bs.length
  unfold PF.enc encB
  simp only [List.length_cons, List.length_append]
  by_cases hS : HasS F.k
  · rw [if_pos hS]
    refine ⟨by omega, ?_⟩
    have : (if F.k = 1 then [by8 F.c, by8 F.h] else if F.k = 2 then numB F.bs.length ++ F.bs else if HasN F.k then numB F.n.toNat else []).length ≤ 18 + F.bs.length := by
      split
      · simp only [List.length_cons, List.length_nil]; omega
      · split
        · rw [List.length_append]; omega
        · split
          · omega
          · simp
    omega
  · have hk2 : F.k = 7 ∨ F.k = 8 := by
      unfold HasS at hS
      omega
    have hN : HasN F.k := by
      unfold HasN
      omega
    rw [if_neg hS, if_neg (by omega), if_neg (by omega), if_pos hN]
    simp only [List.length_nil]
    omega
/-- A frame that was handed in: what it says, where its bytes lie. -/
structure Fi where
  F : PF
  ax : Option Addr
  cx : Nat
def Fi.v (f : Fi) : Value := .slice f.ax f.F.bs.length f.cx
structure FisAt (w : World) (a : Option Addr) (fs : List Fi) : Prop where
  at_ : ∀ i (h : i < fs.length), ∃ g o, a = some ⟨g, o, none⟩ ∧ ∀ j u, (pcells (fs[i].F, fs[i].v))[j]? = some u → w.cell? ⟨g, o + i * 6 + j, none⟩ = some u
  ok : ∀ f ∈ fs, BytesAt w f.ax f.F.bs ∧ (f.ax = none → f.cx = 0) ∧ 0 ≤ f.F.s ∧ 0 ≤ f.F.n
def tot : List Fi → Nat
  | [] => 0
  | f :: r => 60 + f.F.bs.length + tot r
theorem tot_app (a b : List Fi) : tot (a ++ b) = tot a + tot b := by
  induction a with
  | nil => simp [tot]
  | cons x a ih => simp only [List.cons_append, tot, ih]; omega
theorem tot_le (fs : List Fi) (k : Nat) : tot (fs.take k) ≤ tot fs := by
  conv => rhs; rw [← List.take_append_drop k fs, tot_app]
  omega
theorem tot_len (fs : List Fi) : fs.length ≤ tot fs := by
  induction fs with
  | nil => exact Nat.le_refl _
  | cons x r ih => simp only [List.length_cons, tot]; omega
/-- One more frame, in an own row. -/
theorem push25 {w : World} {B : Nat} {v : Value} {Ps : List (PF × Value)} (h : w.ownsRow B 41 6 v Ps.length (flatP Ps)) (hB : B ≤ w.heap.size) (hl : Ps.length ≤ 134217728) {x : PF × Value} {a : Option Addr} {n c : Nat} (hx : x.2 = .slice a n c) {bx : Nat} (hb : Row w bx (pcells x) 41) (ty : TypeId) :
    ∃ v' w', (Builtin.append_ #[53, 53] ty #[v, .slice (some ⟨bx, 0, none⟩) 1 1]).run Try.prog w = .ok v' w' ∧ w'.ownsRow B 41 6 v' (Ps ++ [x]).length (flatP (Ps ++ [x])) ∧ Fr (fun k => v.ownBlock = some k) w w' := by
  obtain ⟨i, h1, h2, h3, h4⟩ := info25
  obtain ⟨v', w', hr, ho, hg, _, ha⟩ := run_append_own_at (P := Try.prog) w B 53 ty 41 i _ 6 64 Try.underlying53 h1 h2 h3 h4 rfl (by decide) v Ps.length (flatP Ps) h ⟨bx, 0, none⟩ 1 1 (pcells x) rfl (fun j u hu => by
    rw [Addr.add_mid, Nat.zero_add]; exact hb.cell j u hu) (pcells_one hx) (by unfold maxLen; omega) (by omega) hB
  refine ⟨v', w', hr, ?_, Fr.of_grown hg (fun k e => .inl e)⟩
  rw [show (Ps ++ [x]).length = Ps.length + 1 by simp, flatP_app, show flatP [x] = pcells x by simp [flatP]]
  exact ho
/-- What the law has gathered of the first frames. -/
structure RoS (w : World) (fs : List Fi) (k : Nat) (s3 s4 : Value) (Gs : List PF) (W : World) : Prop where
  ob : OwnBy W w.heap.size s3 (encs Gs)
  ow : ∃ Ps, Ps.map (·.1) = Gs ∧ W.ownsRow w.heap.size 41 6 s4 Ps.length (flatP Ps) ∧ ∀ x ∈ Ps, ∃ ax cx, x.2 = .slice ax x.1.bs.length cx ∧ BytesAt w ax x.1.bs
  fit : ∀ F ∈ Gs, F.fit
  le : (encs Gs).length ≤ tot (fs.take k) ∧ Gs.length ≤ tot (fs.take k)
  be : Below w.heap.size w W
section
variable {w W W' : World} {fs : List Fi} {k : Nat} {s3 s4 : Value} {Gs : List PF}
theorem RoS.kept (h : RoS w fs k s3 s4 Gs W) (hb : Below W.heap.size W W') : RoS w fs k s3 s4 Gs W' := by
  obtain ⟨h1, ⟨Ps, p1, p2, p3⟩, h3, h4, h5⟩ := h
  exact ⟨own_below h1 hb, ⟨Ps, p1, own_below p2 hb, p3⟩, h3, h4, h5.trans (hb.mono h5.size)⟩
theorem RoS.skip (h : RoS w fs k s3 s4 Gs W) : RoS w fs (k + 1) s3 s4 Gs W := by
  obtain ⟨h1, h2, h3, h4, h5⟩ := h
  have : tot (fs.take k) ≤ tot (fs.take (k + 1)) := by
    have h := tot_le (fs.take (k + 1)) k
    rwa [List.take_take, Nat.min_eq_left (Nat.le_succ k)] at h
  exact ⟨h1, h2, h3, by omega, h5⟩
theorem RoS.look (h : RoS w fs k s3 s4 Gs W) : ∃ a c, s4 = .slice a Gs.length c ∧ LkA W a Gs := by
  obtain ⟨_, ⟨Ps, rfl, p2, p3⟩, _, _, hbe⟩ := h
  rcases p2.2 with ⟨rfl, e⟩ | ⟨g, cap, cur, rfl, _, hg, hnc, hcm, hcs, htk⟩
  · exact ⟨none, 0, by rw [List.length_map, e], fun i hi => absurd hi (by rw [List.length_map]; omega)⟩
  · refine ⟨_, cap, by rw [List.length_map], fun i hi => ?_⟩
    have hi' : i < Ps.length := by simpa using hi
    obtain ⟨ax, cx, e1, e2⟩ := p3 Ps[i] (List.getElem_mem hi')
    simp only [List.getElem_map]
    refine ⟨g, ax, cx, rfl, e2.kept hbe, fun j u hu => ?_⟩
    have hj : j < 6 := (List.getElem?_eq_some_iff.1 hu).1
    rw [cell_of_row W g _ _ _ _ hg, ← Array.getElem?_toList, ← List.getElem?_take_of_lt (by omega : i * 6 + j < Ps.length * 6), htk, flatP_at Ps i j hi' hj, ← hu]
    unfold pcells
    rw [e1]
end
end Go.Proofs.Ytkhogbnoincbeab
