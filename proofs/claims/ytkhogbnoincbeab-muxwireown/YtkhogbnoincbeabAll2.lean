import Derived.Test.YtkhogbnoincbeabAll1
namespace Go.Proofs.Ytkhogbnoincbeab
open Go.RowKit Go.Maps Go.Sort
set_option maxRecDepth 100000

theorem Rdr.frT {S : Nat → Prop} {B : Nat} {w w' : World} {q p : Nat} {v : Value} {all : List (BitVec 8)} {left : Nat} {at_ fault : Int} (H : Rdr B w q p v all left at_ fault) (hf : Fr S w w') (hS : ∀ x, S x → ∃ c, Row w x c 41) : Rdr B w' q p v all left at_ fault :=
  ⟨hf.row H.row (fun e => by obtain ⟨c, hr⟩ := hS _ e; have := row_type hr H.row; cases this), H.sc.fr hf (fun j hj e => by obtain ⟨c, hr⟩ := hS _ e; exact sc_type H.sc hj hr (by decide) (by decide)), hf.own H.own (fun x hx e => by obtain ⟨c, hr⟩ := hS _ e; have := own_type H.own hx hr; cases this), H.le, H.bq, H.bp⟩
theorem RdS.frT {S : Nat → Prop} {B : Nat} {w w' : World} {q p : Nat} {v : Value} {L : List (BitVec 8)} {at_ : Int} {M : Nat} (H : RdS B w q p v L at_ M) (hf : Fr S w w') (hS : ∀ x, S x → ∃ c, Row w x c 41) : RdS B w' q p v L at_ M := by
  obtain ⟨all, left, h1, h2, h3, h4⟩ := H
  exact ⟨all, left, h1.frT hf hS, h2, h3, h4⟩
theorem RdrF.frT {S : Nat → Prop} {B : Nat} {w w' : World} {q : Nat} {c0 : Value} {left : Nat} {at_ fault : Int} (H : RdrF B w q c0 left at_ fault) (hf : Fr S w w') (hS : ∀ x, S x → ∃ c, Row w x c 41) : RdrF B w' q c0 left at_ fault :=
  ⟨hf.row H.row (fun e => by obtain ⟨c, hr⟩ := hS _ e; have := row_type hr H.row; cases this), H.bq, H.bad⟩
/-- Where a Reader's blocks lie. -/
theorem RdS.ge {B : Nat} {w : World} {q p : Nat} {v : Value} {L : List (BitVec 8)} {at_ : Int} {M : Nat} (H : RdS B w q p v L at_ M) : B ≤ q ∧ B ≤ p ∧ ∀ x, v.ownBlock = some x → B ≤ x := by
  obtain ⟨all, left, h1, _⟩ := H
  exact ⟨h1.bq, h1.bp, fun x hx => own_ge h1.own hx⟩
/-- Rows that a Reader's calls turn are none of frames, and none of other bytes. -/
theorem RdS.no25 {B : Nat} {w : World} {q p : Nat} {v : Value} {L : List (BitVec 8)} {at_ : Int} {M : Nat} (H : RdS B w q p v L at_ M) {g : Nat} {c : List Value} (hr : Row w g c 41) : ¬ (g = q ∨ g = p ∨ v.ownBlock = some g) := by
  obtain ⟨all, left, h1, _⟩ := H
  rintro (rfl | rfl | e)
  · have := row_type hr h1.row
    cases this
  · have := row_type hr h1.sc.row
    cases this
  · have := own_type h1.own e hr
    cases this
theorem RdS.no5 {B : Nat} {w : World} {q p : Nat} {v : Value} {L : List (BitVec 8)} {at_ : Int} {M : Nat} (H : RdS B w q p v L at_ M) {g : Nat} {c : List Value} (hr : Row w g c 5) (hn : v.ownBlock ≠ some g) : ¬ (g = q ∨ g = p ∨ v.ownBlock = some g) := by
  obtain ⟨all, left, h1, _⟩ := H
  rintro (rfl | rfl | e)
  · have := row_type hr h1.row
    cases this
  · have := row_type hr h1.sc.row
    cases this
  · exact hn e
/-- Frames and their bytes stay when a Reader is turned. -/
theorem FrV.by {B : Nat} {w w' : World} {q p : Nat} {v s9 : Value} {L : List (BitVec 8)} {at_ : Int} {M : Nat} {Ps : List (PF × Value)} (h : FrV w B s9 Ps) (H : RdS B w q p v L at_ M) (ap : ∀ x ∈ Ps, ∀ g, x.2.ownBlock = some g → v.ownBlock ≠ some g) (hf : Fr (fun x => x = q ∨ x = p ∨ v.ownBlock = some x) w w') : FrV w' B s9 Ps :=
  h.fr hf (fun _ _ hr => H.no25 hr) (fun x hx g hg => H.no5 ((h.dt x hx).lt hg).2 (ap x hx g hg))
theorem Pr_add {T L bs : List (BitVec 8)} {G : List PF} (h : Pr T = (G ++ (Pr L).1, (Pr L).2)) : Pr (T ++ bs) = (G ++ (Pr (L ++ bs)).1, (Pr (L ++ bs)).2) := by
  rw [Pr_more _ T bs (Nat.lt_succ_self _), Pr_more _ L bs (Nat.lt_succ_self _), h]
  simp only
  split
  · rw [List.append_assoc]
  · rfl
theorem Pr_adf {T bs R : List (BitVec 8)} {G : List PF} {er : Int} (he : ¬ er = 0) (h : Pr T = (G, er, R)) : Pr (T ++ bs) = (G, er, R ++ bs) := by
  rw [Pr_more _ T bs (Nat.lt_succ_self _), h]
  simp only
  rw [if_neg he]
section
variable {B q p : Nat} {T : List (BitVec 8)} {X Y : Prop} {s9 s10 : Value} {W W' : World}
def slen : Value → Nat
  | .slice _ n _ => n
  | _ => 0
theorem FrV.slen {Ps : List (PF × Value)} (h : FrV W B s9 Ps) : slen s9 = Ps.length := by
  rcases h.own.2 with ⟨rfl, e⟩ | ⟨g, cap, cur, rfl, _⟩
  · exact e.symm
  · rfl
theorem AS.mono (h : AS B q p T X s9 s10 W) (hX : Y → X) : AS B q p T Y s9 s10 W := by
  obtain ⟨hB, Ps, h1, h2, h3⟩ := h
  refine ⟨hB, Ps, h1, h2, ?_⟩
  rcases h3 with ⟨vr, L, k1, k2, k3, k4, k5, k6, k7⟩ | h3
  · exact .inl ⟨vr, L, k1, k2, k3, k4, k5, k6, fun y => k7 (hX y)⟩
  · exact .inr h3
theorem AS.kept (h : AS B q p T X s9 s10 W) (hb : Below W.heap.size W W') : AS B q p T X s9 s10 W' := by
  obtain ⟨hB, Ps, h1, h2, h3⟩ := h
  refine ⟨Nat.le_trans hB hb.size, Ps, h1.kept hb, h2, ?_⟩
  rcases h3 with ⟨vr, L, k1, k2, k3, k4, k5, k6, k7⟩ | ⟨er, R, lf, k1, k2, k3, k4, k5⟩
  · exact .inl ⟨vr, L, k1, k2.kept hb, k3, k4, k5, k6, k7⟩
  · exact .inr ⟨er, R, lf, k1, k2, k3.kept hb, k4, k5⟩
/-- A piece is written. -/
theorem as_write (h : AS B q p T X s9 s10 W) {ax : Option Addr} {n c : Nat} {bs : List (BitVec 8)} (hz : ax = none → c = 0) (hn : bs.length = n) (hB : BytesAt W ax bs) (hl : T.length + n ≤ 67108864) :
    Calls Try.prog 7 #[.pointer (some ⟨q, 0, none⟩), .slice ax n c] W fun e w' => e = .returned (.tuple #[]) ∧ AS B q p (T ++ bs) False s9 s10 w' ∧ Fr (fun x => B ≤ x) W w' := by
  obtain ⟨hBW, Ps, h1, h2, h3⟩ := h
  rcases h3 with ⟨vr, L, k1, k2, k3, k4, k5, k6, k7⟩ | ⟨er, R, lf, k1, k2, k3, k4, k5⟩
  · refine (rds_write k2 hz hn hB (by omega)).mono ?_
    rintro e w' ⟨rfl, v', m1, m2, m3⟩
    have m2' := m2.wider (T := fun x => x = q ∨ x = p ∨ vr.ownBlock = some x) (fun x e => e.imp id .inr)
    have hg := k2.ge
    refine ⟨rfl, ⟨Nat.le_trans hBW m2.size, Ps, h1.by k2 k6 m2', by rw [List.length_append]; omega, .inl ⟨v', L ++ bs, k1, ?_, by simp only [List.length_append]; omega, by simp only [List.length_append]; omega, Pr_add k5, fun x hx g hg' e => ?_, fun f => f.elim⟩⟩, m2.wider (fun x e => ?_)⟩
    · rw [List.length_append, List.length_append, hn, show T.length + n - (L.length + n) = T.length - L.length by omega]
      exact m1
    · rcases m3 with m3 | m3
      · exact k6 x hx g hg' (by rw [← m3]; exact e)
      · rw [m3] at e
        injection e with e
        have := ((h1.dt x hx).lt hg').1
        omega
    · rcases e with rfl | e
      · exact hg.1
      · exact hg.2.2 x e
  · refine (writeF_any k3 _).mono ?_
    rintro e w' ⟨rfl, rfl⟩
    refine ⟨rfl, ⟨hBW, Ps, h1, by rw [List.length_append]; omega, .inr ⟨er, R ++ bs, lf, k1, k2, ?_, by simp only [List.length_append]; omega, Pr_adf k1 k5⟩⟩, Fr.refl _ _⟩
    rw [List.length_append, List.length_append, show T.length + bs.length - (R.length + bs.length) = T.length - R.length by omega]
    exact k3
/-- A frame that was read and is not in the row yet. -/
def Pend (B : Nat) (q p : Nat) (T : List (BitVec 8)) (s9 s10 : Value) (F : PF) (d : Value) (W : World) : Prop :=
  B ≤ W.heap.size ∧ s10 = .int .i64 0 ∧ ∃ Ps vr L, FrV W B s9 Ps ∧ Dt W B d F.bs ∧ RdS B W q p vr L ((T.length - L.length : Nat) : Int) T.length ∧ Ps.length + 1 + L.length ≤ T.length ∧ Pr T = (Ps.map (·.1) ++ F :: (Pr L).1, (Pr L).2) ∧ (∀ x ∈ Ps, ∀ g, x.2.ownBlock = some g → vr.ownBlock ≠ some g) ∧ (∀ g, d.ownBlock = some g → vr.ownBlock ≠ some g) ∧ ∀ x ∈ Ps, ∀ g, x.2.ownBlock = some g → d.ownBlock ≠ some g
theorem Pend.kept {F : PF} {d : Value} (h : Pend B q p T s9 s10 F d W) (hb : Below W.heap.size W W') : Pend B q p T s9 s10 F d W' := by
  obtain ⟨hB, h0, Ps, vr, L, h1, h2, h3, h4⟩ := h
  exact ⟨Nat.le_trans hB hb.size, h0, Ps, vr, L, h1.kept hb, h2.frT (S := fun _ => False) (Fr.of_below hb (Nat.le_refl _)) (fun _ _ _ _ e => e), h3.kept hb, h4⟩
/-- It is laid behind the others. -/
theorem Pend.push {F : PF} {d : Value} (h : Pend B q p T s9 s10 F d W) (hT : T.length ≤ 67108864) {bx : Nat} (hb : Row W bx (pcells (F, d)) 41) (ty : TypeId) :
    ∃ v' w', (Builtin.append_ #[53, 53] ty #[s9, .slice (some ⟨bx, 0, none⟩) 1 1]).run Try.prog W = .ok v' w' ∧ AS B q p T False v' s10 w' ∧ Fr (fun x => B ≤ x) W w' ∧ slen v' = slen s9 + 1 ∧ slen s9 ≤ T.length := by
  obtain ⟨hB, h0, Ps, vr, L, h1, h2, h3, h4, h5, h6, h7, h8⟩ := h
  obtain ⟨a, n, c, hd⟩ := h2.shape
  obtain ⟨v', w', hr, ho, hf, a', c', ev⟩ := push_fr h1 hB (by omega) (x := (F, d)) hd hb ty
  have hS : ∀ x, s9.ownBlock = some x → ∃ c, Row W x c 41 := fun x hx => own_row25 h1.own hx
  have h5no : ∀ {g : Nat} {c : List Value}, Row W g c 5 → ¬ s9.ownBlock = some g := fun {g c} hr e => by
    obtain ⟨c', hr'⟩ := hS g e
    have := row_type hr hr'
    cases this
  refine ⟨v', w', hr, ⟨Nat.le_trans hB hf.size, Ps ++ [(F, d)], ⟨ho, fun x hx => ?_, List.pairwise_append.2 ⟨h1.ap, List.pairwise_singleton _ _, fun x hx y hy g e => by rw [List.mem_singleton] at hy; subst hy; exact h8 x hx g e⟩⟩, by simp; omega, .inl ⟨vr, L, h0, h3.frT hf hS, by omega, by simp; omega, ?_, fun x hx g hg => ?_, fun f => f.elim⟩⟩, hf.wider (fun x hx => own_ge h1.own hx), by rw [h1.slen, ev]; simp [slen], by rw [h1.slen]; omega⟩
  · rcases List.mem_append.1 hx with hx | hx
    · exact (h1.dt x hx).frT hf (fun g c hr _ => h5no hr)
    · rw [List.mem_singleton] at hx
      subst hx
      exact h2.frT hf (fun g c hr _ => h5no hr)
  · rw [h5]
    simp
  · rcases List.mem_append.1 hx with hx | hx
    · exact h6 x hx g hg
    · rw [List.mem_singleton] at hx
      subst hx
      exact h7 g hg
/-- Next, three ways: which one is known ahead. -/
theorem as_next (h : AS B q p T X s9 s10 W) (hT : T.length ≤ 67108864) :
    (∃ F : PF, Calls Try.prog 10 #[.pointer (some ⟨q, 0, none⟩)] W fun e w' => Fr (fun x => B ≤ x) W w' ∧ ∃ (a9 : Option Addr) (n9 c9 : Nat), e = .returned (.tuple #[.agg #[.int .i64 F.k, .int .u64 F.s, .int .u64 F.n, .int .i64 F.c, .int .i64 F.h, .slice a9 n9 c9], .bool true, .int .i64 0]) ∧ Pend B q p T s9 s10 F (.slice a9 n9 c9) w') ∨
    (Calls Try.prog 10 #[.pointer (some ⟨q, 0, none⟩)] W fun e w' => Fr (fun x => B ≤ x) W w' ∧ e = .returned (.tuple #[zfr, .bool false, .int .i64 0]) ∧ AS B q p T True s9 s10 w') ∨
    ∃ er : Int, ¬ er = 0 ∧ Calls Try.prog 10 #[.pointer (some ⟨q, 0, none⟩)] W fun e w' => Fr (fun x => B ≤ x) W w' ∧ e = .returned (.tuple #[zfr, .bool false, .int .i64 er]) ∧ AS B q p T True s9 (.int .i64 er) w' := by
  obtain ⟨hBW, Ps, h1, h2, h3⟩ := h
  rcases h3 with ⟨vr, L, k1, k2, k3, k4, k5, k6, k7⟩ | ⟨er, R, lf, k1, k2, k3, k4, k5⟩
  · have hg := k2.ge
    have hN := rds_next k2 (by omega) (by omega)
    have hw : ∀ {w' : World}, Fr (fun x => x = q ∨ x = p ∨ vr.ownBlock = some x) W w' → Fr (fun x => B ≤ x) W w' := fun m4 => m4.wider (fun x e => by rcases e with rfl | rfl | e; exact hg.1; exact hg.2.1; exact hg.2.2 x e)
    by_cases c0 : (allA PF.zero L).1 = 0
    · refine .inl ⟨takeG L, hN.mono ?_⟩
      rintro e w' (⟨m0, a9, n9, c9, v', rfl, m1, m2, m3, m4⟩ | ⟨m0, rfl, m1, m4⟩ | ⟨m0, m0', rfl, m1, m4⟩)
      · have hp := A_pos m0
        refine ⟨hw m4, a9, n9, c9, rfl, Nat.le_trans hBW m4.size, k1, Ps, v', (allA PF.zero L).2.2, h1.by k2 k6 m4, m1.less hBW, ?_, by omega, ?_, fun x hx g hg' => by rw [m2]; exact k6 x hx g hg', fun g hg' e => ?_, fun x hx g hg' e => ?_⟩
        · have e1 : ((T.length - (allA PF.zero L).2.2.length : Nat) : Int) = ((T.length - L.length : Nat) : Int) + ((L.length - (allA PF.zero L).2.2.length : Nat) : Int) := by omega
          rw [e1]
          exact m3
        · rw [k5, Pr_one m0]
          unfold takeG
          rw [if_pos m0]
        · rw [m2] at e
          have h8 := m1.new hg'
          obtain ⟨all, left, r1, _⟩ := k2
          have := own_lt' r1.own e
          omega
        · have h8 := m1.new e
          have h9 := ((h1.dt x hx).lt hg').1
          omega
      · rw [c0] at m0; cases m0
      · exact absurd c0 m0
    · by_cases c1 : (allA PF.zero L).1 = 174
      · refine .inr (.inl (hN.mono ?_))
        rintro e w' (⟨m0, a9, n9, c9, v', rfl, m1, m2, m3, m4⟩ | ⟨m0, rfl, m1, m4⟩ | ⟨m0, m0', rfl, m1, m4⟩)
        · exact absurd m0 c0
        · exact ⟨hw m4, rfl, Nat.le_trans hBW m4.size, Ps, h1.by k2 k6 m4, h2, .inl ⟨vr, L, k1, m1, k3, k4, k5, k6, fun _ => m0⟩⟩
        · exact absurd c1 m0'
      · refine .inr (.inr ⟨_, c0, hN.mono ?_⟩)
        rintro e w' (⟨m0, a9, n9, c9, v', rfl, m1, m2, m3, m4⟩ | ⟨m0, rfl, m1, m4⟩ | ⟨m0, m0', rfl, m1, m4⟩)
        · exact absurd m0 c0
        · exact absurd m0 c1
        · refine ⟨hw m4, rfl, Nat.le_trans hBW m4.size, Ps, h1.by k2 k6 m4, h2, .inr ⟨_, L, L.length, m0, rfl, m1, k3, ?_⟩⟩
          rw [k5, Pr_bad m0 m0']
          simp
  · refine .inr (.inr ⟨er, k1, (nextF_any k3).mono ?_⟩)
    rintro e w' ⟨rfl, hb⟩
    exact ⟨Fr.of_below hb (Nat.le_refl _), rfl, Nat.le_trans hBW hb.size, Ps, h1.kept hb, h2, .inr ⟨er, R, lf, k1, rfl, k3.kept hb, k4, k5⟩⟩
/-- At and Left, once nothing more can be read. -/
theorem as_at (h : AS B q p T X s9 s10 W) (hX : X) : Calls Try.prog 13 #[.pointer (some ⟨q, 0, none⟩)] W fun e w' => e = .returned (.int .u64 ((T.length - (Pr T).2.2.length : Nat) : Int)) ∧ w' = W := by
  obtain ⟨hBW, Ps, h1, h2, h3⟩ := h
  rcases h3 with ⟨vr, L, k1, ⟨all, left, r1, r2⟩, k3, k4, k5, k6, k7⟩ | ⟨er, R, lf, k1, k2, k3, k4, k5⟩
  · rw [k5, Pr_short (k7 hX)]
    exact rat_any r1
  · rw [k5]
    exact ratF_any k3
theorem as_left (h : AS B q p T X s9 s10 W) (hX : X) : ∃ lf : Nat, ((Pr T).2.1 = 0 → lf = (Pr T).2.2.length) ∧ Calls Try.prog 14 #[.pointer (some ⟨q, 0, none⟩)] W fun e w' => e = .returned (.int .i64 (lf : Int)) ∧ w' = W := by
  obtain ⟨hBW, Ps, h1, h2, h3⟩ := h
  rcases h3 with ⟨vr, L, k1, ⟨all, left, r1, r2, r3, r4⟩, k3, k4, k5, k6, k7⟩ | ⟨er, R, lf, k1, k2, k3, k4, k5⟩
  · refine ⟨left, fun _ => ?_, rleft_any r1⟩
    rw [k5, Pr_short (k7 hX)]
    exact r3
  · refine ⟨lf, fun e => ?_, rleftF_any k3⟩
    rw [k5] at e
    exact absurd e k1
theorem AS.fin (h : AS B q p T X s9 s10 W) (hX : X) : s10 = .int .i64 (Pr T).2.1 ∧ ∃ Ps, FrV W B s9 Ps ∧ Ps.map (·.1) = (Pr T).1 := by
  obtain ⟨hBW, Ps, h1, h2, h3⟩ := h
  rcases h3 with ⟨vr, L, k1, r1, k3, k4, k5, k6, k7⟩ | ⟨er, R, lf, k1, k2, k3, k4, k5⟩
  · rw [k5, Pr_short (k7 hX)]
    exact ⟨k1, Ps, h1, by simp⟩
  · rw [k5]
    exact ⟨k2, Ps, h1, rfl⟩
theorem AS.slen (h : AS B q p T X s9 s10 W) : slen s9 ≤ T.length := by
  obtain ⟨_, Ps, h1, h2, _⟩ := h
  rw [h1.slen]
  exact h2
end
end Go.Proofs.Ytkhogbnoincbeab
