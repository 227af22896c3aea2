import Derived.Test.YtjeokomocopjhaaRf3
namespace Go.Proofs.Ytjeokomocopjhaa
open Go.RowKit Go.Maps
set_option maxRecDepth 100000

theorem info71 : ∃ i : TypeInfo, Try.prog.info? 71 = some i ∧ i.zero = some (.agg #[.int .u64 0, .int .i64 0, .int .i64 0, .int .i64 0, .int .i64 0, .bool false]) ∧ i.size = 6 ∧ i.bytes = 48 := by
  have h : (Try.prog.info? 71).map (fun i => (i.zero, i.size, i.bytes)) = some (some (.agg #[.int .u64 0, .int .i64 0, .int .i64 0, .int .i64 0, .int .i64 0, .bool false]), 6, 48) := by kernel_rfl
  cases hq : Try.prog.info? 71 with
  | none => rw [hq] at h; cases h
  | some i => rw [hq] at h; simp at h; exact ⟨i, rfl, h.1, h.2.1, h.2.2⟩
/-- Streams behind the list. -/
theorem app_run {w : World} {base : Nat} {v : Value} {l m : List Sm} {ad : Addr} {k c : Nat} (hk : m.length = k) (h : w.ownsRow base 71 6 v l.length (flatS l)) (hbase : base ≤ w.heap.size) (hl : l.length + k ≤ 4096) (hb : ∀ j u, (flatS m)[j]? = some u → w.cell? (ad.add j) = some u) (ty : TypeId) :
    ∃ v' w', (Builtin.append_ #[64, 64] ty #[v, .slice (some ad) k c]).run Try.prog w = .ok v' w' ∧ w'.ownsRow base 71 6 v' (l ++ m).length (flatS (l ++ m)) ∧ w.grownBy w' v.ownBlock ∧ ∀ g, v'.ownBlock = some g → v.ownBlock = some g ∨ w.heap.size ≤ g := by
  subst hk
  obtain ⟨i, h1, h2, h3, h4⟩ := info71
  obtain ⟨v', w', hr, ho, hg, _, ha⟩ := run_append_own_at (P := Try.prog) w base 64 ty 71 i _ 6 48 Try.underlying64 h1 h2 h3 h4 rfl (by decide) v l.length (flatS l) h ad m.length c (flatS m) (flatS_len m) hb (flatS_one m) (by unfold maxLen; omega) (by omega) hbase
  refine ⟨v', w', hr, ?_, hg, fun g e => ?_⟩
  · rw [← flatS_app] at ho
    rw [show (l ++ m).length = l.length + m.length by simp]
    exact ho
  · rcases ha with e' | e'
    · exact .inl (e' ▸ e)
    · rw [e'] at e
      injection e with e
      exact .inr (Nat.le_of_eq e)
/-- A row of streams is a slice of their number. -/
theorem lst_sl {w : World} {base : Nat} {v : Value} {L : List Sm} (h : w.ownsRow base 71 6 v L.length (flatS L)) : ∃ a cap, v = .slice a L.length cap := by
  obtain ⟨_, ⟨rfl, hn⟩ | ⟨g, cap, cur, rfl, _⟩⟩ := h
  · exact ⟨none, 0, by rw [hn]⟩
  · exact ⟨_, cap, rfl⟩
theorem lst_base {w : World} {base : Nat} {v : Value} {n : Nat} {xs : List Value} (h : w.ownsRow base 71 6 v n xs) : w.ownsRow 0 71 6 v n xs :=
  ⟨h.1, h.2.imp id fun ⟨g, cap, cur, h1, _, h3⟩ => ⟨g, cap, cur, h1, Nat.zero_le _, h3⟩⟩
theorem lst_new {w : World} {base : Nat} {v : Value} {n : Nat} {xs : List Value} (h : w.ownsRow base 71 6 v n xs) {g : Nat} (e : v.ownBlock = some g) : base ≤ g := by
  obtain ⟨_, ⟨rfl, _⟩ | ⟨g', cap, cur, rfl, hb, _⟩⟩ := h
  · cases e
  · cases e; exact hb
/-- The list without one of its streams, in a row of its own. -/
theorem rem_lists {w : World} {r g n cap : Nat} {V : Nat → Value} {q : Int} {A B : List Sm} {x : Sm} {R : Nat → List Int} (h : RfAt w r (.slice (some ⟨g, 0, none⟩) n cap) V q (A ++ x :: B) R) (hl : (A ++ x :: B).length ≤ 2048) {T : Addr} (hT : B ≠ [] → T = ⟨g, (A.length + 1) * 6, none⟩) (ca cb : Nat) :
    ∃ v1 w1 v2 w2, (Builtin.append_ #[64, 64] 64 #[.slice none 0 0, .slice (some ⟨g, 0, none⟩) A.length ca]).run Try.prog w = .ok v1 w1 ∧ (Builtin.append_ #[64, 64] 64 #[v1, .slice (some T) B.length cb]).run Try.prog w1 = .ok v2 w2 ∧ (∃ a c, v1 = .slice a A.length c) ∧ (∃ a c, v2 = .slice a (A ++ B).length c) ∧
      w1.cell? ⟨r, 1, none⟩ = some (.slice (some ⟨g, 0, none⟩) n cap) ∧ w2.cell? ⟨r, 1, none⟩ = some (.slice (some ⟨g, 0, none⟩) n cap) ∧ w2.frozen? ⟨r, 1, none⟩ = false ∧ RMv r (.slice (some ⟨g, 0, none⟩) n cap) V w v2 V q (A ++ B) R (w2.setCell ⟨r, 1, none⟩ v2) := by
  have hlA : A.length + B.length + 1 ≤ 2048 := by simp at hl; omega
  have hc : ∀ j u, (flatS (A ++ x :: B))[j]? = some u → w.cell? ⟨g, j, none⟩ = some u := by
    rcases lst_shape h.lst with ⟨e, _⟩ | ⟨g', cap', e, _, _, _, hc, _⟩
    · cases e
    · cases e; exact hc
  have hsp : flatS (A ++ x :: B) = flatS A ++ (flatS [x] ++ flatS B) := by
    rw [show A ++ x :: B = A ++ ([x] ++ B) by simp, flatS_app, flatS_app]
  have e0 : w.ownsRow w.heap.size 71 6 (.slice none 0 0) ([] : List Sm).length (flatS []) := ⟨rfl, .inl ⟨rfl, rfl⟩⟩
  obtain ⟨v1, w1, r1, o1, g1, n1⟩ := app_run (l := []) (m := A) (ad := ⟨g, 0, none⟩) (c := ca) rfl e0 (Nat.le_refl _) (by simp; omega) (fun j u hu => by
    rw [Addr.add_mid, Nat.zero_add]
    refine hc j u ?_
    rw [hsp, List.getElem?_append_left (List.getElem?_eq_some_iff.1 hu).1]
    exact hu) 64
  rw [List.nil_append] at o1
  have hF1 : Fr (fun _ => False) w w1 := Fr.of_grown g1 (fun k e => by cases e)
  have h1 := h.kept hF1 (fun _ _ e => e)
  have hc1 : ∀ j u, (flatS (A ++ x :: B))[j]? = some u → w1.cell? ⟨g, j, none⟩ = some u := by
    rcases lst_shape h1.lst with ⟨e, _⟩ | ⟨g', cap', e, _, _, _, hc, _⟩
    · cases e
    · cases e; exact hc
  obtain ⟨v2, w2, r2, o2, g2, n2⟩ := app_run (l := A) (m := B) (ad := T) (c := cb) rfl o1 hF1.size (by omega) (fun j u hu => by
    have hB : B ≠ [] := fun e => by subst e; simp [flatS] at hu
    rw [hT hB, Addr.add_mid]
    refine hc1 _ u ?_
    rw [hsp, List.getElem?_append_right (by rw [flatS_len]; omega), flatS_len, List.getElem?_append_right (by rw [flatS_len]; simp; omega), flatS_len]
    rw [show (A.length + 1) * 6 + j - A.length * 6 - [x].length * 6 = j by simp; omega]
    exact hu) 64
  have hF2 : Fr (fun k => w.heap.size ≤ k) w1 w2 := Fr.of_grown g2 (fun k e => .inl (lst_new o1 e))
  have hF : Fr (fun _ => False) w w2 := hF1.trans hF2 (fun k e => .inr e)
  have h2 := h.kept hF (fun _ _ e => e)
  refine ⟨v1, w1, v2, w2, r1, r2, lst_sl o1, lst_sl o2, h1.row.cell 1 _ rfl, h2.row.cell 1 _ rfl, h2.row.frozen 1, ?_⟩
  exact h.lay (hF.wider (fun _ e => e.elim)) (lst_base o2) (fun g' e => .inr (lst_new o2 e))
end Go.Proofs.Ytjeokomocopjhaa
