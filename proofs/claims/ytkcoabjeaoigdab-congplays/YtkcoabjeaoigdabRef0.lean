import Derived.Test.YtkcoabjeaoigdabAcked2
import Derived.Test.YtkcoabjeaoigdabNew
import Derived.Test.YtkcoabjeaoigdabLoss
namespace Go.Proofs.Ytkcoabjeaoigdab
open Go.RowKit
set_option maxRecDepth 100000

theorem Row.ne {w : World} {g g' : Nat} {c c' : List Value} {t t' : TypeId} (h : Row w g c t) (k : Row w g' c' t') (hne : t ≠ t') : g ≠ g' := by
  rintro rfl
  have := h.at_.symm.trans k.at_
  simp only [Option.some.injEq, Obj.cells.injEq] at this
  exact hne this.2.1
theorem GAt.ne {w : World} {g n b : Nat} {D : Nat → Ln} {c : List Value} {t : TypeId} (h : GAt w g n D) (R : Row w b c t) (ht : t ≠ 44) : b ≠ g := by
  obtain ⟨⟨c, hr, _⟩, _, _⟩ := h
  exact R.ne hr ht
theorem winD_in {D : Nat → Ln} {n k : Nat} (hk : k < n) : winD D n k = ((D k).c, (D k).t) := by
  unfold winD
  rw [if_pos (by omega)]
  simp
theorem ackedD_in {D : Nat → Ln} {n k : Nat} (hk : k < n) (F : Int) : ackedD D n k F = ackD n k F.toNat D := by
  unfold ackedD
  rw [if_pos (by omega)]
  simp
theorem growD_at (D : Nat → Ln) (n k : Nat) : growD D n k k = { D k with c := upc D n k } := upd_at _ _ _
theorem iw64 (x : Int) : IntKind.i64.wrap x = wrap64 x := wr x
/-- The document's paths, as cells. -/
structure RCells (n : Nat) (D : Nat → Ln) (c : List Value) : Prop where
  len : n * 4 ≤ c.length
  ac : ∀ k, k < n → c[k * 4]? = some (.int .i64 (D k).c)
  at_ : ∀ k, k < n → c[k * 4 + 1]? = some (.int .i64 (D k).t)
  aon : ∀ k, k < n → c[k * 4 + 2]? = some (.bool (D k).on)
  ar : ∀ k, k < n → c[k * 4 + 3]? = some (.int .u64 (D k).r)
section
variable {n : Nat} {D : Nat → Ln} {c : List Value} {k : Nat}
theorem RCells.set_c (h : RCells n D c) (hk : k < n) (x : Int) : RCells n (upd D k { D k with c := x }) (c.set (k * 4) (.int .i64 x)) := by
  obtain ⟨h0, h1, h2, h3, h4⟩ := h
  refine ⟨by simpa using h0, fun j hj => ?_, fun j hj => ?_, fun j hj => ?_, fun j hj => ?_⟩
  all_goals (try (by_cases e : j = k))
  all_goals (try subst e)
  all_goals (first | rw [upd_at] | rw [upd_off _ _ _ _ e] | skip)
  all_goals (rw [List.getElem?_set]; first | (rw [if_neg (by omega)]; simp only [h1 j hj, h2 j hj, h3 j hj, h4 j hj]) | (rw [if_pos rfl, if_pos (by omega)]))
theorem RCells.set_t (h : RCells n D c) (hk : k < n) (x : Int) : RCells n (upd D k { D k with t := x }) (c.set (k * 4 + 1) (.int .i64 x)) := by
  obtain ⟨h0, h1, h2, h3, h4⟩ := h
  refine ⟨by simpa using h0, fun j hj => ?_, fun j hj => ?_, fun j hj => ?_, fun j hj => ?_⟩
  all_goals (try (by_cases e : j = k))
  all_goals (try subst e)
  all_goals (first | rw [upd_at] | rw [upd_off _ _ _ _ e] | skip)
  all_goals (rw [List.getElem?_set]; first | (rw [if_neg (by omega)]; simp only [h1 j hj, h2 j hj, h3 j hj, h4 j hj]) | (rw [if_pos rfl, if_pos (by omega)]))
theorem RCells.set_on (h : RCells n D c) (hk : k < n) (x : Bool) : RCells n (upd D k { D k with on := x }) (c.set (k * 4 + 2) (.bool x)) := by
  obtain ⟨h0, h1, h2, h3, h4⟩ := h
  refine ⟨by simpa using h0, fun j hj => ?_, fun j hj => ?_, fun j hj => ?_, fun j hj => ?_⟩
  all_goals (try (by_cases e : j = k))
  all_goals (try subst e)
  all_goals (first | rw [upd_at] | rw [upd_off _ _ _ _ e] | skip)
  all_goals (rw [List.getElem?_set]; first | (rw [if_neg (by omega)]; simp only [h1 j hj, h2 j hj, h3 j hj, h4 j hj]) | (rw [if_pos rfl, if_pos (by omega)]))
theorem RCells.set_r (h : RCells n D c) (hk : k < n) (x : Int) : RCells n (upd D k { D k with r := x }) (c.set (k * 4 + 3) (.int .u64 x)) := by
  obtain ⟨h0, h1, h2, h3, h4⟩ := h
  refine ⟨by simpa using h0, fun j hj => ?_, fun j hj => ?_, fun j hj => ?_, fun j hj => ?_⟩
  all_goals (try (by_cases e : j = k))
  all_goals (try subst e)
  all_goals (first | rw [upd_at] | rw [upd_off _ _ _ _ e] | skip)
  all_goals (rw [List.getElem?_set]; first | (rw [if_neg (by omega)]; simp only [h1 j hj, h2 j hj, h3 j hj, h4 j hj]) | (rw [if_pos rfl, if_pos (by omega)]))
end
/-- The document's group at block r, its paths' row at q. -/
structure RAt (w : World) (r q n : Nat) (D : Nat → Ln) : Prop where
  hd : ∃ cap, Row w r [.slice (some ⟨q, 0, none⟩) n cap] 35
  row : ∃ c, Row w q c 37 ∧ RCells n D c
  ge : 1 ≤ n
  le : n ≤ 8
  ok : ∀ k, k < n → (D k).Ok
section
variable {w w' : World} {r q n k : Nat} {D : Nat → Ln}
theorem RAt.kept (h : RAt w r q n D) (hb : Below w.heap.size w w') : RAt w' r q n D := by
  obtain ⟨⟨cap, h0⟩, ⟨c, hr, hc⟩, h1, h2, h3⟩ := h
  exact ⟨⟨cap, h0.kept hb h0.lt⟩, ⟨c, hr.kept hb hr.lt, hc⟩, h1, h2, h3⟩
theorem RAt.drawn (h : RAt w r q n D) (m : Nat) : RAt { w with drawn := m } r q n D := h.kept (below_drawn (Below.refl _ _) m)
theorem RAt.other (h : RAt w r q n D) {S : List Nat} (ho : Only S w w') (h1 : r ∉ S) (h2 : q ∉ S) : RAt w' r q n D := by
  obtain ⟨⟨cap, h0⟩, ⟨c, hr, hc⟩, k1, k2, k3⟩ := h
  exact ⟨⟨cap, ho.row h0 h1⟩, ⟨c, ho.row hr h2, hc⟩, k1, k2, k3⟩
theorem RAt.lt (h : RAt w r q n D) : r < w.heap.size ∧ q < w.heap.size := by
  obtain ⟨⟨cap, h0⟩, ⟨c, hr, hc⟩, k1, k2, k3⟩ := h
  exact ⟨h0.lt, hr.lt⟩
theorem RAt.cell_hd (h : RAt w r q n D) : ∃ cap, w.cell? ⟨r, 0, none⟩ = some (.slice (some ⟨q, 0, none⟩) n cap) := by
  obtain ⟨⟨cap, h0⟩, _⟩ := h
  exact ⟨cap, h0.cell 0 _ rfl⟩
theorem RAt.cell_c (h : RAt w r q n D) (hk : k < n) : w.cell? ⟨q, k * 4, none⟩ = some (.int .i64 (D k).c) := by obtain ⟨_, ⟨c, hr, hc⟩, _⟩ := h; exact hr.cell _ _ (hc.ac k hk)
theorem RAt.cell_t (h : RAt w r q n D) (hk : k < n) : w.cell? ⟨q, k * 4 + 1, none⟩ = some (.int .i64 (D k).t) := by obtain ⟨_, ⟨c, hr, hc⟩, _⟩ := h; exact hr.cell _ _ (hc.at_ k hk)
theorem RAt.cell_on (h : RAt w r q n D) (hk : k < n) : w.cell? ⟨q, k * 4 + 2, none⟩ = some (.bool (D k).on) := by obtain ⟨_, ⟨c, hr, hc⟩, _⟩ := h; exact hr.cell _ _ (hc.aon k hk)
theorem RAt.cell_r (h : RAt w r q n D) (hk : k < n) : w.cell? ⟨q, k * 4 + 3, none⟩ = some (.int .u64 (D k).r) := by obtain ⟨_, ⟨c, hr, hc⟩, _⟩ := h; exact hr.cell _ _ (hc.ar k hk)
theorem RAt.frozen (h : RAt w r q n D) (o : Nat) : w.frozen? ⟨q, o, none⟩ = false := by obtain ⟨_, ⟨c, hr, hc⟩, _⟩ := h; exact hr.frozen _
theorem RAt.rq (h : RAt w r q n D) : r ≠ q := by
  obtain ⟨⟨cap, h0⟩, ⟨c, hr, hc⟩, _⟩ := h
  exact h0.ne hr (by decide)
theorem RAt.set_c (h : RAt w r q n D) (hk : k < n) (x : Int) (ok : ∀ j, j < n → (upd D k { D k with c := x } j).Ok) : RAt (w.setCell ⟨q, k * 4, none⟩ (.int .i64 x)) r q n (upd D k { D k with c := x }) := by
  have hne := h.rq
  obtain ⟨⟨cap, h0⟩, ⟨c, hr, hc⟩, h1, h2, _⟩ := h
  exact ⟨⟨cap, h0.setOther _ hne _⟩, ⟨_, hr.set _ _, hc.set_c hk x⟩, h1, h2, ok⟩
theorem RAt.set_t (h : RAt w r q n D) (hk : k < n) (x : Int) (ok : ∀ j, j < n → (upd D k { D k with t := x } j).Ok) : RAt (w.setCell ⟨q, k * 4 + 1, none⟩ (.int .i64 x)) r q n (upd D k { D k with t := x }) := by
  have hne := h.rq
  obtain ⟨⟨cap, h0⟩, ⟨c, hr, hc⟩, h1, h2, _⟩ := h
  exact ⟨⟨cap, h0.setOther _ hne _⟩, ⟨_, hr.set _ _, hc.set_t hk x⟩, h1, h2, ok⟩
theorem RAt.set_on (h : RAt w r q n D) (hk : k < n) (x : Bool) (ok : ∀ j, j < n → (upd D k { D k with on := x } j).Ok) : RAt (w.setCell ⟨q, k * 4 + 2, none⟩ (.bool x)) r q n (upd D k { D k with on := x }) := by
  have hne := h.rq
  obtain ⟨⟨cap, h0⟩, ⟨c, hr, hc⟩, h1, h2, _⟩ := h
  exact ⟨⟨cap, h0.setOther _ hne _⟩, ⟨_, hr.set _ _, hc.set_on hk x⟩, h1, h2, ok⟩
theorem RAt.set_r (h : RAt w r q n D) (hk : k < n) (x : Int) (ok : ∀ j, j < n → (upd D k { D k with r := x } j).Ok) : RAt (w.setCell ⟨q, k * 4 + 3, none⟩ (.int .u64 x)) r q n (upd D k { D k with r := x }) := by
  have hne := h.rq
  obtain ⟨⟨cap, h0⟩, ⟨c, hr, hc⟩, h1, h2, _⟩ := h
  exact ⟨⟨cap, h0.setOther _ hne _⟩, ⟨_, hr.set _ _, hc.set_r hk x⟩, h1, h2, ok⟩
end
theorem has_in {w : World} {r q n k : Nat} {D : Nat → Ln} (h : RAt w r q n D) (hk : k < n) :
    Calls Try.prog 20 #[.pointer (some ⟨r, 0, none⟩), .int .i64 k] w fun e w' => e = .returned (.bool true) ∧ w' = w := by
  obtain ⟨cap, c0⟩ := h.cell_hd
  have d0 : decide (0 ≤ (k : Int)) = true := decide_eq_true (by omega)
  have d1 : decide (k < n) = true := decide_eq_true hk
  have l1 : (k : Int) < (n : Int) := by omega
  clear h hk
  go_enter Try.func20, Try.ntmps20
  go_wp2
  go_ret
  exact ⟨rfl, rfl⟩
theorem has_out {w : World} {r q n : Nat} {D : Nat → Ln} (h : RAt w r q n D) {p : Int} (hp : p < 0 ∨ (n : Int) ≤ p) :
    Calls Try.prog 20 #[.pointer (some ⟨r, 0, none⟩), .int .i64 p] w fun e w' => e = .returned (.bool false) ∧ w' = w := by
  obtain ⟨cap, c0⟩ := h.cell_hd
  clear h
  by_cases h0 : 0 ≤ p
  · have d0 : decide (0 ≤ p) = true := decide_eq_true h0
    have d1 : decide (p < (n : Int)) = false := decide_eq_false (by omega)
    clear h0 hp
    go_enter Try.func20, Try.ntmps20
    go_wp2
    go_ret
    exact ⟨rfl, rfl⟩
  · have d0 : decide (0 ≤ p) = false := decide_eq_false h0
    clear h0 hp
    go_enter Try.func20, Try.ntmps20
    go_wp2
    go_ret
    exact ⟨rfl, rfl⟩
end Go.Proofs.Ytkcoabjeaoigdab
