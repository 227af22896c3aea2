import Derived.Test.YtkcoabjeaoigdabBase
namespace Go.Proofs.Ytkcoabjeaoigdab
open Go.RowKit
set_option maxRecDepth 100000

/-- A path: its window, where slow start ends, whether it was taken, its time (0: not known). -/
structure Ln where
  c : Int
  t : Int
  on : Bool
  r : Int
def Ln.cells (l : Ln) : List Value := [.int .i64 l.c, .int .i64 l.t, .bool l.on, .int .i64 l.r]
structure Ln.Ok (l : Ln) : Prop where
  c0 : 1024 ≤ l.c
  c1 : l.c ≤ 262144
  t0 : 2048 ≤ l.t
  t1 : l.t ≤ 262144
  r0 : 0 ≤ l.r
  r1 : l.r ≤ 60000
def upd (D : Nat → Ln) (k : Nat) (l : Ln) : Nat → Ln := fun j => if j = k then l else D j
theorem upd_at (D : Nat → Ln) (k : Nat) (l : Ln) : upd D k l k = l := by unfold upd; rw [if_pos rfl]
theorem upd_off (D : Nat → Ln) (k j : Nat) (l : Ln) (h : j ≠ k) : upd D k l j = D j := by unfold upd; rw [if_neg h]
structure Cells (n : Nat) (D : Nat → Ln) (c : List Value) : Prop where
  len : c.length = 33
  ac : ∀ k, k < 8 → c[k * 4]? = some (.int .i64 (D k).c)
  at_ : ∀ k, k < 8 → c[k * 4 + 1]? = some (.int .i64 (D k).t)
  aon : ∀ k, k < 8 → c[k * 4 + 2]? = some (.bool (D k).on)
  ar : ∀ k, k < 8 → c[k * 4 + 3]? = some (.int .i64 (D k).r)
  num : c[32]? = some (.int .i64 n)
section
variable {n : Nat} {D : Nat → Ln} {c : List Value} {k : Nat}
theorem Cells.set_c (h : Cells n D c) (hk : k < 8) (x : Int) : Cells n (upd D k { D k with c := x }) (c.set (k * 4) (.int .i64 x)) := by
  obtain ⟨h0, h1, h2, h3, h4, h5⟩ := h
  refine ⟨by simpa using h0, fun j hj => ?_, fun j hj => ?_, fun j hj => ?_, fun j hj => ?_, ?_⟩
  all_goals (try (by_cases e : j = k))
  all_goals (try subst e)
  all_goals (first | rw [upd_at] | rw [upd_off _ _ _ _ e] | skip)
  all_goals (rw [List.getElem?_set]; first | (rw [if_neg (by omega)]; simp only [h1 j hj, h2 j hj, h3 j hj, h4 j hj]) | (rw [if_neg (by omega)]; exact h5) | (rw [if_pos rfl, if_pos (by omega)]))
theorem Cells.set_t (h : Cells n D c) (hk : k < 8) (x : Int) : Cells n (upd D k { D k with t := x }) (c.set (k * 4 + 1) (.int .i64 x)) := by
  obtain ⟨h0, h1, h2, h3, h4, h5⟩ := h
  refine ⟨by simpa using h0, fun j hj => ?_, fun j hj => ?_, fun j hj => ?_, fun j hj => ?_, ?_⟩
  all_goals (try (by_cases e : j = k))
  all_goals (try subst e)
  all_goals (first | rw [upd_at] | rw [upd_off _ _ _ _ e] | skip)
  all_goals (rw [List.getElem?_set]; first | (rw [if_neg (by omega)]; simp only [h1 j hj, h2 j hj, h3 j hj, h4 j hj]) | (rw [if_neg (by omega)]; exact h5) | (rw [if_pos rfl, if_pos (by omega)]))
theorem Cells.set_on (h : Cells n D c) (hk : k < 8) (x : Bool) : Cells n (upd D k { D k with on := x }) (c.set (k * 4 + 2) (.bool x)) := by
  obtain ⟨h0, h1, h2, h3, h4, h5⟩ := h
  refine ⟨by simpa using h0, fun j hj => ?_, fun j hj => ?_, fun j hj => ?_, fun j hj => ?_, ?_⟩
  all_goals (try (by_cases e : j = k))
  all_goals (try subst e)
  all_goals (first | rw [upd_at] | rw [upd_off _ _ _ _ e] | skip)
  all_goals (rw [List.getElem?_set]; first | (rw [if_neg (by omega)]; simp only [h1 j hj, h2 j hj, h3 j hj, h4 j hj]) | (rw [if_neg (by omega)]; exact h5) | (rw [if_pos rfl, if_pos (by omega)]))
theorem Cells.set_r (h : Cells n D c) (hk : k < 8) (x : Int) : Cells n (upd D k { D k with r := x }) (c.set (k * 4 + 3) (.int .i64 x)) := by
  obtain ⟨h0, h1, h2, h3, h4, h5⟩ := h
  refine ⟨by simpa using h0, fun j hj => ?_, fun j hj => ?_, fun j hj => ?_, fun j hj => ?_, ?_⟩
  all_goals (try (by_cases e : j = k))
  all_goals (try subst e)
  all_goals (first | rw [upd_at] | rw [upd_off _ _ _ _ e] | skip)
  all_goals (rw [List.getElem?_set]; first | (rw [if_neg (by omega)]; simp only [h1 j hj, h2 j hj, h3 j hj, h4 j hj]) | (rw [if_neg (by omega)]; exact h5) | (rw [if_pos rfl, if_pos (by omega)]))
theorem Cells.set_w (h : Cells n D c) (hk : k < 8) (x y : Int) : Cells n (upd D k { D k with c := x, t := y }) ((c.set (k * 4) (.int .i64 x)).set (k * 4 + 1) (.int .i64 y)) := by
  have := (h.set_c hk x).set_t hk y
  rw [upd_at] at this
  have e : upd (upd D k { D k with c := x }) k { (({ D k with c := x } : Ln)) with t := y } = upd D k { D k with c := x, t := y } := by
    funext j
    unfold upd
    split <;> rfl
  rwa [e] at this
end
/-- A group at block g: n paths are there, with data D. -/
structure GAt (w : World) (g n : Nat) (D : Nat → Ln) : Prop where
  row : ∃ c, Row w g c 44 ∧ Cells n D c
  le : n ≤ 8
  ok : ∀ k, k < n → (D k).Ok
section
variable {w w' : World} {g n k : Nat} {D : Nat → Ln}
theorem GAt.kept (h : GAt w g n D) (hb : Below w.heap.size w w') : GAt w' g n D := by
  obtain ⟨⟨c, hr, hc⟩, h1, h2⟩ := h
  exact ⟨⟨c, hr.kept hb hr.lt, hc⟩, h1, h2⟩
theorem GAt.lt (h : GAt w g n D) : g < w.heap.size := by obtain ⟨⟨c, hr, hc⟩, h1, h2⟩ := h; exact hr.lt
theorem GAt.drawn (h : GAt w g n D) (m : Nat) : GAt { w with drawn := m } g n D := h.kept (below_drawn (Below.refl _ _) m)
theorem GAt.other (h : GAt w g n D) {S : List Nat} (ho : Only S w w') (hg : g ∉ S) : GAt w' g n D := by
  obtain ⟨⟨c, hr, hc⟩, h1, h2⟩ := h
  exact ⟨⟨c, ho.row hr hg, hc⟩, h1, h2⟩
theorem GAt.cell_n (h : GAt w g n D) : w.cell? ⟨g, 32, none⟩ = some (.int .i64 n) := by obtain ⟨⟨c, hr, hc⟩, h1, h2⟩ := h; exact hr.cell _ _ hc.num
theorem GAt.cell_c (h : GAt w g n D) (hk : k < 8) : w.cell? ⟨g, k * 4, none⟩ = some (.int .i64 (D k).c) := by obtain ⟨⟨c, hr, hc⟩, h1, h2⟩ := h; exact hr.cell _ _ (hc.ac k hk)
theorem GAt.cell_t (h : GAt w g n D) (hk : k < 8) : w.cell? ⟨g, k * 4 + 1, none⟩ = some (.int .i64 (D k).t) := by obtain ⟨⟨c, hr, hc⟩, h1, h2⟩ := h; exact hr.cell _ _ (hc.at_ k hk)
theorem GAt.cell_on (h : GAt w g n D) (hk : k < 8) : w.cell? ⟨g, k * 4 + 2, none⟩ = some (.bool (D k).on) := by obtain ⟨⟨c, hr, hc⟩, h1, h2⟩ := h; exact hr.cell _ _ (hc.aon k hk)
theorem GAt.cell_r (h : GAt w g n D) (hk : k < 8) : w.cell? ⟨g, k * 4 + 3, none⟩ = some (.int .i64 (D k).r) := by obtain ⟨⟨c, hr, hc⟩, h1, h2⟩ := h; exact hr.cell _ _ (hc.ar k hk)
theorem GAt.frozen (h : GAt w g n D) (o : Nat) : w.frozen? ⟨g, o, none⟩ = false := by obtain ⟨⟨c, hr, hc⟩, h1, h2⟩ := h; exact hr.frozen _
theorem GAt.range (h : GAt w g n D) (hk : k < 8) : w.rangeAt g (k * 4) (D k).cells := by
  intro j v hv
  match j, hv with
  | 0, hv => simp [Ln.cells] at hv; subst hv; exact h.cell_c hk
  | 1, hv => simp [Ln.cells] at hv; subst hv; exact h.cell_t hk
  | 2, hv => simp [Ln.cells] at hv; subst hv; exact h.cell_on hk
  | 3, hv => simp [Ln.cells] at hv; subst hv; exact h.cell_r hk
theorem GAt.range2 (h : GAt w g n D) (hk : k < 8) : w.rangeAt g (k * 4) [.int .i64 (D k).c, .int .i64 (D k).t] := by
  intro j v hv
  match j, hv with
  | 0, hv => simp at hv; subst hv; exact h.cell_c hk
  | 1, hv => simp at hv; subst hv; exact h.cell_t hk
theorem GAt.there2 (h : GAt w g n D) (hk : k < 8) : w.there g (k * 4) 2 := by
  obtain ⟨⟨c, hr, hc⟩, h1, h2⟩ := h
  exact hr.there _ _ (by rw [hc.len]; omega)
theorem ok_upd {l : Ln} (h : ∀ k, k < n → (D k).Ok) (hl : l.Ok) : ∀ j, j < n → (upd D k l j).Ok := by
  intro j hj
  unfold upd
  split
  · exact hl
  · exact h j hj
theorem GAt.set_c (h : GAt w g n D) (hk : k < 8) (x : Int) (ok : ∀ j, j < n → (upd D k { D k with c := x } j).Ok) : GAt (w.setCell ⟨g, k * 4, none⟩ (.int .i64 x)) g n (upd D k { D k with c := x }) := by
  obtain ⟨⟨c, hr, hc⟩, h1, h2⟩ := h
  exact ⟨⟨_, hr.set _ _, hc.set_c hk x⟩, h1, ok⟩
theorem GAt.set_on (h : GAt w g n D) (hk : k < 8) (x : Bool) (ok : ∀ j, j < n → (upd D k { D k with on := x } j).Ok) : GAt (w.setCell ⟨g, k * 4 + 2, none⟩ (.bool x)) g n (upd D k { D k with on := x }) := by
  obtain ⟨⟨c, hr, hc⟩, h1, h2⟩ := h
  exact ⟨⟨_, hr.set _ _, hc.set_on hk x⟩, h1, ok⟩
theorem GAt.set_r (h : GAt w g n D) (hk : k < 8) (x : Int) (ok : ∀ j, j < n → (upd D k { D k with r := x } j).Ok) : GAt (w.setCell ⟨g, k * 4 + 3, none⟩ (.int .i64 x)) g n (upd D k { D k with r := x }) := by
  obtain ⟨⟨c, hr, hc⟩, h1, h2⟩ := h
  exact ⟨⟨_, hr.set _ _, hc.set_r hk x⟩, h1, ok⟩
theorem GAt.set_w (h : GAt w g n D) (hk : k < 8) (x y : Int) (ok : ∀ j, j < n → (upd D k { D k with c := x, t := y } j).Ok) : GAt (w.setCells g (k * 4) [.int .i64 x, .int .i64 y]) g n (upd D k { D k with c := x, t := y }) := by
  obtain ⟨⟨c, hr, hc⟩, h1, h2⟩ := h
  exact ⟨⟨_, (hr.set _ _).set _ _, hc.set_w hk x y⟩, h1, ok⟩
end
theorem i48 : (Try.prog.info? 44).map (·.size) = some 33 := by kernel_rfl
theorem i45 : (Try.prog.info? 41).map (·.size) = some 4 := by kernel_rfl
theorem i29 : (Try.prog.info? 39).map (·.size) = some 2 := by kernel_rfl
/-- The path of that number, if it is there. -/
def laneOf (g n : Nat) (p : Int) : Option Addr := if 0 ≤ p ∧ p < n then some ⟨g, p.toNat * 4, none⟩ else none
theorem lane_in {w : World} {g n k : Nat} {D : Nat → Ln} (h : GAt w g n D) (hk : k < n) :
    Calls Try.prog 19 #[.pointer (some ⟨g, 0, none⟩), .int .i64 k] w fun e w' => e = .returned (.pointer (some ⟨g, k * 4, none⟩)) ∧ w' = w := by
  have cn := h.cell_n
  have h8 := h.le
  have e1 : decide ((k : Int) < 0) = false := decide_eq_false (by omega)
  have e2 : decide (n ≤ k) = false := decide_eq_false (by omega)
  have e3 : (k : Int) < 8 := by omega
  have e4 : k < 8 := by omega
  have HK := hid hk
  clear h h8 hk
  go_enter Try.func19, Try.ntmps19
  go_wp2
  go_ret
  exact ⟨rfl, rfl⟩
theorem lane_out {w : World} {g n : Nat} {D : Nat → Ln} (h : GAt w g n D) {p : Int} (hp : p < 0 ∨ (n : Int) ≤ p) :
    Calls Try.prog 19 #[.pointer (some ⟨g, 0, none⟩), .int .i64 p] w fun e w' => e = .returned (.pointer none) ∧ w' = w := by
  have cn := h.cell_n
  clear h
  rcases hp with hp | hp
  · go_enter Try.func19, Try.ntmps19
    go_wp2
    go_ret
    exact ⟨rfl, rfl⟩
  · by_cases h0 : p < 0
    · go_enter Try.func19, Try.ntmps19
      go_wp2
      go_ret
      exact ⟨rfl, rfl⟩
    · have e1 : decide (p < 0) = false := decide_eq_false h0
      have e2 : decide ((n : Int) ≤ p) = true := decide_eq_true hp
      go_enter Try.func19, Try.ntmps19
      go_wp2
      go_ret
      exact ⟨rfl, rfl⟩
theorem lane_nil {w : World} {p : Int} : Calls Try.prog 19 #[.pointer none, .int .i64 p] w fun e w' => e = .returned (.pointer none) ∧ w' = w := by
  go_enter Try.func19, Try.ntmps19
  go_wp2
  go_ret
  exact ⟨rfl, rfl⟩
end Go.Proofs.Ytkcoabjeaoigdab
