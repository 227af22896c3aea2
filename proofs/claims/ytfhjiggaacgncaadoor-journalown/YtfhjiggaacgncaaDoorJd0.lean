import Derived.Test.YtfhjiggaacgncaaDoorMx0
import Derived.Test.YtfhjiggaacgncaaDoorCrc
namespace Go.Proofs.YtfhjiggaacgncaaDoor
open Go.RowKit Go.Maps Go.Sort
set_option maxRecDepth 100000

abbrev pt (g o : Nat) : Value := .pointer (some ⟨g, o, none⟩)
theorem below_new (w : World) (o : Obj) : Below w.heap.size w (w.alloc o) := (Below.refl _ _).alloc (Nat.le_refl _) _
theorem below_two {B : Nat} {w w1 w2 : World} (h1 : Below B w w1) (h2 : Below w1.heap.size w1 w2) (hB : B ≤ w.heap.size) : Below B w w2 := h1.trans (h2.mono (Nat.le_trans hB h1.size))
theorem own_nil (w : World) (base : Nat) : OwnBy w base (.slice none 0 0) [] := ⟨rfl, .inl ⟨rfl, rfl⟩⟩
/-- The same bytes? (bytes.Equal) -/
theorem equal_any {w : World} {a a' : Option Addr} {n n' c c' : Nat} {bs bs' : List (BitVec 8)} (hx : BytesAt w a bs) (hn : bs.length = n) (hy : BytesAt w a' bs') (hn' : bs'.length = n') :
    Calls Tryd.prog 72 #[.slice a n c, .slice a' n' c'] w fun e w' => e = .returned (.bool (decide (bs = bs'))) ∧ w' = w := by
  have h1 := convert_any (cap := c) hx hn
  have h2 := convert_any (cap := c') hy hn'
  have H3 := hid (strOf_eq bs bs')
  clear hx hy hn hn'
  generalize strOf bs = sx at *
  generalize strOf bs' = sy at *
  go_enter Tryd.func72, Tryd.ntmps72
  go_wp2
  go_ret
  refine ⟨?_, rfl⟩
  rw [← H3.out]
  rfl
set_option maxHeartbeats 1000000 in
/-- A copy of bytes (slices.Clone), as an own row. -/
theorem clone_any {w : World} {a : Option Addr} {n cap : Nat} {bs : List (BitVec 8)} (hB : BytesAt w a bs) (hn : bs.length = n) (hl : n ≤ 140737488355328) :
    Calls Tryd.prog 35 #[.slice a n cap] w fun e w' => ∃ v, e = .returned v ∧ OwnBy w' w.heap.size v bs ∧ Below w.heap.size w w' := by
  cases a with
  | none =>
    obtain rfl : bs = [] := by
      cases bs with
      | nil => rfl
      | cons b l => obtain ⟨g, o, e, _⟩ := hB 0 (by simp); cases e
    obtain rfl : n = 0 := hn.symm
    clear hB hn
    have HP := hid (own_nil w w.heap.size)
    have he : ∀ w : World, (binOp .eql 30 (.slice none 0 cap) (.slice none 0 0)).run Tryd.prog w = .ok (.bool true) w := fun _ => rfl
    go_enter Tryd.func35, Tryd.ntmps35
    go_wp2
    go_ret
    exact ⟨_, rfl, HP.out, Below.refl _ _⟩
  | some ad =>
    have HB := hid hB
    have HN := hid hn
    have HL := hid hl
    have he : ∀ w : World, (binOp .eql 30 (.slice (some ad) n cap) (.slice none 0 0)).run Tryd.prog w = .ok (.bool false) w := fun _ => rfl
    clear hB hn hl
    go_enter Tryd.func35, Tryd.ntmps35
    go_wp2_with (at_builtin; refine wpAppendA (.tmp 5) (.tmp 6) rfl rfl (base := w.heap.size) (v := .slice (some ⟨w.heap.size, 0, none⟩) 0 0) (old := []) rfl ⟨rfl, .inr ⟨w.heap.size, 0, #[], rfl, Nat.le_refl _, heap_alloc_last w _, Nat.le_refl _, by decide, rfl, rfl⟩⟩ (by simp) rfl (fun e => by cases e) HN.out (HB.out.kept ((Below.refl _ _).alloc (Nat.le_refl _) _)) (by have := HL.out; omega) ?_; intro w' v' hO hb)
    go_ret
    have hg := hb.out.1
    have hb2 : Below w.heap.size w w' := (below_new w _).trans ((Below.refl _ _).grown hg (by simp) (fun g e => by simp [Value.ownBlock] at e; omega))
    have hO2 := hO.out
    rw [List.nil_append, Nat.zero_add, ← HN.out] at hO2
    exact ⟨_, rfl, hO2, hb2⟩
/-- May a disk have this size? -/
theorem maybe_any (w : World) (n : Int) : Calls Tryd.prog 33 #[.int .i64 n] w fun e w' => e = .returned (.bool (decide (1 ≤ n ∧ n ≤ 16777216))) ∧ w' = w := by
  by_cases h1 : 1 ≤ n
  · by_cases h2 : n ≤ 16777216
    · rw [decide_eq_true ⟨h1, h2⟩]
      go_enter Tryd.func33, Tryd.ntmps33
      go_wp2
      go_ret
      exact ⟨rfl, rfl⟩
    · rw [decide_eq_false (fun h => h2 h.2)]
      go_enter Tryd.func33, Tryd.ntmps33
      go_wp2
      go_ret
      exact ⟨rfl, rfl⟩
  · rw [decide_eq_false (fun h => h1 h.1)]
    go_enter Tryd.func33, Tryd.ntmps33
    go_wp2
    go_ret
    exact ⟨rfl, rfl⟩
end Go.Proofs.YtfhjiggaacgncaaDoor
