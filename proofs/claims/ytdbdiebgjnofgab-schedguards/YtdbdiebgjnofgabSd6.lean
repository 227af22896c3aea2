import Derived.Test.YtdbdiebgjnofgabSd5
import Derived.Lib.SliceRun
namespace Go.Proofs.Ytdbdiebgjnofgab
open Go.RowKit Go.Maps Go.Sort
set_option maxRecDepth 100000

/-- A list of elements of so many cells each, wherever it lies. -/
def SlAt (w : World) (size : Nat) (v : Value) (n : Nat) (cs : List Value) : Prop := (∀ u ∈ cs, u.oneCell' = true) ∧ cs.length = n * size ∧
  ((v = .slice none 0 0 ∧ n = 0) ∨ ∃ g o cap, v = .slice (some ⟨g, o, none⟩) n cap ∧ ∀ j u, cs[j]? = some u → w.cell? ⟨g, o + j, none⟩ = some u)
theorem SlAt.kept {w w' : World} {size n : Nat} {v : Value} {cs : List Value} (h : SlAt w size v n cs) (hb : Below w.heap.size w w') : SlAt w' size v n cs := by
  obtain ⟨h1, h2, h3 | ⟨g, o, cap, rfl, h3⟩⟩ := h
  · exact ⟨h1, h2, .inl h3⟩
  · exact ⟨h1, h2, .inr ⟨g, o, cap, rfl, fun j u hj => cell_kept hb (h3 j u hj)⟩⟩
theorem SlAt.fr {w w' : World} {size n : Nat} {v : Value} {cs : List Value} {S : Nat → Prop} (h : SlAt w size v n cs) (hf : Fr S w w') (hS : ∀ g, v.ownBlock = some g → ¬ S g) : SlAt w' size v n cs := by
  obtain ⟨h1, h2, h3 | ⟨g, o, cap, rfl, h3⟩⟩ := h
  · exact ⟨h1, h2, .inl h3⟩
  · exact ⟨h1, h2, .inr ⟨g, o, cap, rfl, fun j u hj => hf.cell (h3 j u hj) (hS g rfl)⟩⟩
/-- The same, at whatever address. -/
def SrcAt (w : World) (size : Nat) (v : Value) (n : Nat) (cs : List Value) : Prop := (∀ u ∈ cs, u.oneCell' = true) ∧ cs.length = n * size ∧
  ((v = .slice none 0 0 ∧ n = 0) ∨ ∃ ad cap, v = .slice (some ad) n cap ∧ ∀ j u, cs[j]? = some u → w.cell? (ad.add j) = some u)
theorem SlAt.src {w : World} {size n : Nat} {v : Value} {cs : List Value} (h : SlAt w size v n cs) : SrcAt w size v n cs := by
  obtain ⟨h1, h2, h3 | ⟨g, o, cap, rfl, h3⟩⟩ := h
  · exact ⟨h1, h2, .inl h3⟩
  · exact ⟨h1, h2, .inr ⟨_, cap, rfl, fun j u hj => by rw [Addr.add_lit]; exact h3 j u hj⟩⟩
theorem SrcAt.kept {w w' : World} {size n : Nat} {v : Value} {cs : List Value} (h : SrcAt w size v n cs) (hb : Below w.heap.size w w') : SrcAt w' size v n cs := by
  obtain ⟨h1, h2, h3 | ⟨ad, cap, rfl, h3⟩⟩ := h
  · exact ⟨h1, h2, .inl h3⟩
  · exact ⟨h1, h2, .inr ⟨ad, cap, rfl, fun j u hj => cell_kept hb (h3 j u hj)⟩⟩
theorem slAt_nil (w : World) (size : Nat) : SlAt w size (.slice none 0 0) 0 [] := ⟨by simp, by simp, .inl ⟨rfl, rfl⟩⟩
theorem own_view {w : World} {base : Nat} {e : TypeId} {size : Nat} {v : Value} {n : Nat} {xs : List Value} (h : w.ownsRow base e size v n xs) : ∃ a c, v = .slice a n c := by
  rcases h.2 with ⟨rfl, rfl⟩ | ⟨g', cap, cur, rfl, _⟩
  · exact ⟨_, _, rfl⟩
  · exact ⟨_, _, rfl⟩
theorem slAt_own {w : World} {base : Nat} {e : TypeId} {size : Nat} {v : Value} {n : Nat} {cs : List Value} (h : w.ownsRow base e size v n cs) (h1 : ∀ u ∈ cs, u.oneCell' = true) : SlAt w size v n cs := by
  refine ⟨h1, h.1, ?_⟩
  rcases h.2 with ⟨rfl, rfl⟩ | ⟨g, cap, cur, rfl, _, hg, _, _, _, ht⟩
  · exact .inl ⟨rfl, rfl⟩
  · refine .inr ⟨g, 0, cap, rfl, fun j u hj => ?_⟩
    rw [Nat.zero_add, cell_of_row w g j cur e (0, 0) hg]
    rw [← ht] at hj
    have hjl := (List.getElem?_eq_some_iff.1 hj).1
    rw [List.getElem?_take_of_lt (by simp at hjl; omega)] at hj
    simpa using hj
theorem qn24 (w : World) (a : Option Addr) (n c n' c' : Nat) : (binOp .eql 24 (.slice a n c) (.slice none n' c')).run Try.prog w = .ok (.bool a.isNone) w := Lib.run_eql_slice_nil w _ _ a n c n' c' Try.underlying24
theorem inf3 : ∃ i : TypeInfo, Try.prog.info? 3 = some i ∧ (∃ z, i.zero = some z ∧ z.cells.size = 1) ∧ i.size = 1 ∧ i.bytes = 8 := by
  have h : (Try.prog.info? 3).map (fun i => ((i.zero.map fun z => z.cells.size), i.size, i.bytes)) = some (some 1, 1, 8) := by kernel_rfl
  cases hq : Try.prog.info? 3 with
  | none => rw [hq] at h; cases h
  | some i =>
    rw [hq] at h
    simp only [Option.map_some, Option.some.injEq, Prod.mk.injEq] at h
    obtain ⟨h1, h2, h3⟩ := h
    cases hz : i.zero with
    | none => rw [hz] at h1; cases h1
    | some z => rw [hz] at h1; exact ⟨i, rfl, ⟨z, hz, by simpa using h1⟩, h2, h3⟩
set_option maxHeartbeats 1000000 in
theorem cloneI_any {w : World} {v : Value} {n : Nat} {cs : List Value} (hs : SrcAt w 1 v n cs) (hl : n * 8 ≤ 140737488355328) :
    Calls Try.prog 58 #[v] w fun e w' => ∃ a' c', e = .returned (.slice a' n c') ∧ w'.ownsRow w.heap.size 3 1 (.slice a' n c') n cs ∧ Below w.heap.size w w' := by
  obtain ⟨i0, hi0, ⟨z0, hz0, hz3⟩, hz1, hz2⟩ := inf3
  have hq := qn24
  obtain ⟨h1, hlen, ⟨rfl, rfl⟩ | ⟨ad, cap, rfl, hc⟩⟩ := hs
  · go_enter Try.func58, Try.ntmps58
    go_wp2
    go_ret
    exact ⟨_, _, rfl, ⟨hlen, .inl ⟨rfl, rfl⟩⟩, Below.refl _ _⟩
  · have hown : (w.alloc (.cells #[] 3)).ownsRow w.heap.size 3 1 (.slice (some ⟨w.heap.size, 0, none⟩) 0 0) 0 [] :=
      ⟨rfl, .inr ⟨w.heap.size, 0, #[], rfl, Nat.le_refl _, heap_alloc_last w _, Nat.le_refl _, by unfold maxLen; omega, rfl, rfl⟩⟩
    have hb0 : Below w.heap.size w (w.alloc (.cells #[] 3)) := (Below.refl _ _).alloc (Nat.le_refl _) _
    have HO := hid hown
    have HB := hid hb0
    have HC : Hid (∀ j u, cs[j]? = some u → (w.alloc (.cells #[] 3)).cell? (ad.add j) = some u) := fun j u hj => cell_kept hb0 (hc j u hj)
    have H1 := hid h1
    have HL := hid hlen
    clear hown hb0 hc h1 hlen
    go_enter Try.func58, Try.ntmps58
    go_wp2_with (at_builtin; refine wpList_append_own_at _ rfl _ _ 24 rfl w.heap.size 3 i0 z0 1 8 Try.underlying24 hi0 hz0 hz1 hz2 hz3 (by decide) _ 0 [] rfl HO.out ad n cap cs rfl HL.out HC.out H1.out (by unfold maxLen; omega) (by omega) (by simp) ?_; intro v5 w5 h5 g5 _ n5; have H5 := hid h5; have HG5 := hid (And.intro g5 n5); clear h5 g5 n5)
    go_ret
    have h6 := H5.out
    rw [Nat.zero_add, List.nil_append] at h6
    obtain ⟨a', c', rfl⟩ := own_view h6
    refine ⟨a', c', rfl, h6, ?_⟩
    · exact HB.out.trans ((Fr.of_grown (S := fun x => w.heap.size ≤ x) HG5.out.1 (fun k e => by cases e; exact .inl (Nat.le_refl _))).below (fun x hx => hx) HB.out.size)
theorem qn37 (w : World) (a : Option Addr) (n c n' c' : Nat) : (binOp .eql 42 (.slice a n c) (.slice none n' c')).run Try.prog w = .ok (.bool a.isNone) w := Lib.run_eql_slice_nil w _ _ a n c n' c' Try.underlying42
theorem inf36 : ∃ i : TypeInfo, Try.prog.info? 32 = some i ∧ (∃ z, i.zero = some z ∧ z.cells.size = 3) ∧ i.size = 3 ∧ i.bytes = 24 := by
  have h : (Try.prog.info? 32).map (fun i => ((i.zero.map fun z => z.cells.size), i.size, i.bytes)) = some (some 3, 3, 24) := by kernel_rfl
  cases hq : Try.prog.info? 32 with
  | none => rw [hq] at h; cases h
  | some i =>
    rw [hq] at h
    simp only [Option.map_some, Option.some.injEq, Prod.mk.injEq] at h
    obtain ⟨h1, h2, h3⟩ := h
    cases hz : i.zero with
    | none => rw [hz] at h1; cases h1
    | some z => rw [hz] at h1; exact ⟨i, rfl, ⟨z, hz, by simpa using h1⟩, h2, h3⟩
set_option maxHeartbeats 1000000 in
theorem cloneP_any {w : World} {v : Value} {n : Nat} {cs : List Value} (hs : SrcAt w 3 v n cs) (hl : n * 24 ≤ 140737488355328) :
    Calls Try.prog 60 #[v] w fun e w' => ∃ a' c', e = .returned (.slice a' n c') ∧ w'.ownsRow w.heap.size 32 3 (.slice a' n c') n cs ∧ Below w.heap.size w w' := by
  obtain ⟨i0, hi0, ⟨z0, hz0, hz3⟩, hz1, hz2⟩ := inf36
  have hq := qn37
  obtain ⟨h1, hlen, ⟨rfl, rfl⟩ | ⟨ad, cap, rfl, hc⟩⟩ := hs
  · go_enter Try.func60, Try.ntmps60
    go_wp2
    go_ret
    exact ⟨_, _, rfl, ⟨hlen, .inl ⟨rfl, rfl⟩⟩, Below.refl _ _⟩
  · have hown : (w.alloc (.cells #[] 32)).ownsRow w.heap.size 32 3 (.slice (some ⟨w.heap.size, 0, none⟩) 0 0) 0 [] :=
      ⟨rfl, .inr ⟨w.heap.size, 0, #[], rfl, Nat.le_refl _, heap_alloc_last w _, Nat.le_refl _, by unfold maxLen; omega, rfl, rfl⟩⟩
    have hb0 : Below w.heap.size w (w.alloc (.cells #[] 32)) := (Below.refl _ _).alloc (Nat.le_refl _) _
    have HO := hid hown
    have HB := hid hb0
    have HC : Hid (∀ j u, cs[j]? = some u → (w.alloc (.cells #[] 32)).cell? (ad.add j) = some u) := fun j u hj => cell_kept hb0 (hc j u hj)
    have H1 := hid h1
    have HL := hid hlen
    clear hown hb0 hc h1 hlen
    go_enter Try.func60, Try.ntmps60
    go_wp2_with (at_builtin; refine wpList_append_own_at _ rfl _ _ 42 rfl w.heap.size 32 i0 z0 3 24 Try.underlying42 hi0 hz0 hz1 hz2 hz3 (by decide) _ 0 [] rfl HO.out ad n cap cs rfl HL.out HC.out H1.out (by unfold maxLen; omega) (by omega) (by simp) ?_; intro v5 w5 h5 g5 _ n5; have H5 := hid h5; have HG5 := hid (And.intro g5 n5); clear h5 g5 n5)
    go_ret
    have h6 := H5.out
    rw [Nat.zero_add, List.nil_append] at h6
    obtain ⟨a', c', rfl⟩ := own_view h6
    refine ⟨a', c', rfl, h6, ?_⟩
    · exact HB.out.trans ((Fr.of_grown (S := fun x => w.heap.size ≤ x) HG5.out.1 (fun k e => by cases e; exact .inl (Nat.le_refl _))).below (fun x hx => hx) HB.out.size)
end Go.Proofs.Ytdbdiebgjnofgab
