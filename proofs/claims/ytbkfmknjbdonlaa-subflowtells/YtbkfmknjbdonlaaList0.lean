import Derived.Test.YtbkfmknjbdonlaaIt0
import Derived.Test.YtbkfmknjbdonlaaRtEst
import Derived.Shelf.Abstract
namespace Go.Proofs.Ytbkfmknjbdonlaa
open Go.RowKit Go.Maps
set_option maxRecDepth 100000

def flatI (L : List It) : List Value := L.flatMap It.cells
theorem flatI_nil : flatI [] = [] := rfl
theorem flatI_cons (x : It) (L : List It) : flatI (x :: L) = x.cells ++ flatI L := by simp [flatI]
theorem flatI_append (A B : List It) : flatI (A ++ B) = flatI A ++ flatI B := by simp [flatI]
theorem flatI_len : ∀ L : List It, (flatI L).length = L.length * 5
  | [] => rfl
  | x :: L => by rw [flatI_cons, List.length_append, flatI_len L]; simp [It.cells]; omega
theorem flatI_one (L : List It) : ∀ v ∈ flatI L, v.oneCell' = true := by
  intro v hv
  simp only [flatI, List.mem_flatMap] at hv
  obtain ⟨x, _, hx⟩ := hv
  simp only [It.cells, List.mem_cons, List.not_mem_nil, or_false] at hx
  rcases hx with rfl | rfl | rfl | rfl | rfl <;> rfl
theorem flatI_get : ∀ (L : List It) (i : Nat) (h : i < L.length), (flatI L)[i * 5]? = some (.int .u64 L[i].num) ∧ (flatI L)[i * 5 + 1]? = some (.int .i64 L[i].kind) ∧ (flatI L)[i * 5 + 2]? = some (.int .u64 L[i].off) ∧ (flatI L)[i * 5 + 3]? = some (.int .i64 L[i].len) ∧ (flatI L)[i * 5 + 4]? = some (.int .u64 L[i].at_)
  | [], i, h => by simp at h
  | x :: L, 0, _ => by rw [flatI_cons]; exact ⟨rfl, rfl, rfl, rfl, rfl⟩
  | x :: L, i + 1, h => by
    have := flatI_get L i (by simpa using h)
    rw [flatI_cons]
    have hl : x.cells.length = 5 := rfl
    rw [List.getElem?_append_right (by rw [hl]; omega), List.getElem?_append_right (by rw [hl]; omega), List.getElem?_append_right (by rw [hl]; omega), List.getElem?_append_right (by rw [hl]; omega), List.getElem?_append_right (by rw [hl]; omega), hl]
    rw [show (i + 1) * 5 - 5 = i * 5 by omega, show (i + 1) * 5 + 1 - 5 = i * 5 + 1 by omega, show (i + 1) * 5 + 2 - 5 = i * 5 + 2 by omega, show (i + 1) * 5 + 3 - 5 = i * 5 + 3 by omega, show (i + 1) * 5 + 4 - 5 = i * 5 + 4 by omega]
    simpa using this
theorem law36 : Keyed Try.prog 36 := int_keyed Try.underlying36
theorem info60 : (Try.prog.info? 60).map (fun i => (i.zero, i.size, i.bytes)) = some (some (.agg #[.int .u64 0, .int .i64 0, .int .u64 0, .int .i64 0, .int .u64 0]), 5, 40) := by kernel_rfl
abbrev OwnU (w : World) (b : Nat) (U : List It) : Prop := w.ownsMap Try.prog 36 readIt b U.length (UD U)
theorem own_tight {w : World} {b n : Nat} {U : List It} (h : w.ownsMap Try.prog 36 readIt b n (UD U)) : OwnU w b U := by
  obtain ⟨es, clock, hb, F, hs, hD⟩ := h
  refine ⟨es, clock, hb, F, ?_, hD⟩
  have h1 : Maps.size (UD U) = es.size := by rw [hD]; simp [Maps.size, length_sorted]
  rw [UD_size] at h1
  omega
theorem below_grown {w w' : World} (h : Below w.heap.size w w') : w.grownBy w' none := ⟨h.os, h.tape, h.output, h.size, fun k hk _ => h.block k hk⟩
theorem grown_below {w w' : World} (h : w.grownBy w' none) : Below w.heap.size w w' := ⟨h.os, h.tape, h.output, h.size, fun k hk => h.block k hk (by simp)⟩
theorem OwnU.below {w w' : World} {b : Nat} {U : List It} (h : OwnU w b U) (hb : Below w.heap.size w w') : OwnU w' b U := World.ownsMap.kept h (below_grown hb) (by simp)
theorem own_ge {w : World} {base : Nat} {e : TypeId} {size : Nat} {v : Value} {n : Nat} {xs : List Value} (h : w.ownsRow base e size v n xs) {g : Nat} (hg : v.ownBlock = some g) : base ≤ g := by
  rcases h.2 with ⟨rfl, _⟩ | ⟨g', cap, cur, rfl, h1, _⟩
  · simp [Value.ownBlock] at hg
  · simp [Value.ownBlock] at hg; omega
theorem own_kept {w w' : World} {base : Nat} {e : TypeId} {size : Nat} {v : Value} {n : Nat} {xs : List Value} (h : w.ownsRow base e size v n xs) {row : Option Nat} (hg : w.grownBy w' row) (hne : ∀ g, v.ownBlock = some g → row ≠ some g) : w'.ownsRow base e size v n xs := by
  refine ⟨h.1, ?_⟩
  rcases h.2 with ⟨rfl, h0⟩ | ⟨g, cap, cur, rfl, h1, h2, h3⟩
  · exact .inl ⟨rfl, h0⟩
  · refine .inr ⟨g, cap, cur, rfl, h1, ?_, h3⟩
    exact (hg.block g (Array.getElem?_eq_some_iff.1 h2).1 (fun e => hne g rfl e.symm)).trans h2
/-- What slices.SortFunc does to a row of items. -/
def SortI : Prop := ∀ (w : World) (g cap : Nat) (L : List It) (tail : List Value), w.heap[g]? = some (.cells (flatI L ++ tail).toArray 60 (0, 0)) → L.length * 40 ≤ 140737488355328 →
  Calls Try.prog 70 #[.slice (some ⟨g, 0, none⟩) L.length cap, .func (.func 71) #[] #[]] w fun e w' => e = .returned (.tuple #[]) ∧ ∃ L' : List It, L'.Perm L ∧ L'.Pairwise (fun a b => a.num ≤ b.num) ∧ w'.heap[g]? = some (.cells (flatI L' ++ tail).toArray 60 (0, 0)) ∧ w.grownBy w' (some g)

set_option maxRecDepth 1000000 in
set_option maxHeartbeats 1000000 in
theorem ibitlen0 (w : World) : Calls Try.prog 73 #[.int .u64 0] w fun e w' => ∃ k : Int, e = .returned (.int .i64 k) ∧ w' = w := by
  go_enter Try.func73, Try.ntmps73
  go_wp2
  go_ret
  exact ⟨_, rfl, rfl⟩
set_option maxHeartbeats 1000000 in
theorem iinsertion0 (w : World) (a : Option Addr) (cap : Nat) (f : Value) : Calls Try.prog 100 #[.slice a 0 cap, .int .i64 0, .int .i64 0, f] w fun e w' => e = .returned (.tuple #[]) ∧ w' = w := by
  go_enter Try.func100, Try.ntmps100
  go_wp2
  refine wp_loop_rounds 1 ?_
  rw [rounds_succ]
  go_wp2
  go_end0
  exact ⟨rfl, rfl⟩
set_option maxHeartbeats 1000000 in
theorem ipdq0 (w : World) (a : Option Addr) (cap : Nat) (f : Value) (lim : Int) : Calls Try.prog 86 #[.slice a 0 cap, .int .i64 0, .int .i64 0, .int .i64 lim, f] w fun e w' => e = .returned (.tuple #[]) ∧ w' = w := by
  go_enter Try.func86, Try.ntmps86
  go_wp2
  refine wp_loop_rounds 1 ?_
  rw [rounds_succ]
  go_wp2_with fail
  refine (iinsertion0 _ _ _ _).mono ?_
  rintro e w' ⟨rfl, rfl⟩
  go_wp2
  refine bodyPost_ret (results_none rfl _ _ _) rfl ?_
  exact ⟨rfl, rfl⟩
set_option maxHeartbeats 1000000 in
theorem isort0 (w : World) (a : Option Addr) (cap : Nat) (f : Value) : Calls Try.prog 70 #[.slice a 0 cap, f] w fun e w' => e = .returned (.tuple #[]) ∧ w' = w := by
  go_enter Try.func70, Try.ntmps70
  go_wp2_with fail
  refine (ibitlen0 _).mono ?_
  rintro e w' ⟨k, rfl, rfl⟩
  go_wp2_with fail
  refine (ipdq0 _ _ _ _ _).mono ?_
  rintro e w' ⟨rfl, rfl⟩
  go_wp2
  go_end0
  exact ⟨rfl, rfl⟩
/-- Any row of items, none too. -/
theorem sort_own (hSort : SortI) {w : World} {base : Nat} {v : Value} {L : List It} (h : w.ownsRow base 60 5 v L.length (flatI L)) (hl : L.length * 40 ≤ 140737488355328) :
    Calls Try.prog 70 #[v, .func (.func 71) #[] #[]] w fun e w' => e = .returned (.tuple #[]) ∧ ∃ L' : List It, L'.Perm L ∧ L'.Pairwise (fun a b => a.num ≤ b.num) ∧ w'.ownsRow base 60 5 v L'.length (flatI L') ∧ w.grownBy w' v.ownBlock := by
  obtain ⟨h0, h1⟩ := h
  rcases h1 with ⟨rfl, hn⟩ | ⟨g, cap, cur, rfl, hg, hc, h2, h3, h4, h5⟩
  · obtain rfl : L = [] := List.eq_nil_of_length_eq_zero hn
    refine (isort0 w none 0 _).mono ?_
    rintro e w' ⟨rfl, rfl⟩
    exact ⟨rfl, [], List.Perm.refl _, List.Pairwise.nil, ⟨rfl, .inl ⟨rfl, rfl⟩⟩, ⟨rfl, rfl, rfl, Nat.le_refl _, fun _ _ _ => rfl⟩⟩
  · have ec : cur = (flatI L ++ cur.toList.drop (L.length * 5)).toArray := by
      rw [← h5, List.take_append_drop]
    refine (hSort w g cap L (cur.toList.drop (L.length * 5)) (by rw [← ec]; exact hc) hl).mono ?_
    rintro e w' ⟨rfl, L', hp, hs, hr, hgr⟩
    have el := hp.length_eq
    refine ⟨rfl, L', hp, hs, ⟨flatI_len L', .inr ⟨g, cap, _, by rw [el], hg, hr, by omega, h3, ?_, ?_⟩⟩, hgr⟩
    · simp only [List.size_toArray, List.length_append, flatI_len, List.length_drop, el]
      have := h4
      simp only [Array.length_toList]
      omega
    · rw [← flatI_len L', List.take_left]
end Go.Proofs.Ytbkfmknjbdonlaa
