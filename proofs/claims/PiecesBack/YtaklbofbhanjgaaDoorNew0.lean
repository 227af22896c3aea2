import Derived.Test.YtaklbofbhanjgaaDoorIvAddW
import Derived.Test.YtaklbofbhanjgaaDoorIvFits
import Derived.Test.YtaklbofbhanjgaaDoorPt0
namespace Go.Proofs.YtaklbofbhanjgaaDoor
open Go.RowKit
set_option maxRecDepth 100000

theorem make2 : ∀ w, (Instr.makeSlice 58 (.int .i64 0) (.int .i64 2)).run Tryd.prog w = .ok (.slice (some ⟨w.heap.size, 0, none⟩) 0 2) (w.alloc (.cells #[.int .u64 0, .int .u64 0, .int .u64 0, .int .u64 0] 92)) := fun _ => by kernel_rfl

theorem splice_tail {α : Type} (C : List α) (a : Nat) (N : List α) (h : a + N.length ≤ C.length) : (splice C a N).take (a + N.length) = C.take a ++ N := by
  have e := splice_close C N [] a (a + N.length) (a + N.length) rfl (by simp) h
  rw [List.append_nil] at e
  rw [← e]
  congr 1
  simp [splice]
theorem pair_one (x y : Int) : ∀ v ∈ [Value.int .u64 x, Value.int .u64 y], v.oneCell' = true := by
  have := flat_one [(x, y)]
  rwa [flat_cons] at this
theorem three_below (w : World) (o1 o2 o3 : Obj) : Below w.heap.size w (((w.alloc o1).alloc o2).alloc o3).drew.drew :=
  ((((Below.refl _ w).alloc (Nat.le_refl _) o1).alloc (by simp) o2).alloc (by simp; omega) o3).drew.drew
theorem three_size (w : World) (o1 o2 o3 : Obj) : w.heap.size + 1 + 1 < (((w.alloc o1).alloc o2).alloc o3).drew.drew.heap.size := by
  show w.heap.size + 1 + 1 < (((w.alloc o1).alloc o2).alloc o3).heap.size
  simp
theorem three_a (w : World) (o1 o2 o3 : Obj) : (((w.alloc o1).alloc o2).alloc o3).drew.drew.heap[w.heap.size]? = some o1 := by
  show (((w.alloc o1).alloc o2).alloc o3).heap[w.heap.size]? = some o1
  rw [Below.heap_alloc _ _ _ (by simp; omega)]
  exact heap_alloc2_old w o1 o2
theorem three_b (w : World) (o1 o2 o3 : Obj) : (((w.alloc o1).alloc o2).alloc o3).drew.drew.heap[w.heap.size + 1]? = some o2 := by
  show (((w.alloc o1).alloc o2).alloc o3).heap[w.heap.size + 1]? = some o2
  rw [Below.heap_alloc _ _ _ (by simp)]
  exact heap_alloc2_new w o1 o2
theorem three_c (w : World) (o1 o2 o3 : Obj) : (((w.alloc o1).alloc o2).alloc o3).drew.drew.heap[w.heap.size + 1 + 1]? = some o3 := by
  show (((w.alloc o1).alloc o2).alloc o3).heap[w.heap.size + 1 + 1]? = some o3
  have := heap_alloc_new ((w.alloc o1).alloc o2) o3
  simpa using this

end Go.Proofs.YtaklbofbhanjgaaDoor
namespace Go.Proofs.YtaklbofbhanjgaaDoor
open Go.RowKit
set_option maxRecDepth 100000

/-- A slice of the caller's, in whatever memory: its stretches' cells. -/
structure Cells (w : World) (a : Option Addr) (L : List Rg) : Prop where
  row : L ≠ [] → ∃ ad, a = some ad ∧ ∀ j v, (flat L)[j]? = some v → w.cell? (ad.add j) = some v
theorem Cells.kept {w w' : World} {a : Option Addr} {L : List Rg} (C : Cells w a L) (hb : Below w.heap.size w w') : Cells w' a L :=
  ⟨fun h => by obtain ⟨ad, e, hc⟩ := C.row h; exact ⟨ad, e, fun j v hj => cell_kept hb (hc j v hj)⟩⟩

set_option maxHeartbeats 1000000 in
/-- copied: a new row with the same stretches. -/
theorem copied_any {w : World} {a : Option Addr} {cap : Nat} {L : List Rg} (C : Cells w a L) (hf : L.length * 16 ≤ 140737488355328) :
    Calls Tryd.prog 95 #[.slice a L.length cap] w fun e w' => ∃ g, e = .returned (.slice (some ⟨g, 0, none⟩) L.length L.length) ∧ w.heap.size ≤ g ∧ w'.heap[g]? = some (.cells (flat L).toArray 92 (0, 0)) ∧ Below w.heap.size w w' := by
  obtain ⟨i, hi, hz0, hz1, hz2⟩ := info_parts info29
  obtain ⟨w1, hmk, hown, hg1⟩ := run_make_full (P := Tryd.prog) w 0 58 92 i _ 2 Tryd.underlying58 hi hz0 hz1 .i64 .i64 L.length (by rw [hz2]; omega) (by unfold maxLen; omega) (Nat.zero_le _)
  obtain ⟨hl1, ⟨h, _⟩ | ⟨g, cp, cur, hv, _, hg, _, _, hcs, _⟩⟩ := hown
  · simp at h
  simp only [Value.slice.injEq, Option.some.injEq, Addr.mk.injEq, and_true, true_and] at hv
  obtain ⟨rfl, rfl⟩ := hv
  have hb1 : Below w.heap.size w w1 := (Below.refl _ _).grown hg1 (Nat.le_refl _) (fun k e => by simp at e)
  obtain ⟨w2, hcp, hrow, hg2⟩ := run_copy2 w1 3 (some ⟨w.heap.size, 0, none⟩) a L.length L.length L.length cap w.heap.size 0 cur.toList (by simpa using hg) (flat L) (by rw [length_flat]; simp only [Nat.min_def]; split <;> omega)
    (fun hp => by
      obtain ⟨ad, rfl, hc⟩ := C.row (fun e => by rw [e] at hp; simp [flat] at hp)
      exact ⟨rfl, ad, rfl, fun j v hj => cell_kept hb1 (hc j v hj)⟩) (by rw [length_flat]; simp [hcs]) (flat_one L)
  have hfull : splice cur.toList 0 (flat L) = flat L := by
    unfold splice
    rw [List.drop_eq_nil_of_le (by rw [length_flat]; simp [hcs])]
    simp
  rw [hfull] at hrow
  have HE : Hid (w2.heap[w.heap.size]? = some (.cells (flat L).toArray 92 (0, 0)) ∧ Below w.heap.size w w2) := ⟨hrow, hb1.grown hg2 hb1.size (fun k e => by simp at e; omega)⟩
  clear hrow hfull hg2 hb1 hg hcs hl1 hg1 hi hz0 hz1 hz2 C
  go_enter Tryd.func95, Tryd.ntmps95
  go_wp2
  go_ret
  exact ⟨_, rfl, Nat.le_refl _, HE.out⟩

theorem View.cells {w : World} {p : Nat} {a : Option Addr} {cap : Nat} {L : List Rg} (V : View w p a cap L) : Cells w a L := by
  refine ⟨fun hne => ?_⟩
  have hl : 0 < L.length := List.length_pos_iff.2 hne
  obtain ⟨g, rfl, _⟩ := V.row 0 hl
  refine ⟨_, rfl, fun j v hj => ?_⟩
  have hjl : j < L.length * 2 := by rw [← length_flat]; exact (List.getElem?_eq_some_iff.1 hj).1
  have hk : j / 2 < L.length := by omega
  have hf := flat_get L (j / 2) hk
  obtain ⟨c1, c2⟩ := V.at (j / 2) hk
  rw [Addr.add_lit, Nat.zero_add]
  by_cases he : j % 2 = 0
  · rw [show j / 2 * 2 = j by omega] at hf c1
    rw [hf.1] at hj
    rw [c1, hj]
  · rw [show j / 2 * 2 + 1 = j by omega] at hf c2
    rw [hf.2] at hj
    rw [c2, hj]

end Go.Proofs.YtaklbofbhanjgaaDoor
namespace Go.Proofs.YtaklbofbhanjgaaDoor
open Go.RowKit
set_option maxRecDepth 100000

set_option maxRecDepth 1000000 in
set_option maxHeartbeats 1000000 in
theorem bitlen0 (w : World) : Calls Tryd.prog 94 #[.int .u64 0] w fun e w' => ∃ k : Int, e = .returned (.int .i64 k) ∧ w' = w := by
  go_enter Tryd.func94, Tryd.ntmps94
  go_wp2
  go_ret
  exact ⟨_, rfl, rfl⟩
set_option maxRecDepth 1000000 in
set_option maxHeartbeats 1000000 in
theorem bitlen2 (w : World) : Calls Tryd.prog 94 #[.int .u64 2] w fun e w' => ∃ k : Int, e = .returned (.int .i64 k) ∧ w' = w := by
  go_enter Tryd.func94, Tryd.ntmps94
  go_wp2
  go_ret
  exact ⟨_, rfl, rfl⟩

set_option maxHeartbeats 1000000 in
theorem cmp_any (a b c d : Int) (w : World) : Calls Tryd.prog 97 #[.agg #[.int .u64 a, .int .u64 b], .agg #[.int .u64 c, .int .u64 d]] w fun e w' => e = .returned (.int .i64 (if a < c then -1 else if c < a then 1 else 0)) ∧ Below w.heap.size w w' := by
  have HB : Hid _ := boxes (w := w) (.cells #[.int .u64 a, .int .u64 b] 92) (.cells #[.int .u64 c, .int .u64 d] 92)
  by_cases h1 : a < c
  · rw [if_pos h1]
    go_enter Tryd.func97, Tryd.ntmps97
    go_wp2
    go_ret
    exact ⟨rfl, HB.out⟩
  · rw [if_neg h1]
    by_cases h2 : c < a
    · rw [if_pos h2]
      go_enter Tryd.func97, Tryd.ntmps97
      go_wp2
      go_ret
      exact ⟨rfl, HB.out⟩
    · rw [if_neg h2]
      go_enter Tryd.func97, Tryd.ntmps97
      go_wp2
      go_ret
      exact ⟨rfl, HB.out⟩

set_option maxHeartbeats 1000000 in
theorem insertion0 (w : World) (a : Option Addr) (cap : Nat) (f : Value) : Calls Tryd.prog 119 #[.slice a 0 cap, .int .i64 0, .int .i64 0, f] w fun e w' => e = .returned (.tuple #[]) ∧ w' = w := by
  go_enter Tryd.func119, Tryd.ntmps119
  go_wp2
  refine wp_loop_rounds 1 ?_
  rw [rounds_succ]
  go_wp2
  go_end0
  exact ⟨rfl, rfl⟩

set_option maxHeartbeats 1000000 in
theorem pdq0 (w : World) (a : Option Addr) (cap : Nat) (f : Value) (lim : Int) : Calls Tryd.prog 113 #[.slice a 0 cap, .int .i64 0, .int .i64 0, .int .i64 lim, f] w fun e w' => e = .returned (.tuple #[]) ∧ w' = w := by
  go_enter Tryd.func113, Tryd.ntmps113
  go_wp2
  refine wp_loop_rounds 1 ?_
  rw [rounds_succ]
  go_wp2_with fail
  refine (insertion0 _ _ _ _).mono ?_
  rintro e w' ⟨rfl, rfl⟩
  go_wp2
  refine bodyPost_ret (results_none rfl _ _ _) rfl ?_
  exact ⟨rfl, rfl⟩

set_option maxHeartbeats 1000000 in
theorem sort0 (w : World) (a : Option Addr) (cap : Nat) (f : Value) : Calls Tryd.prog 96 #[.slice a 0 cap, f] w fun e w' => e = .returned (.tuple #[]) ∧ w' = w := by
  go_enter Tryd.func96, Tryd.ntmps96
  go_wp2_with fail
  refine (bitlen0 _).mono ?_
  rintro e w' ⟨k, rfl, rfl⟩
  go_wp2_with fail
  refine (pdq0 _ _ _ _ _).mono ?_
  rintro e w' ⟨rfl, rfl⟩
  go_wp2
  go_end0
  exact ⟨rfl, rfl⟩

end Go.Proofs.YtaklbofbhanjgaaDoor
namespace Go.Proofs.YtaklbofbhanjgaaDoor
open Go.RowKit
set_option maxRecDepth 100000

/-- What slices.SortFunc does to a row of stretches. -/
def SortSaid : Prop := ∀ (w : World) (g : Nat) (L : List Rg), w.heap[g]? = some (.cells (flat L).toArray 92 (0, 0)) → L.length * 16 ≤ 140737488355328 →
  Calls Tryd.prog 96 #[.slice (some ⟨g, 0, none⟩) L.length L.length, .func (.func 97) #[] #[]] w fun e w' => e = .returned (.tuple #[]) ∧ ∃ L' : List Rg, L'.Perm L ∧ w'.heap[g]? = some (.cells (flat L').toArray 92 (0, 0)) ∧ w.grownBy w' (some g)

def addAll (L : List Rg) : List Rg := L.foldl addL []
theorem addAll_snoc (L : List Rg) (k : Nat) (h : k < L.length) : addAll (L.take (k + 1)) = addL (addAll (L.take k)) L[k] := by
  unfold addAll
  rw [List.take_succ_eq_append_getElem h, List.foldl_append]
  rfl
theorem addAll_fit (L : List Rg) (hw : ∀ r ∈ L, 0 ≤ r.1 ∧ r.2 ≤ 18446744073709551615) : ∀ k, k ≤ L.length → Fit (addAll (L.take k)) ∧ (addAll (L.take k)).length ≤ k := by
  intro k
  induction k with
  | zero => intro _; exact ⟨⟨fun r h => by simp [addAll] at h, by simp [addAll]⟩, by simp [addAll]⟩
  | succ k ih =>
    intro hk
    obtain ⟨hF, hl⟩ := ih (by omega)
    have hr := hw L[k] (List.getElem_mem (by omega))
    rw [addAll_snoc L k (by omega)]
    exact ⟨addL_fit hF _ hr.1 hr.2, Nat.le_trans (addL_length hF _) (by omega)⟩

theorem row_pair {w : World} {g : Nat} {L : List Rg} (hg : w.heap[g]? = some (.cells (flat L).toArray 92 (0, 0))) (i : Nat) (h : i < L.length) : w.cell? ⟨g, i * 2, none⟩ = some (.int .u64 (L[i]).1) ∧ w.cell? ⟨g, i * 2 + 1, none⟩ = some (.int .u64 (L[i]).2) := by
  have hf := flat_get L i h
  rw [cell_of_row w g _ _ _ _ hg, cell_of_row w g _ _ _ _ hg, ← hf.1, ← hf.2]
  simp

/-- The set at p, all of it in memory from B on. -/
structure Own (B : Nat) (w : World) (p : Nat) (v : Value) (L : List Rg) : Prop where
  set : SetAt w p v L
  at_ : B ≤ p
  row : ∀ x, v.ownBlock = some x → B ≤ x
theorem Own.kept {B : Nat} {w w' : World} {p : Nat} {v : Value} {L : List Rg} (O : Own B w p v L) (hb : Below w.heap.size w w') : Own B w' p v L := ⟨O.set.kept hb, O.at_, O.row⟩
theorem Own.turned {B : Nat} {w w' : World} {p : Nat} {v v' : Value} {L L' : List Rg} (O : Own B w p v L) (S : SetAt w' p v' L') (T : Turned w w' p v v') : Own B w' p v' L' ∧ Below B w w' := by
  have hpw : p < w.heap.size := (Array.getElem?_eq_some_iff.1 O.set.hp).1
  refine ⟨⟨S, O.at_, fun x hx => ?_⟩, ⟨T.os, T.tape, T.output, T.size, fun k hk => T.block k ?_ ?_ ?_⟩⟩
  · rcases T.row with h | ⟨g, h, hg⟩
    · rw [h] at hx; exact O.row x hx
    · rw [h] at hx; simp only [Option.some.injEq] at hx; have := O.at_; omega
  · have := O.at_; omega
  · have := O.at_; omega
  · intro e
    have := O.row k e.symm
    omega

theorem build62 : ∀ w, (Instr.build 60 #[]).run Tryd.prog w = .ok (.agg #[.slice none 0 0]) w := fun _ => by kernel_rfl

set_option maxHeartbeats 1000000 in
/-- New of any ranges. -/
theorem new_any (hSort : SortSaid) {w : World} {a : Option Addr} {cap : Nat} {L : List Rg} (C : Cells w a L) (hf : (L.length + 1) * 16 ≤ 140737488355328) (hw : ∀ r ∈ L, 0 ≤ r.1 ∧ r.2 ≤ 18446744073709551615) :
    Calls Tryd.prog 77 #[.slice a L.length cap] w fun e w' => ∃ p, e = .returned (.pointer (some ⟨p, 0, none⟩)) ∧ ∃ v L', L'.Perm L ∧ Own w.heap.size w' p v (addAll L') ∧ Below w.heap.size w w' := by
  have hC := copied_any (cap := cap) C (by omega)
  clear C
  have HW : Hid _ := hw
  clear hw
  go_enter Tryd.func77, Tryd.ntmps77
  go_wp2_with fail
  refine hC.mono ?_
  rintro e w1 ⟨g, rfl, hg1, hr1, hb1⟩
  have hS := hSort w1 g L hr1 (by omega)
  have HB1 : Hid _ := hb1
  clear hC hr1 hb1
  go_wp2_with fail
  refine hS.mono ?_
  rintro e w2 ⟨rfl, L', hP, hr2, hg2⟩
  clear hS
  have hlen := hP.length_eq
  have HP : Hid _ := hP
  have HB2 : Hid (Below w.heap.size w w2) := HB1.out.grown hg2 HB1.out.size (fun k e => by simp at e; omega)
  have HR2 : Hid _ := hr2
  clear hP hr2 hg2 HB1
  rw [← hlen] at hf ⊢
  have HWL : Hid (∀ r ∈ L', 0 ≤ r.1 ∧ r.2 ≤ 18446744073709551615) := fun r hr => HW.out r (HP.out.mem_iff.1 hr)
  clear HW hlen
  have hgl : g < w2.heap.size := (Array.getElem?_eq_some_iff.1 HR2.out).1
  have HBX : Hid _ := below_box w2 (.cells #[.slice none 0 0] 60)
  have HO : Hid (Own w2.heap.size (w2.alloc (.cells #[.slice none 0 0] 60)) w2.heap.size (.slice none 0 0) (addAll (L'.take 0))) :=
    ⟨⟨heap_alloc_new w2 _, by simpa [addAll, flat] using World.ownsRow_nil _ 0 92 2⟩, Nat.le_refl _, fun x h => by simp [Value.ownBlock] at h⟩
  have HRB : Hid ((w2.alloc (.cells #[.slice none 0 0] 60)).heap[g]? = some (.cells (flat L').toArray 92 (0, 0))) := by
    show _ = _
    rw [Below.heap_alloc _ _ _ hgl]
    exact HR2.out
  go_wp2_with fail
  go_loopw [15] (fun i wr => ∃ (k : Nat) (v : Value), k ≤ L'.length ∧ i = .int .i64 k ∧ Own w2.heap.size wr w2.heap.size v (addAll (L'.take k)) ∧ Below w2.heap.size w2 wr) (fun i _ => L'.length - (intOf i).toNat)
  case atStart => exact ⟨0, _, Nat.zero_le _, rfl, HO.out, HBX.out⟩
  case round =>
    obtain ⟨k, v, hk, rfl, hO, hb⟩ := hrel
    have HOk : Hid _ := hO
    have HBk : Hid _ := hb
    clear hO hb
    by_cases hlt : k < L'.length
    · have hrow : wr.heap[g]? = some (.cells (flat L').toArray 92 (0, 0)) := by rw [HBk.out.block g hgl]; exact HR2.out
      obtain ⟨c1, c2⟩ := row_pair hrow k hlt
      have hfit := addAll_fit L' HWL.out k hk
      have hr := HWL.out L'[k] (List.getElem_mem hlt)
      have HN : Hid _ := addAll_snoc L' k hlt
      have hA := add_any (HOk.out.kept (below_box wr (.cells #[.int .u64 L'[k].1, .int .u64 L'[k].2] 92))).set hfit.1 (by omega) L'[k] hr.1 hr.2
      clear hrow hfit hr
      generalize L'[k] = r at *
      obtain ⟨rl, rh⟩ := r
      simp only at c1 c2 hA
      have hki : (k : Int) < (L'.length : Int) := by omega
      go_wp2_with fail
      refine hA.mono ?_
      rintro e w5 ⟨rfl, v', hS5, hT5⟩
      have hX := (HOk.out.kept (below_box wr _)).turned hS5 hT5
      have HX : Hid _ := hX
      clear hS5 hT5 hX hA
      go_wp2
      go_roundw
      case rel => exact ⟨k + 1, v', hlt, by go_num, by rw [HN.out]; exact HX.out.1, HBk.out.trans (((below_box wr _).mono HBk.out.size).trans HX.out.2)⟩
      case measure => simp [intOf]; omega
    · have e : k = L'.length := by omega
      subst e
      rw [List.take_length] at HOk
      have hki : ¬ (L'.length : Int) < (L'.length : Int) := by omega
      go_wp2
      go_ret
      refine ⟨_, rfl, v, L', HP.out, ⟨HOk.out.set, HB2.out.size, fun x hx => Nat.le_trans HB2.out.size (HOk.out.row x hx)⟩, HB2.out.trans (HBk.out.mono HB2.out.size)⟩

end Go.Proofs.YtaklbofbhanjgaaDoor
namespace Go.Proofs.YtaklbofbhanjgaaDoor
open Go.RowKit
set_option maxRecDepth 100000

set_option maxRecDepth 1000000 in
set_option maxHeartbeats 1000000 in
theorem ibitlen0 (w : World) : Calls Tryd.prog 94 #[.int .u64 0] w fun e w' => ∃ k : Int, e = .returned (.int .i64 k) ∧ w' = w := by
  go_enter Tryd.func94, Tryd.ntmps94
  go_wp2
  go_ret
  exact ⟨_, rfl, rfl⟩
set_option maxHeartbeats 1000000 in
theorem iinsertion0 (w : World) (a : Option Addr) (cap : Nat) (f : Value) : Calls Tryd.prog 119 #[.slice a 0 cap, .int .i64 0, .int .i64 0, f] w fun e w' => e = .returned (.tuple #[]) ∧ w' = w := by
  go_enter Tryd.func119, Tryd.ntmps119
  go_wp2
  refine wp_loop_rounds 1 ?_
  rw [rounds_succ]
  go_wp2
  refine bodyPost_end (results_none Tryd.results119 _ _ _) rfl ?_
  exact ⟨rfl, rfl⟩
set_option maxHeartbeats 1000000 in
theorem ipdq0 (w : World) (a : Option Addr) (cap : Nat) (f : Value) (lim : Int) : Calls Tryd.prog 113 #[.slice a 0 cap, .int .i64 0, .int .i64 0, .int .i64 lim, f] w fun e w' => e = .returned (.tuple #[]) ∧ w' = w := by
  go_enter Tryd.func113, Tryd.ntmps113
  go_wp2
  refine wp_loop_rounds 1 ?_
  rw [rounds_succ]
  go_wp2_with fail
  refine (iinsertion0 _ _ _ _).mono ?_
  rintro e w' ⟨rfl, rfl⟩
  go_wp2
  refine bodyPost_ret (results_none rfl _ _ _) rfl ?_
  exact ⟨rfl, rfl⟩
set_option maxHeartbeats 1000000 in
theorem isort0 (w : World) (a : Option Addr) (cap : Nat) (f : Value) : Calls Tryd.prog 96 #[.slice a 0 cap, f] w fun e w' => e = .returned (.tuple #[]) ∧ w' = w := by
  go_enter Tryd.func96, Tryd.ntmps96
  go_wp2_with fail
  refine (ibitlen0 _).mono ?_
  rintro e w' ⟨k, rfl, rfl⟩
  go_wp2_with fail
  refine (ipdq0 _ _ _ _ _).mono ?_
  rintro e w' ⟨rfl, rfl⟩
  go_wp2
  refine bodyPost_end (results_none Tryd.results96 _ _ _) rfl ?_
  exact ⟨rfl, rfl⟩
set_option maxHeartbeats 1000000 in
/-- A set of no ranges. -/
theorem new_none (w : World) :
    Calls Tryd.prog 77 #[.slice none 0 0] w fun e w' => ∃ p, e = .returned (.pointer (some ⟨p, 0, none⟩)) ∧ w'.heap[p]? = some (.cells #[.slice none 0 0] 60 (0, 0)) ∧ Below w.heap.size w w' := by
  have hC := copied_any (w := w) (a := none) (cap := 0) (L := []) ⟨fun h => absurd rfl h⟩ (by simp)
  have hbd := build62
  go_enter Tryd.func77, Tryd.ntmps77
  go_wp2_with (first | (go_at_call 95; refine hC.mono ?_; rintro e w1 ⟨g, rfl, hg1, hr1, hb1⟩; have HB1 := hid hb1; clear hr1 hb1 hC) | (go_at_call 96; refine (isort0 _ _ _ _).mono ?_; rintro e w2 ⟨rfl, rfl⟩))
  refine wp_loop_rounds 1 ?_
  rw [rounds_succ]
  go_wp2
  go_ret
  exact ⟨_, rfl, heap_alloc_new _ _, HB1.out.trans ((below_box _ _).mono HB1.out.size)⟩
end Go.Proofs.YtaklbofbhanjgaaDoor
