import Derived.Test.YtjbjaklbckhodabSort0
namespace Go.Proofs.Ytjbjaklbckhodab
open Go.RowKit
set_option maxRecDepth 100000

/-- What slices.SortFunc does to a row of stretches. -/
def SortSaid : Prop := ∀ (w : World) (g : Nat) (L : List Rg), w.heap[g]? = some (.cells (flat L).toArray 25 (0, 0)) → L.length * 16 ≤ 140737488355328 →
  Calls Try.prog 18 #[.slice (some ⟨g, 0, none⟩) L.length L.length, .func (.func 19) #[] #[]] w fun e w' => e = .returned (.tuple #[]) ∧ ∃ L' : List Rg, L'.Perm L ∧ w'.heap[g]? = some (.cells (flat L').toArray 25 (0, 0)) ∧ w.grownBy w' (some g)

def addAll (L : List Rg) : List Rg := L.foldl addL []
theorem addAll_snoc (L : List Rg) (k : Nat) (h : k < L.length) : addAll (L.take (k + 1)) = addL (addAll (L.take k)) L[k] := by
  unfold addAll
  rw [List.take_succ_eq_append_getElem h, List.foldl_append]
  rfl
theorem addAll_fit (L : List Rg) (hw : ∀ r ∈ L, 0 ≤ r.1 ∧ r.2 ≤ 18446744073709551615) : ∀ k, k ≤ L.length → Fit (addAll (L.take k)) ∧ (addAll (L.take k)).length ≤ k := by
  intro k
  induction k with
  | zero => intro _; exact ⟨⟨fun r h => by simp [addAll] at h, by simp [addAll]⟩, by simp [addAll]⟩
  | succ k ih =>
    intro hk
    obtain ⟨hF, hl⟩ := ih (by omega)
    have hr := hw L[k] (List.getElem_mem (by omega))
    rw [addAll_snoc L k (by omega)]
    exact ⟨addL_fit hF _ hr.1 hr.2, Nat.le_trans (addL_length hF _) (by omega)⟩

theorem row_pair {w : World} {g : Nat} {L : List Rg} (hg : w.heap[g]? = some (.cells (flat L).toArray 25 (0, 0))) (i : Nat) (h : i < L.length) : w.cell? ⟨g, i * 2, none⟩ = some (.int .u64 (L[i]).1) ∧ w.cell? ⟨g, i * 2 + 1, none⟩ = some (.int .u64 (L[i]).2) := by
  have hf := flat_get L i h
  rw [cell_of_row w g _ _ _ _ hg, cell_of_row w g _ _ _ _ hg, ← hf.1, ← hf.2]
  simp

/-- The set at p, all of it in memory from B on. -/
structure Own (B : Nat) (w : World) (p : Nat) (v : Value) (L : List Rg) : Prop where
  set : SetAt w p v L
  at_ : B ≤ p
  row : ∀ x, v.ownBlock = some x → B ≤ x
theorem Own.kept {B : Nat} {w w' : World} {p : Nat} {v : Value} {L : List Rg} (O : Own B w p v L) (hb : Below w.heap.size w w') : Own B w' p v L := ⟨O.set.kept hb, O.at_, O.row⟩
theorem Own.turned {B : Nat} {w w' : World} {p : Nat} {v v' : Value} {L L' : List Rg} (O : Own B w p v L) (S : SetAt w' p v' L') (T : Turned w w' p v v') : Own B w' p v' L' ∧ Below B w w' := by
  have hpw : p < w.heap.size := (Array.getElem?_eq_some_iff.1 O.set.hp).1
  refine ⟨⟨S, O.at_, fun x hx => ?_⟩, ⟨T.os, T.tape, T.output, T.size, fun k hk => T.block k ?_ ?_ ?_⟩⟩
  · rcases T.row with h | ⟨g, h, hg⟩
    · rw [h] at hx; exact O.row x hx
    · rw [h] at hx; simp only [Option.some.injEq] at hx; have := O.at_; omega
  · have := O.at_; omega
  · have := O.at_; omega
  · intro e
    have := O.row k e.symm
    omega

theorem build62 : ∀ w, (Instr.build 55 #[]).run Try.prog w = .ok (.agg #[.slice none 0 0]) w := fun _ => by kernel_rfl

set_option maxHeartbeats 1000000 in
/-- New of any ranges. -/
theorem new_any (hSort : SortSaid) {w : World} {a : Option Addr} {cap : Nat} {L : List Rg} (C : Cells w a L) (hf : (L.length + 1) * 16 ≤ 140737488355328) (hw : ∀ r ∈ L, 0 ≤ r.1 ∧ r.2 ≤ 18446744073709551615) :
    Calls Try.prog 6 #[.slice a L.length cap] w fun e w' => ∃ p, e = .returned (.pointer (some ⟨p, 0, none⟩)) ∧ ∃ v L', L'.Perm L ∧ Own w.heap.size w' p v (addAll L') ∧ Below w.heap.size w w' := by
  have hC := copied_any (cap := cap) C (by omega)
  clear C
  have HW : Hid _ := hw
  clear hw
  go_enter Try.func6, Try.ntmps6
  go_wp2_with fail
  refine hC.mono ?_
  rintro e w1 ⟨g, rfl, hg1, hr1, hb1⟩
  have hS := hSort w1 g L hr1 (by omega)
  have HB1 : Hid _ := hb1
  clear hC hr1 hb1
  go_wp2_with fail
  refine hS.mono ?_
  rintro e w2 ⟨rfl, L', hP, hr2, hg2⟩
  clear hS
  have hlen := hP.length_eq
  have HP : Hid _ := hP
  have HB2 : Hid (Below w.heap.size w w2) := HB1.out.grown hg2 HB1.out.size (fun k e => by simp at e; omega)
  have HR2 : Hid _ := hr2
  clear hP hr2 hg2 HB1
  rw [← hlen] at hf ⊢
  have HWL : Hid (∀ r ∈ L', 0 ≤ r.1 ∧ r.2 ≤ 18446744073709551615) := fun r hr => HW.out r (HP.out.mem_iff.1 hr)
  clear HW hlen
  have hgl : g < w2.heap.size := (Array.getElem?_eq_some_iff.1 HR2.out).1
  have HBX : Hid _ := below_box w2 (.cells #[.slice none 0 0] 55)
  have HO : Hid (Own w2.heap.size (w2.alloc (.cells #[.slice none 0 0] 55)) w2.heap.size (.slice none 0 0) (addAll (L'.take 0))) :=
    ⟨⟨heap_alloc_new w2 _, by simpa [addAll, flat] using World.ownsRow_nil _ 0 25 2⟩, Nat.le_refl _, fun x h => by simp [Value.ownBlock] at h⟩
  have HRB : Hid ((w2.alloc (.cells #[.slice none 0 0] 55)).heap[g]? = some (.cells (flat L').toArray 25 (0, 0))) := by
    show _ = _
    rw [Below.heap_alloc _ _ _ hgl]
    exact HR2.out
  go_wp2_with fail
  go_loopw [15] (fun i wr => ∃ (k : Nat) (v : Value), k ≤ L'.length ∧ i = .int .i64 k ∧ Own w2.heap.size wr w2.heap.size v (addAll (L'.take k)) ∧ Below w2.heap.size w2 wr) (fun i _ => L'.length - (intOf i).toNat)
  case atStart => exact ⟨0, _, Nat.zero_le _, rfl, HO.out, HBX.out⟩
  case round =>
    obtain ⟨k, v, hk, rfl, hO, hb⟩ := hrel
    have HOk : Hid _ := hO
    have HBk : Hid _ := hb
    clear hO hb
    by_cases hlt : k < L'.length
    · have hrow : wr.heap[g]? = some (.cells (flat L').toArray 25 (0, 0)) := by rw [HBk.out.block g hgl]; exact HR2.out
      obtain ⟨c1, c2⟩ := row_pair hrow k hlt
      have hfit := addAll_fit L' HWL.out k hk
      have hr := HWL.out L'[k] (List.getElem_mem hlt)
      have HN : Hid _ := addAll_snoc L' k hlt
      have hA := add_any (HOk.out.kept (below_box wr (.cells #[.int .u64 L'[k].1, .int .u64 L'[k].2] 25))).set hfit.1 (by omega) L'[k] hr.1 hr.2
      clear hrow hfit hr
      generalize L'[k] = r at *
      obtain ⟨rl, rh⟩ := r
      simp only at c1 c2 hA
      have hki : (k : Int) < (L'.length : Int) := by omega
      go_wp2_with fail
      refine hA.mono ?_
      rintro e w5 ⟨rfl, v', hS5, hT5⟩
      have hX := (HOk.out.kept (below_box wr _)).turned hS5 hT5
      have HX : Hid _ := hX
      clear hS5 hT5 hX hA
      go_wp2
      go_roundw
      case rel => exact ⟨k + 1, v', hlt, by go_num, by rw [HN.out]; exact HX.out.1, HBk.out.trans (((below_box wr _).mono HBk.out.size).trans HX.out.2)⟩
      case measure => simp [intOf]; omega
    · have e : k = L'.length := by omega
      subst e
      rw [List.take_length] at HOk
      have hki : ¬ (L'.length : Int) < (L'.length : Int) := by omega
      go_wp2
      go_ret
      refine ⟨_, rfl, v, L', HP.out, ⟨HOk.out.set, HB2.out.size, fun x hx => Nat.le_trans HB2.out.size (HOk.out.row x hx)⟩, HB2.out.trans (HBk.out.mono HB2.out.size)⟩

end Go.Proofs.Ytjbjaklbckhodab
