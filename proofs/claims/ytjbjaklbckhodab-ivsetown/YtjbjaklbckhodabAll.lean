import Derived.Test.YtjbjaklbckhodabIter
import Derived.Test.YtjbjaklbckhodabPlus
namespace Go.Proofs.Ytjbjaklbckhodab
open Go.RowKit Go.Shelf
set_option maxRecDepth 100000
attribute [local go_sem] Oper.semAt_some

theorem eqin_func_nil (d : Nat) (w : World) (x : Array Value) : (Op.equalIn (d + 1) 78 (.func (.func 68) #[] x) .nilFunc).run Try.prog w = .ok false w := by
  simp [Op.equalIn, run_underlying Try.underlying78]
theorem eql_func_nil (w : World) (x : Array Value) : (binOp .eql 78 (.func (.func 68) #[] x) .nilFunc).run Try.prog w = .ok (.bool false) w := by
  simp only [binOp]
  simp [Op.equal, Op.maxDepth, eqin_func_nil 9999 w x]
/-- What is gathered of a list when it is left behind m of them. -/
def allL (L : List Rg) (m : Int) : List Rg := if 1 ≤ m ∧ m ≤ L.length then L.take m.toNat else L
/-- Among the first n no place was the m-th. -/
def NS (n : Nat) (m : Int) : Prop := ¬ (1 ≤ m ∧ m ≤ n)
/-- The m-th has come just now. -/
def Hit (n : Nat) (m : Int) : Prop := 1 ≤ m ∧ m = n
theorem allL_done {L : List Rg} {m : Int} (h : NS L.length m) : allL L m = L := if_neg h
theorem allL_hit {L pre : List Rg} {m : Int} (hp : pre <+: L) (h : Hit pre.length m) : allL L m = pre := by
  have hl := hp.length_le
  obtain ⟨h1, h2⟩ := h
  unfold allL
  rw [if_pos ⟨h1, by omega⟩, show m.toNat = pre.length by omega]
  exact (List.prefix_iff_eq_take.1 hp).symm

set_option maxHeartbeats 4000000 in
theorem lall_any {w : World} {p : Nat} {a : Option Addr} {cap : Nat} {L : List Rg} (V : View w p a cap L) (hf : L.length * 16 ≤ 140737488355328) (m : Int) :
    Calls Try.prog 22 #[.pointer (some ⟨p, 0, none⟩), .int .i64 m] w fun e w' => ∃ v, e = .returned (.tuple #[v, .bool true]) ∧ w'.ownsRow w.heap.size 25 2 v (allL L m).length (flat (allL L m)) ∧ Below w.heap.size w w' := by
  have HV := hid V
  clear V
  obtain ⟨i0, hi, hz0, hz1, hz2⟩ := info_parts info29'
  have hnil := eql_func_nil
  refine (callsIn_wide (n := 6)).1 ?_
  refine callsIn_of_wp_marks Try.func22 rfl trivial ?_ rfl
  simp only [Try.ntmps22, List.size_toArray, List.length_cons, List.length_nil, Nat.reduceAdd, Nat.reduceSub, Array.replicate_succ, Array.replicate_zero, List.push_toArray, List.append_toArray, List.nil_append, List.cons_append]
  gi_wp2_with (refine ⟨trivial, ?_⟩; gi_at_call 47; refine (all_in _ _ _).mono ?_; rintro e w' ⟨rfl, rfl⟩)
  clear hnil
  have bM := ((Boxed.new w 3 (.int .i64 m)).alloc (.cells #[.slice none 0 0] 22)).alloc (.cells #[.pointer (some ⟨p, 0, none⟩)] 26)
  have bO := (Boxed.new (w.alloc (.cells #[.int .i64 m] 3)) 22 (.slice none 0 0)).alloc (.cells #[.pointer (some ⟨p, 0, none⟩)] 26)
  have bA := Boxed.new ((w.alloc (.cells #[.int .i64 m] 3)).alloc (.cells #[.slice none 0 0] 22)) 26 (.pointer (some ⟨p, 0, none⟩))
  simp only [World.size_alloc] at bO bA
  have hB0 : Below w.heap.size w (((w.alloc (.cells #[.int .i64 m] 3)).alloc (.cells #[.slice none 0 0] 22)).alloc (.cells #[.pointer (some ⟨p, 0, none⟩)] 26)) := (((Below.refl _ w).alloc (Nat.le_refl _) _).alloc (by simp) _).alloc (by simp; omega) _
  have hsz : (((w.alloc (.cells #[.int .i64 m] 3)).alloc (.cells #[.slice none 0 0] 22)).alloc (.cells #[.pointer (some ⟨p, 0, none⟩)] 26)).heap.size = w.heap.size + 3 := by simp
  obtain ⟨W0, hW0⟩ : ∃ W0, ((w.alloc (.cells #[.int .i64 m] 3)).alloc (.cells #[.slice none 0 0] 22)).alloc (.cells #[.pointer (some ⟨p, 0, none⟩)] 26) = W0 := ⟨_, rfl⟩
  rw [hW0] at bM bO bA hB0 hsz ⊢
  clear hW0
  refine wpIn_rangeFunc_ownH rfl (by omega) (gf := 68) (lb := #[.pointer (some ⟨w.heap.size + 1 + 1, 0, none⟩)]) rfl trivial (enters_of Try.func68 (by kernel_rfl) rfl)
    (iter_stops 5 (by omega) (w.heap.size + 1 + 1) p a cap L w W0 (by omega) hB0 bA.cell HV.out) belowK_t (belowK_b (by omega)) (Below.refl _ _) (fun _ => rfl)
    (fun pre W => ((∃ v, Boxed W (w.heap.size + 1) 22 v ∧ W.ownsRow w.heap.size 25 2 v pre.length (flat pre) ∧ NS pre.length m) ∧ Boxed W w.heap.size 3 (.int .i64 m)) ∧ Below w.heap.size w W)
    (fun c pre W => ((∃ v, Boxed W (w.heap.size + 1) 22 v ∧ W.ownsRow w.heap.size 25 2 v pre.length (flat pre) ∧ Hit pre.length m) ∧ c = .exit 0) ∧ Below w.heap.size w W)
    (OwnFrom.and (OwnFrom.and (Own.from (holdsRow_own w.heap.size (w.heap.size + 1) 22 25 2 (fun pre => pre.length) (fun pre => flat pre) (fun pre _ => NS pre.length m)) _) (Own.from (boxed_own _ _ _) _)) (ownFrom_below (Nat.le_refl _) (by omega)))
    (fun c => OwnFrom.and (OwnFrom.and (Own.from (holdsRow_own w.heap.size (w.heap.size + 1) 22 25 2 (fun pre => pre.length) (fun pre => flat pre) (fun pre _ => Hit pre.length m)) _) (ownFrom_pure _ (fun _ => c = .exit 0))) (ownFrom_below (Nat.le_refl _) (by omega)))
    ⟨⟨⟨_, bO, World.ownsRow_nil _ _ _ _, by unfold NS; simp; omega⟩, bM⟩, hB0⟩
    (fun x a' W => ∃ Bx, w.heap.size + 1 < Bx ∧ Row W Bx [.int .u64 x.1, .int .u64 x.2] 25 ∧ a' = { tmps := #[.pointer (some ⟨p, 0, none⟩), .int .i64 m, undef, .pointer (some ⟨w.heap.size, 0, none⟩), .slice none 0 0, .bool false, .pointer (some ⟨w.heap.size + 1, 0, none⟩), .func (.func 68) #[] #[.pointer (some ⟨w.heap.size + 1 + 1, 0, none⟩)], .pointer (some ⟨Bx, 0, none⟩), .pointer (some ⟨p, 0, none⟩), .func (.func 68) #[] #[.pointer (some ⟨w.heap.size + 1 + 1, 0, none⟩)], .func (.func 68) #[] #[.pointer (some ⟨w.heap.size + 1 + 1, 0, none⟩)], .bool false, .func (.func 68) #[] #[.pointer (some ⟨w.heap.size + 1 + 1, 0, none⟩)], .agg #[.int .u64 x.1, .int .u64 x.2], undef, undef, undef, undef, undef, undef, undef, undef, undef], defers := [] })
    (fun x a' _ X Y row hs hg hr => by obtain ⟨Bx, h1, h2, h3⟩ := hs; exact ⟨Bx, h1, row_own Bx 25 (fun (_ : Unit) => [.int .u64 x.1, .int .u64 x.2]) () X Y row h2 hg (fun r e => (hr r e).2), h3⟩)
    ?assign ?body ?done ?stop
  case assign =>
    rintro l pre x W K ⟨⟨⟨v, bO1, hrow, hns⟩, bM1⟩, hB1⟩ hK
    simp only [encsR]
    gi_wp2
    exact hK _ _ ((KeepsOthers.alloc _ _).from _) ((Below.refl _ W).alloc hB1.size _) ⟨⟨⟨v, bO1.alloc _, hrow.alloc _, hns⟩, bM1.alloc _⟩, hB1.alloc hB1.size _⟩ ⟨W.heap.size, bO1.lt, Row.new' _ _ _ _ _ rfl rfl, rfl⟩
  case body =>
    rintro l pre x a' W hl ⟨r, hr⟩ ⟨⟨⟨v, hv, hrow, hns⟩, bM1⟩, hB1⟩ ⟨Bx, hBx, bX, rfl⟩ hlt
    have hc := hv.cell
    have cX0 := bX.cell 0 _ rfl
    have cX1 := bX.cell 1 _ rfl
    have HNS := hid hns
    obtain ⟨av, cv, rfl, _⟩ := owns_shape hrow
    have HROW := hid hrow
    have HB := hid hB1
    have HM := hid bM1
    clear hns hrow hB1 bM1
    gi_wp2_with (gi_at_builtin; refine wpListIn_append_own _ rfl _ _ 22 rfl w.heap.size 25 i0 (.agg #[.int .u64 0, .int .u64 0]) 2 16 Try.underlying22 hi hz0 hz1 hz2 rfl (by decide) _ _ _ rfl (HROW.out.alloc _) ⟨W.heap.size, 0, none⟩ 1 1 [.int .u64 x.1, .int .u64 x.2] rfl rfl (box_range W 25 _) (pair_one x.1 x.2) (by unfold maxLen; omega) (by omega) (by have := HB.out.size; simp; omega) ?_; intro v' w1 hown' hgrow _; obtain ⟨g', cap', rfl⟩ := ownsRow_succ hown'; obtain ⟨hv1, hv2, hr2, hk2, hb2⟩ := hv.appended (by decide) HROW.out HB.out.size (by omega) hown' hgrow; have hc1 := hv1.cell; have hf1 := hv1.frozen; have hc2 := hv2.cell; have hm2 : Boxed (w1.setCell ⟨w.heap.size + 1, 0, none⟩ (.slice (some ⟨g', 0, none⟩) (pre.length + 1) cap')) w.heap.size 3 (.int .i64 m) := ((HM.out.alloc _).kept hgrow (HM.out.not_row (by decide) HROW.out)).other (by omega) _; have hcm := hm2.cell; clear hgrow hown')
    · have hx : ((pre.length : Int) + 1 == m) = true := by assumption
      simp only [beq_iff_eq] at hx
      have hl : (pre ++ [x]).length = pre.length + 1 := by simp
      exact ⟨hk2.from _, ⟨⟨_, hv2, by rw [hl, flat_append, flat_cons]; exact hr2, by rw [hl]; exact ⟨by omega, by omega⟩⟩, rfl⟩, HB.out.trans hb2⟩
    · have hx : ((pre.length : Int) + 1 == m) = false := by assumption
      simp only [beq_eq_false_iff_ne, ne_eq] at hx
      have hl : (pre ++ [x]).length = pre.length + 1 := by simp
      exact ⟨hk2.from _, hb2, ⟨⟨_, hv2, by rw [hl, flat_append, flat_cons]; exact hr2, by rw [hl]; have := HNS.out; unfold NS at this ⊢; omega⟩, hm2⟩, HB.out.trans hb2⟩
  case done =>
    rintro D ys W hD rfl ⟨⟨⟨v, hv, hrow, hns⟩, bM1⟩, hB1⟩ hK
    have hc := hv.cell
    obtain ⟨av, cv, rfl, _⟩ := owns_shape hrow
    gi_wp2
    refine ⟨by simp, .inl ⟨_, _, rfl, run_takeDeferred hK, ?_⟩⟩
    rw [allL_done hns]
    exact ⟨_, results_tmp2 rfl _ _ _, _, rfl, ownsRow_putObj hrow _ hK rfl, hB1.trans (belowK_b (w := w) (Nat.le_refl _) W D _ _ (by omega) hK rfl rfl)⟩
  case stop =>
    rintro D c pre W hD hpre ⟨⟨⟨v, hv, hrow, hh⟩, rfl⟩, hB1⟩ hK
    have hc := hv.cell
    obtain ⟨av, cv, rfl, _⟩ := owns_shape hrow
    gi_wp2
    refine ⟨by simp, .inl ⟨_, _, rfl, run_takeDeferred hK, ?_⟩⟩
    rw [allL_hit hpre hh]
    exact ⟨_, results_tmp2 rfl _ _ _, _, rfl, ownsRow_putObj hrow _ hK rfl, hB1.trans (belowK_b (w := w) (Nat.le_refl _) W D _ _ (by omega) hK rfl rfl)⟩
end Go.Proofs.Ytjbjaklbckhodab
