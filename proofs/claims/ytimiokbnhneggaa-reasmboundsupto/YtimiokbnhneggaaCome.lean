import Derived.Test.YtimiokbnhneggaaBf2
import Derived.Test.YtimiokbnhneggaaIvIter
namespace Go.Proofs.Ytimiokbnhneggaa
open Go.RowKit Go.Maps Go.Shelf
set_option maxRecDepth 100000
attribute [local go_sem] Oper.semAt_some

/-- The offset behind the last of the stretches; rd, if there is none. -/
def comeOf (rd : Int) (L : List Rg) : Int := (L.getLast?.map (·.2)).getD rd
theorem comeOf_snoc (rd : Int) (L : List Rg) (x : Rg) : comeOf rd (L ++ [x]) = x.2 := by simp [comeOf]
theorem come_nil (rd : Int) : comeOf rd [] = rd := rfl
set_option maxHeartbeats 2000000 in
theorem come_any {w : World} {p b : Nat} {v : Value} {F : Bf} (h : BufR w p v b F) :
    Calls Try.prog 38 #[.pointer (some ⟨p, 0, none⟩)] w fun e w' => e = .returned (.int .u64 (comeOf F.read F.L)) ∧ Below w.heap.size w w' := by
  have c5 := h.row.cell 5 _ rfl
  obtain ⟨a, cap, rfl, V⟩ := h.view
  have HV := hid V
  clear V h
  generalize F.read = rd at *
  generalize F.L = L at *
  refine (callsIn_wide (n := 6)).1 ?_
  refine callsIn_of_wp_marks Try.func38 rfl trivial ?_ rfl
  simp only [Try.ntmps38, List.size_toArray, List.length_cons, List.length_nil, Nat.reduceAdd, Nat.reduceSub, Array.replicate_succ, Array.replicate_zero, List.push_toArray, List.append_toArray, List.nil_append, List.cons_append]
  gi_wp2_with (refine ⟨trivial, ?_⟩; gi_at_call 54; refine (all_in _ _ _).mono ?_; rintro e w' ⟨rfl, rfl⟩)
  have bS := (row_new1 w (.int .u64 rd) 28).alloc (.cells #[.pointer (some ⟨p, 0, none⟩)] 69)
  have bA := row_new1 (w.alloc (.cells #[.int .u64 rd] 28)) (.pointer (some ⟨p, 0, none⟩)) 69
  simp only [World.size_alloc] at bA
  have hB0 : Below w.heap.size w ((w.alloc (.cells #[.int .u64 rd] 28)).alloc (.cells #[.pointer (some ⟨p, 0, none⟩)] 69)) := ((Below.refl _ w).alloc (Nat.le_refl _) _).alloc (by simp) _
  have hsz : ((w.alloc (.cells #[.int .u64 rd] 28)).alloc (.cells #[.pointer (some ⟨p, 0, none⟩)] 69)).heap.size = w.heap.size + 2 := by simp
  obtain ⟨W0, hW0⟩ : ∃ W0, (w.alloc (.cells #[.int .u64 rd] 28)).alloc (.cells #[.pointer (some ⟨p, 0, none⟩)] 69) = W0 := ⟨_, rfl⟩
  rw [hW0] at bS bA hB0 hsz ⊢
  clear hW0
  refine wpIn_rangeFunc_ownH rfl (by omega) (gf := 69) (lb := #[.pointer (some ⟨w.heap.size + 1, 0, none⟩)]) rfl trivial (enters_of Try.func69 (by kernel_rfl) rfl)
    (iter_stops 5 (by omega) (w.heap.size + 1) p a cap L w W0 (by omega) hB0 (bA.cell 0 _ rfl) HV.out) belowK_t (belowK_b (by omega)) (Below.refl _ _) (fun _ => rfl)
    (fun pre W => Row W w.heap.size [.int .u64 (comeOf rd pre)] 28 ∧ Below w.heap.size w W)
    (fun _ _ _ => False)
    (OwnFrom.and (Own.from (row_own _ _ (fun pre : List Rg => [.int .u64 (comeOf rd pre)])) _) (ownFrom_below (Nat.le_refl _) (by omega)))
    (fun _ _ _ _ _ hs _ _ => hs)
    ⟨bS, hB0⟩
    (fun x a' W => ∃ Bx, w.heap.size < Bx ∧ Row W Bx [.int .u64 x.1, .int .u64 x.2] 50 ∧ a' = { tmps := #[.pointer (some ⟨p, 0, none⟩), undef, .int .u64 0, .pointer (some ⟨w.heap.size, 0, none⟩), .pointer (some ⟨Bx, 0, none⟩), .pointer (some ⟨p, 0, none⟩), .pointer (some ⟨p, 0, none⟩), .pointer (some ⟨p, 5, none⟩), .int .u64 rd, .pointer (some ⟨p, 0, none⟩), .pointer (some ⟨p, 0, none⟩), .pointer (some ⟨p, 0, none⟩), .func (.func 69) #[] #[.pointer (some ⟨w.heap.size + 1, 0, none⟩)], .agg #[.int .u64 x.1, .int .u64 x.2], undef, undef, undef], defers := [] })
    (fun x a' _ X Y row hs hg hr => by obtain ⟨Bx, h1, h2, h3⟩ := hs; exact ⟨Bx, h1, row_own Bx 50 (fun (_ : Unit) => [.int .u64 x.1, .int .u64 x.2]) () X Y row h2 hg (fun r e => (hr r e).2), h3⟩)
    ?assign ?body ?done ?stop
  case assign =>
    rintro l pre x W K ⟨bS1, hB1⟩ hK
    simp only [encsR]
    gi_wp2
    exact hK _ _ ((KeepsOthers.alloc _ _).from _) ((Below.refl _ W).alloc hB1.size _) ⟨bS1.alloc _, hB1.alloc hB1.size _⟩ ⟨W.heap.size, bS1.lt, Row.new' _ _ _ _ _ rfl rfl, rfl⟩
  case body =>
    rintro l pre x a' W hl ⟨r, hr⟩ ⟨bS1, hB1⟩ ⟨Bx, hBx, bX, rfl⟩ hlt
    have cS := bS1.cell 0 _ rfl
    have fS := bS1.frozen 0
    have cX := bX.cell 1 _ rfl
    gi_wp2
    exact ⟨(KeepsOthers.setCell _ _ _).from _, (Below.refl _ W).setCell (p := ⟨w.heap.size, 0, none⟩) (by simp) _,
      by rw [comeOf_snoc]; exact bS1.set 0 _, hB1.setCell (p := ⟨w.heap.size, 0, none⟩) (by simp) _⟩
  case done =>
    rintro Dd ys W hD hys ⟨bS1, hB1⟩ hK
    rw [hys] at bS1
    have cS := bS1.cell 0 _ rfl
    gi_wp2
    refine ⟨by simp, .inl ⟨_, _, rfl, run_takeDeferred hK, ?_⟩⟩
    exact ⟨_, results_tmp rfl _ _ _, rfl, hB1.trans (belowK_b (w := w) (Nat.le_refl _) W Dd _ _ (by omega) hK rfl rfl)⟩
  case stop =>
    rintro Dd c pre W _ _ h _
    exact h.elim
end Go.Proofs.Ytimiokbnhneggaa
