import Derived.Test.YtkcoabjeaoigdabIter
namespace Go.Proofs.Ytkcoabjeaoigdab
open Go.RowKit Go.Shelf
set_option maxRecDepth 100000
attribute [local go_sem] Oper.semAt_some

def least (L : List Ln) : Int := L.foldl (fun m l => min m l.r) 60000
theorem least_snoc (L : List Ln) (l : Ln) : least (L ++ [l]) = min (least L) l.r := by unfold least; rw [List.foldl_append]; rfl
theorem row_own {β : Type} (B : Nat) (t : TypeId) (f : β → List Value) : Own (fun s W => Row W B (f s) t) := fun s X Y row hs hg hrow =>
  hs.of_block (hg.block B hs.lt (fun e' => by obtain ⟨o, ho, hc⟩ := hrow B e'.symm; rw [hs.at_] at ho; cases ho; cases hc))
theorem Row.grown {w w' : World} {g : Nat} {c : List Value} {t : TypeId} (h : Row w g c t) {row : Option Nat} (hg : w.grownBy w' row) (hne : some g ≠ row) : Row w' g c t := h.of_block (hg.block g h.lt hne)
theorem row_new1 (w : World) (v : Value) (t : TypeId) : Row (w.alloc (.cells #[v] t)) w.heap.size [v] t := Row.new w [v] t
set_option maxHeartbeats 2000000 in
theorem least_any {w : World} {g n : Nat} {D : Nat → Ln} (h : GAt w g n D) :
    Calls Try.prog 37 #[.pointer (some ⟨g, 0, none⟩)] w fun e w' => e = .returned (.int .i64 (least (cl D n))) ∧ Below w.heap.size w w' := by
  have HG := hid h
  clear h
  refine (callsIn_wide (n := 6)).1 ?_
  refine callsIn_of_wp_marks Try.func37 rfl trivial ?_ rfl
  simp only [Try.ntmps37, List.size_toArray, List.length_cons, List.length_nil, Nat.reduceAdd, Nat.reduceSub, Array.replicate_succ, Array.replicate_zero, List.push_toArray, List.append_toArray, List.nil_append, List.cons_append]
  gi_wp2_with (refine ⟨trivial, ?_⟩; gi_at_call 38; refine (counting_in _ _ _).mono ?_; rintro e w' ⟨rfl, rfl⟩)
  have bS := (row_new1 w (.int .i64 60000) 3).alloc (.cells #[.pointer (some ⟨g, 0, none⟩)] 25)
  have bA := row_new1 (w.alloc (.cells #[.int .i64 60000] 3)) (.pointer (some ⟨g, 0, none⟩)) 25
  simp only [World.size_alloc] at bA
  have hB0 : Below w.heap.size w ((w.alloc (.cells #[.int .i64 60000] 3)).alloc (.cells #[.pointer (some ⟨g, 0, none⟩)] 25)) := ((Below.refl _ w).alloc (Nat.le_refl _) _).alloc (by simp) _
  have hsz : ((w.alloc (.cells #[.int .i64 60000] 3)).alloc (.cells #[.pointer (some ⟨g, 0, none⟩)] 25)).heap.size = w.heap.size + 2 := by simp
  obtain ⟨W0, hW0⟩ : ∃ W0, (w.alloc (.cells #[.int .i64 60000] 3)).alloc (.cells #[.pointer (some ⟨g, 0, none⟩)] 25) = W0 := ⟨_, rfl⟩
  rw [hW0] at bS bA hB0 hsz ⊢
  clear hW0
  refine wpIn_rangeFunc_ownH rfl (by omega) (gf := 39) (lb := #[.pointer (some ⟨w.heap.size + 1, 0, none⟩)]) rfl trivial (enters_of Try.func39 (by kernel_rfl) rfl)
    (iter_stops 5 (by omega) (w.heap.size + 1) w.heap.size g n D W0 (by omega) (by omega) (bA.cell 0 _ rfl) (HG.out.kept hB0) HG.out.lt) belowK_t (belowK_b (by omega)) (Below.refl _ _) (fun _ => rfl)
    (fun pre W => Row W w.heap.size [.int .i64 (least (pre.map (·.1)))] 3 ∧ Below w.heap.size w W)
    (fun _ _ _ => False)
    (OwnFrom.and (Own.from (row_own _ _ (fun pre : List Lc => [.int .i64 (least (pre.map (·.1)))])) _) (ownFrom_below (Nat.le_refl _) (by omega)))
    (fun _ _ _ _ _ hs _ _ => hs)
    ⟨bS, hB0⟩
    (fun x a' W => ∃ Bx, w.heap.size < Bx ∧ Row W Bx [.int .i64 x.1.c, .int .i64 x.1.t, .bool x.1.on, .int .i64 x.1.r] 41 ∧ a' = { tmps := #[.pointer (some ⟨g, 0, none⟩), undef, .int .i64 0, .pointer (some ⟨w.heap.size, 0, none⟩), .pointer (some ⟨Bx, 0, none⟩), .pointer (some ⟨g, 0, none⟩), .func (.func 39) #[] #[.pointer (some ⟨w.heap.size + 1, 0, none⟩)], .agg #[.int .i64 x.1.c, .int .i64 x.1.t, .bool x.1.on, .int .i64 x.1.r], undef, undef, undef, undef, undef], defers := [] })
    (fun x a' _ X Y row hs hg hr => by obtain ⟨Bx, h1, h2, h3⟩ := hs; exact ⟨Bx, h1, row_own Bx 41 (fun (_ : Unit) => [.int .i64 x.1.c, .int .i64 x.1.t, .bool x.1.on, .int .i64 x.1.r]) () X Y row h2 hg (fun r e => (hr r e).2), h3⟩)
    ?assign ?body ?done ?stop
  case assign =>
    rintro l pre x W K ⟨bS1, hB1⟩ hK
    simp only [Lc.encs]
    gi_wp2
    exact hK _ _ ((KeepsOthers.alloc _ _).from _) ((Below.refl _ W).alloc hB1.size _) ⟨bS1.alloc _, hB1.alloc hB1.size _⟩ ⟨W.heap.size, bS1.lt, Row.new' _ _ _ _ _ rfl rfl, rfl⟩
  case body =>
    rintro l pre x a' W hl ⟨r, hr⟩ ⟨bS1, hB1⟩ ⟨Bx, hBx, bX, rfl⟩ hlt
    have cS := bS1.cell 0 _ rfl
    have fS := bS1.frozen 0
    have cX := bX.cell 3 _ rfl
    gi_wp2
    exact ⟨(KeepsOthers.setCell _ _ _).from _, (Below.refl _ W).setCell (p := ⟨w.heap.size, 0, none⟩) (by simp) _,
      by rw [List.map_append]; show Row _ _ [.int .i64 (least (pre.map (·.1) ++ [x.1]))] 3; rw [least_snoc]; exact bS1.set 0 _, hB1.setCell (p := ⟨w.heap.size, 0, none⟩) (by simp) _⟩
  case done =>
    rintro Dd ys W hD hys ⟨bS1, hB1⟩ hK
    rw [hys] at bS1
    have cS := bS1.cell 0 _ rfl
    gi_wp2
    refine ⟨by simp, .inl ⟨_, _, rfl, run_takeDeferred hK, ?_⟩⟩
    exact ⟨_, results_tmp rfl _ _ _, rfl, hB1.trans (belowK_b (w := w) (Nat.le_refl _) W Dd _ _ (by omega) hK rfl rfl)⟩
  case stop =>
    rintro Dd c pre W _ _ h _
    exact h.elim
end Go.Proofs.Ytkcoabjeaoigdab
