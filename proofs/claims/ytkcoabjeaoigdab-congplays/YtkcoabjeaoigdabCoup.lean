import Derived.Test.YtkcoabjeaoigdabPure
import Derived.Test.YtkcoabjeaoigdabRoundTail
namespace Go.Proofs.Ytkcoabjeaoigdab
open Go.RowKit Go.Shelf
set_option maxRecDepth 100000
attribute [local go_sem] Oper.semAt_some

theorem wr (x : Int) : IntKind.i64.wrap x = wrap64 x := by have := IntKind.wrap_i64 x; unfold wrap64; omega
theorem wpIn_world {F : Fence} {n : Nat} {code : Code} {Q : Exit → Act → World → Prop} {a : Act} {w : World} (h : ∀ w0, Hid (w0 = w) → code.wpIn F n Try.prog Q a w0) : code.wpIn F n Try.prog Q a w := h w rfl
theorem boxes (w : World) (m : Int) (p : Value) {W0 : World} (hW : W0 = ((((w.alloc (.cells #[.int .i64 m] 3)).alloc (.cells #[.int .i64 0] 3)).alloc (.cells #[.int .i64 0] 3)).alloc (.cells #[.int .i64 0] 3)).alloc (.cells #[p] 25)) :
    Row W0 w.heap.size [.int .i64 m] 3 ∧ Row W0 (w.heap.size + 1) [.int .i64 0] 3 ∧ Row W0 (w.heap.size + 1 + 1) [.int .i64 0] 3 ∧ Row W0 (w.heap.size + 1 + 1 + 1) [.int .i64 0] 3 ∧ Row W0 (w.heap.size + 1 + 1 + 1 + 1) [p] 25 ∧ Below w.heap.size w W0 ∧ W0.heap.size = w.heap.size + 5 := by
  subst hW
  refine ⟨((((row_new1 w _ 3).alloc _).alloc _).alloc _).alloc _, ?_, ?_, ?_, ?_, ?_, by simp⟩
  · have := (((row_new1 (w.alloc (.cells #[.int .i64 m] 3)) (.int .i64 0) 3).alloc (.cells #[.int .i64 0] 3)).alloc (.cells #[.int .i64 0] 3)).alloc (.cells #[p] 25)
    simpa only [World.size_alloc] using this
  · have := ((row_new1 ((w.alloc (.cells #[.int .i64 m] 3)).alloc (.cells #[.int .i64 0] 3)) (.int .i64 0) 3).alloc (.cells #[.int .i64 0] 3)).alloc (.cells #[p] 25)
    simpa only [World.size_alloc] using this
  · have := (row_new1 (((w.alloc (.cells #[.int .i64 m] 3)).alloc (.cells #[.int .i64 0] 3)).alloc (.cells #[.int .i64 0] 3)) (.int .i64 0) 3).alloc (.cells #[p] 25)
    simpa only [World.size_alloc] using this
  · have := row_new1 ((((w.alloc (.cells #[.int .i64 m] 3)).alloc (.cells #[.int .i64 0] 3)).alloc (.cells #[.int .i64 0] 3)).alloc (.cells #[.int .i64 0] 3)) p 25
    simpa only [World.size_alloc] using this
  · exact below_grow (below_grow (below_grow (below_grow (below_grow (Below.refl _ _) _) _) _) _) _
set_option maxHeartbeats 2000000 in
theorem coupled_any {w : World} {g n : Nat} {D : Nat → Ln} (h : GAt w g n D) (hne : cl D n ≠ []) :
    Calls Try.prog 33 #[.pointer (some ⟨g, 0, none⟩)] w fun e w' => e = .returned (.int .i64 (coupled (cl D n))) ∧ Below w.heap.size w w' := by
  have HG := hid h
  have HL := hid ((callsIn_wide (n := 5)).2 (least_any h))
  have HNE := hid hne
  clear h hne
  refine (callsIn_wide (n := 6)).1 ?_
  refine callsIn_of_wp_marks Try.func33 rfl trivial ?_ rfl
  simp only [Try.ntmps33, List.size_toArray, List.length_cons, List.length_nil, Nat.reduceAdd, Nat.reduceSub, Array.replicate_succ, Array.replicate_zero, List.push_toArray, List.append_toArray, List.nil_append, List.cons_append]
  obtain ⟨L, hL⟩ : ∃ L, cl D n = L := ⟨_, rfl⟩
  rw [hL] at HL HNE
  obtain ⟨m, hm⟩ : ∃ m, least L = m := ⟨_, rfl⟩
  rw [hm] at HL
  gi_wp2_with (first
    | (refine ⟨trivial, ?_⟩; gi_at_call 37; refine HL.out.mono ?_; clear HL; rintro e w1 ⟨rfl, hb1⟩; have HB1 := hid hb1; clear hb1)
    | (refine ⟨trivial, ?_⟩; gi_at_call 38; refine (counting_in _ _ _).mono ?_; rintro e w' ⟨rfl, rfl⟩))
  refine wpIn_world fun W0 HW => ?_
  obtain ⟨r0, r1, r2, r3, r4, hB0, hsz⟩ := boxes w1 m _ HW.out
  obtain ⟨z, hz⟩ : ∃ z, w1.heap.size = z := ⟨_, rfl⟩
  rw [hz] at r0 r1 r2 r3 r4 hB0 hsz ⊢
  obtain ⟨z1, hz1⟩ : ∃ z1, z + 1 = z1 := ⟨_, rfl⟩
  rw [hz1] at r1 r2 r3 r4 ⊢
  obtain ⟨z2, hz2⟩ : ∃ z2, z1 + 1 = z2 := ⟨_, rfl⟩
  rw [hz2] at r2 r3 r4 ⊢
  obtain ⟨z3, hz3⟩ : ∃ z3, z2 + 1 = z3 := ⟨_, rfl⟩
  rw [hz3] at r3 r4 ⊢
  obtain ⟨z4, hz4⟩ : ∃ z4, z3 + 1 = z4 := ⟨_, rfl⟩
  rw [hz4] at r4 ⊢
  clear HW
  have hG1 : GAt w1 g n D := HG.out.kept HB1.out
  have hG0 : GAt W0 g n D := hG1.kept (by rw [hz]; exact hB0)
  have hgz : g < z := by rw [← hz]; exact hG1.lt
  have hCg : ∀ l ∈ L, Cg l := by
    rw [← hL]
    intro l hl
    unfold cl at hl
    obtain ⟨h1, h2⟩ := List.mem_filter.1 hl
    obtain ⟨k, hk, rfl⟩ := List.mem_map.1 h1
    exact ⟨HG.out.ok k (by simpa using hk), h2⟩
  have hmb : 1 ≤ m ∧ m ≤ 60000 := by rw [← hm]; exact least_b L hCg
  have HZ : Hid (z1 = z + 1 ∧ z2 = z + 2 ∧ z3 = z + 3 ∧ z4 = z + 4 ∧ w1.heap.size = z) := ⟨by omega, by omega, by omega, by omega, hz⟩
  have HMB := hid hmb
  have HM := hid hm
  have HCG := hid hCg
  have HLL := hid hL
  have d01 : ¬ z = z1 := by omega
  have d02 : ¬ z = z2 := by omega
  have d03 : ¬ z = z3 := by omega
  have d10 : ¬ z1 = z := by omega
  have d12 : ¬ z1 = z2 := by omega
  have d13 : ¬ z1 = z3 := by omega
  have d20 : ¬ z2 = z := by omega
  have d21 : ¬ z2 = z1 := by omega
  have d23 : ¬ z2 = z3 := by omega
  have d30 : ¬ z3 = z := by omega
  have d31 : ¬ z3 = z1 := by omega
  have d32 : ¬ z3 = z2 := by omega
  clear hz1 hz2 hz3 hz4 hmb hm hCg hL hz
  refine wpIn_rangeFunc_ownH rfl (by omega) (gf := 39) (lb := #[.pointer (some ⟨z4, 0, none⟩)]) rfl trivial (enters_of Try.func39 (by kernel_rfl) rfl)
    (iter_stops 5 (by omega) z4 z g n D W0 (by have := HZ.out; omega) (by omega) (r4.cell 0 _ rfl) hG0 hgz) belowK_t (belowK_b (by omega)) (Below.refl _ _) (fun _ => rfl)
    (fun pre W => (Row W z [.int .i64 m] 3 ∧ Row W z1 [.int .i64 (sumA m (pre.map (·.1)))] 3) ∧ (Row W z2 [.int .i64 (bestB m (pre.map (·.1)))] 3 ∧ Row W z3 [.int .i64 (tot (pre.map (·.1)))] 3) ∧ Below z w1 W)
    (fun _ _ _ => False)
    (OwnFrom.and (OwnFrom.and (Own.from (row_own _ _ (fun _ : List Lc => [.int .i64 m])) _) (Own.from (row_own _ _ (fun pre : List Lc => [.int .i64 (sumA m (pre.map (·.1)))])) _))
      (OwnFrom.and (OwnFrom.and (Own.from (row_own _ _ (fun pre : List Lc => [.int .i64 (bestB m (pre.map (·.1)))])) _) (Own.from (row_own _ _ (fun pre : List Lc => [.int .i64 (tot (pre.map (·.1)))])) _)) (ownFrom_below (by have := HZ.out; omega) (by omega))))
    (fun _ _ _ _ _ hs _ _ => hs)
    ⟨⟨r0, r1⟩, ⟨r2, r3⟩, hB0⟩
    (fun x a' W => ∃ Bx, z3 < Bx ∧ Row W Bx [.int .i64 x.1.c, .int .i64 x.1.t, .bool x.1.on, .int .i64 x.1.r] 41 ∧ a' = { tmps := #[.pointer (some ⟨g, 0, none⟩), undef, .int .i64 0, .pointer (some ⟨z, 0, none⟩), .pointer (some ⟨z1, 0, none⟩), .pointer (some ⟨z2, 0, none⟩), .pointer (some ⟨z3, 0, none⟩), .pointer (some ⟨Bx, 0, none⟩), undef, undef, undef, undef, .pointer (some ⟨g, 0, none⟩), .int .i64 m, .pointer (some ⟨g, 0, none⟩), .func (.func 39) #[] #[.pointer (some ⟨z4, 0, none⟩)], .agg #[.int .i64 x.1.c, .int .i64 x.1.t, .bool x.1.on, .int .i64 x.1.r], undef, undef, undef, undef, undef, undef, undef, undef, undef, undef, undef, undef, undef, undef, undef, undef, undef, undef, undef, undef, undef, undef, undef, undef, undef, undef, undef, undef, undef, undef, undef, undef, undef, undef, undef, undef, undef, undef, undef, undef, undef, undef, undef, undef, undef], defers := [] })
    (fun x a' _ X Y row hs hg hr => by obtain ⟨Bx, h1, h2, h3⟩ := hs; exact ⟨Bx, h1, row_own Bx 41 (fun (_ : Unit) => [.int .i64 x.1.c, .int .i64 x.1.t, .bool x.1.on, .int .i64 x.1.r]) () X Y row h2 hg (fun r e => (hr r e).2), h3⟩)
    ?assign ?body ?done ?stop
  case assign =>
    rintro l pre x W K ⟨⟨r0, r1⟩, ⟨r2, r3⟩, hB1⟩ hK
    simp only [Lc.encs]
    gi_wp2
    have hsW : z ≤ W.heap.size := by have := HZ.out; have := hB1.size; omega
    exact hK _ _ ((KeepsOthers.alloc _ _).from _) ((Below.refl _ W).alloc hsW _) ⟨⟨r0.alloc _, r1.alloc _⟩, ⟨r2.alloc _, r3.alloc _⟩, hB1.alloc hsW _⟩ ⟨W.heap.size, r3.lt, Row.new' _ _ _ _ _ rfl rfl, rfl⟩
  case body =>
    rintro l pre x a' W hl ⟨r, hr⟩ ⟨⟨r0, r1⟩, ⟨r2, r3⟩, hB1⟩ ⟨Bx, hBx, bX, rfl⟩ hlt
    have c0 := r0.cell 0 _ rfl
    have c1 := r1.cell 0 _ rfl
    have c2 := r2.cell 0 _ rfl
    have c3 := r3.cell 0 _ rfl
    have f1 := r1.frozen 0
    have f2 := r2.frozen 0
    have f3 := r3.frozen 0
    have x0 := bX.cell 0 _ rfl
    have x3 := bX.cell 3 _ rfl
    have hx := x.2
    obtain ⟨⟨cx, tx, onx, rx⟩, hx'⟩ := x
    simp only at c1 c2 c3 x0 x3 r1 r2 r3 bX hx
    have hcg : Cg ⟨cx, tx, onx, rx⟩ := hx'
    obtain ⟨a0, a1, a2, a3⟩ := aOf_b HMB.out hcg
    obtain ⟨b0, b1, b2, b3⟩ := bOf_b HMB.out hcg
    obtain ⟨q0, q1⟩ := rr_b hcg
    have r1' := hcg.r1
    have k0 := hcg.1.c0
    have k1 := hcg.1.c1
    have hpre : ∀ l ∈ pre.map (·.1), Cg l := by
      intro l hl
      obtain ⟨y, _, rfl⟩ := List.mem_map.1 hl
      exact y.2
    have hs := sumA_b HMB.out (pre.map (·.1)) hpre
    have ht := tot_b (pre.map (·.1)) hpre
    rw [List.length_map] at hs ht
    have HS1 := hid (sumA_snoc m (pre.map (·.1)) ⟨cx, tx, onx, rx⟩)
    have HB2 := hid (bestB_snoc m (pre.map (·.1)) ⟨cx, tx, onx, rx⟩)
    have HT3 := hid (tot_snoc (pre.map (·.1)) ⟨cx, tx, onx, rx⟩)
    simp only [aOf, bOf] at a0 a1 a2 a3 b0 b1 b2 b3 q0 q1 r1' k0 k1
    have e1 : wrap64 (cx * 16) = cx * 16 := by unfold wrap64; omega
    have HBX : Hid (z3 < Bx) := hBx
    have dx0 : ¬ Bx = z := by have := HZ.out; omega
    have dx1 : ¬ Bx = z1 := by have := HZ.out; omega
    have dx2 : ¬ Bx = z2 := by have := HZ.out; omega
    have dx3 : ¬ Bx = z3 := by have := HZ.out; omega
    obtain ⟨A, hA⟩ : ∃ A, A = cx * 16 * m := ⟨_, rfl⟩
    rw [← hA] at a0 a1 a2 a3 b0 b1 b2 b3
    have e2 : wrap64 (cx * 16 * m) = A := by rw [← hA]; unfold wrap64; omega
    obtain ⟨A2, hA2⟩ : ∃ A2, A2 = A * m := ⟨_, rfl⟩
    rw [← hA2] at b0 b1 b2 b3
    obtain ⟨R2, hR2⟩ : ∃ R2, R2 = rx * rx := ⟨_, rfl⟩
    rw [← hR2] at b2 b3 q0 q1
    have e3 : A.tdiv rx = A / rx := Int.tdiv_eq_ediv_of_nonneg a0
    have e4 : wrap64 (A / rx) = A / rx := by unfold wrap64; omega
    have e5 : wrap64 (A * m) = A2 := by rw [← hA2]; unfold wrap64; omega
    have e6 : wrap64 (rx * rx) = R2 := by rw [← hR2]; unfold wrap64; omega
    have e7 : A2.tdiv R2 = A2 / R2 := Int.tdiv_eq_ediv_of_nonneg b0
    have e8 : wrap64 (A2 / R2) = A2 / R2 := by unfold wrap64; omega
    generalize sumA m (pre.map (·.1)) = s at *
    generalize bestB m (pre.map (·.1)) = b at *
    generalize tot (pre.map (·.1)) = t at *
    have e9 : wrap64 (s + A / rx) = s + A / rx := by unfold wrap64; omega
    have e10 : wrap64 (t + cx) = t + cx := by unfold wrap64; omega
    have nz1 : ¬ rx = 0 := by omega
    have nz2 : ¬ R2 = 0 := by omega
    have HAA := hid hA
    have HA2 := hid hA2
    have HR2 := hid hR2
    clear a0 a1 a2 a3 b0 b1 b2 b3 q0 q1 r1' k0 k1 hs ht hpre hcg hx hBx hA hA2 hR2
    have i4 : IntKind.i64.wrap (A / rx) = A / rx := (wr _).trans e4
    have i5 : IntKind.i64.wrap (A * m) = A2 := (wr _).trans e5
    have i6 : IntKind.i64.wrap (rx * rx) = R2 := (wr _).trans e6
    have i8 : IntKind.i64.wrap (A2 / R2) = A2 / R2 := (wr _).trans e8
    have i9 : IntKind.i64.wrap (s + A / rx) = s + A / rx := (wr _).trans e9
    gi_wp2
    have HR0 := hid (r0.drawn (W.drawn + 1))
    have HR1 := hid (r1.drawn (W.drawn + 1))
    have HR2' := hid (r2.drawn (W.drawn + 1))
    have HR3 := hid (r3.drawn (W.drawn + 1))
    have HX := hid (bX.drawn (W.drawn + 1))
    have HBB := hid (below_drawn hB1 (W.drawn + 1))
    have HKF : Hid (KeepsFrom W0.heap.size W { W with drawn := W.drawn + 1 }) := (KeepsOthers.drew W).from _
    have HBW : Hid (Below z W { W with drawn := W.drawn + 1 }) := below_drawn (Below.refl _ _) _
    clear c0 c1 c2 c3 f1 f2 f3 x0 x3 r0 r1 r2 r3 bX hB1 hr
    refine wpIn_region_still_tail 6 (by kernel_rfl) (by kernel_rfl) (by simp) (by rintro ⟨_, _, h⟩; exact h) ?_
    generalize ({ W with drawn := W.drawn + 1 } : World) = wq at *
    have c0 := HR0.out.cell 0 _ rfl
    have c1 := HR1.out.cell 0 _ rfl
    have c2 := HR2'.out.cell 0 _ rfl
    have c3 := HR3.out.cell 0 _ rfl
    have f1 := HR1.out.frozen 0
    have f2 := HR2'.out.frozen 0
    have f3 := HR3.out.frozen 0
    have x0 := HX.out.cell 0 _ rfl
    have x3 := HX.out.cell 3 _ rfl
    simp only [List.take_succ_cons, List.take_zero, List.drop_succ_cons, List.drop_zero]
    iterate 6 still_step
    refine wpStill_nil ?_
    go_wp2
    refine wpIn_world fun w5 HW => ?_
    have HR05 : Hid (Row w5 z [.int .i64 m] 3) := by show Row _ _ _ _; rw [HW.out]; exact HR0.out.setOther ⟨z1, 0, none⟩ d01 _
    have HR15 : Hid (Row w5 z1 [.int .i64 (s + A / rx)] 3) := by show Row _ _ _ _; rw [HW.out]; exact HR1.out.set 0 _
    have HR25 : Hid (Row w5 z2 [.int .i64 b] 3) := by show Row _ _ _ _; rw [HW.out]; exact HR2'.out.setOther ⟨z1, 0, none⟩ d21 _
    have HR35 : Hid (Row w5 z3 [.int .i64 t] 3) := by show Row _ _ _ _; rw [HW.out]; exact HR3.out.setOther ⟨z1, 0, none⟩ d31 _
    have HX5 : Hid (Row w5 Bx [.int .i64 cx, .int .i64 tx, .bool onx, .int .i64 rx] 41) := by show Row _ _ _ _; rw [HW.out]; exact HX.out.setOther ⟨z1, 0, none⟩ dx1 _
    have hzz : z ≤ z1 := by have := HZ.out; omega
    have HBB5 : Hid (Below z w1 w5) := by show Below _ _ _; rw [HW.out]; exact HBB.out.setCell (p := ⟨z1, 0, none⟩) hzz _
    have HBW5 : Hid (Below z W w5) := by show Below _ _ _; rw [HW.out]; exact HBW.out.setCell (p := ⟨z1, 0, none⟩) hzz _
    have HKF5 : Hid (KeepsFrom W0.heap.size W w5) := by show KeepsFrom _ _ _; rw [HW.out]; exact HKF.out.trans ((KeepsOthers.setCell _ _ _).from _)
    clear HW HR0 HR1 HR2' HR3 HX HBB HBW HKF c0 c1 c2 c3 f1 f2 f3 x0 x3 hzz
    gi_wp2
    have HR0 := hid (HR05.out.drawn (w5.drawn + 1))
    have HR1 := hid (HR15.out.drawn (w5.drawn + 1))
    have HR2' := hid (HR25.out.drawn (w5.drawn + 1))
    have HR3 := hid (HR35.out.drawn (w5.drawn + 1))
    have HX := hid (HX5.out.drawn (w5.drawn + 1))
    have HBB := hid (below_drawn HBB5.out (w5.drawn + 1))
    have HKF : Hid (KeepsFrom W0.heap.size W { w5 with drawn := w5.drawn + 1 }) := HKF5.out.trans ((KeepsOthers.drew w5).from _)
    have HBW : Hid (Below z W { w5 with drawn := w5.drawn + 1 }) := below_drawn HBW5.out _
    clear HR05 HR15 HR25 HR35 HX5 HBB5 HBW5 HKF5
    refine wpIn_region_still_tail 11 (by kernel_rfl) (by kernel_rfl) (by simp) (by rintro ⟨_, _, h⟩; exact h) ?_
    generalize ({ w5 with drawn := w5.drawn + 1 } : World) = w6 at *
    have c0 := HR0.out.cell 0 _ rfl
    have c1 := HR1.out.cell 0 _ rfl
    have c2 := HR2'.out.cell 0 _ rfl
    have c3 := HR3.out.cell 0 _ rfl
    have f1 := HR1.out.frozen 0
    have f2 := HR2'.out.frozen 0
    have f3 := HR3.out.frozen 0
    have x0 := HX.out.cell 0 _ rfl
    have x3 := HX.out.cell 3 _ rfl
    simp only [List.take_succ_cons, List.take_zero, List.drop_succ_cons, List.drop_zero]
    iterate 11 still_step
    refine wpStill_nil ?_
    go_wp2
    gi_wp2
    have hz2 : z ≤ z2 := by have := HZ.out; omega
    have hz3 : z ≤ z3 := by have := HZ.out; omega
    refine ⟨HKF.out.trans (((KeepsOthers.setCell _ _ _).from _).trans ((KeepsOthers.setCell _ _ _).from _)), (HBW.out.setCell (p := ⟨z2, 0, none⟩) hz2 _).setCell (p := ⟨z3, 0, none⟩) hz3 _, ⟨?_, ?_⟩, ⟨?_, ?_⟩, (HBB.out.setCell (p := ⟨z2, 0, none⟩) hz2 _).setCell (p := ⟨z3, 0, none⟩) hz3 _⟩
    · exact (HR0.out.setOther ⟨z2, 0, none⟩ d02 _).setOther ⟨z3, 0, none⟩ d03 _
    · rw [List.map_append]
      show Row _ _ [.int .i64 (sumA m (pre.map (·.1) ++ [⟨cx, tx, onx, rx⟩]))] 3
      rw [HS1.out]
      show Row _ _ [.int .i64 (s + cx * 16 * m / rx)] 3
      rw [← HAA.out]
      exact (HR1.out.setOther ⟨z2, 0, none⟩ d12 _).setOther ⟨z3, 0, none⟩ d13 _
    · rw [List.map_append]
      show Row _ _ [.int .i64 (bestB m (pre.map (·.1) ++ [⟨cx, tx, onx, rx⟩]))] 3
      rw [HB2.out]
      show Row _ _ [.int .i64 (max b (cx * 16 * m * m / (rx * rx)))] 3
      rw [← HAA.out, ← HA2.out, ← HR2.out]
      exact (HR2'.out.set 0 _).setOther ⟨z3, 0, none⟩ d23 _
    · rw [List.map_append]
      show Row _ _ [.int .i64 (tot (pre.map (·.1) ++ [⟨cx, tx, onx, rx⟩]))] 3
      rw [HT3.out]
      exact (HR3.out.setOther ⟨z2, 0, none⟩ d32 _).set 0 _
  case done =>
    rintro Dd ys W hD hys ⟨⟨r0, r1⟩, ⟨r2, r3⟩, hB1⟩ hK
    have h8 : L.length ≤ 8 := by
      rw [← HLL.out]
      exact Nat.le_trans (cl_len D n) HG.out.le
    rw [HLL.out] at hys
    rw [hys] at r1 r2 r3
    have c1 := r1.cell 0 _ rfl
    have c2 := r2.cell 0 _ rfl
    have c3 := r3.cell 0 _ rfl
    obtain ⟨q0, q1, p0, p1⟩ := qp_b L HNE.out HCG.out h8
    have s0 := sumA_ge L HNE.out HCG.out
    have s1 := sumA_b HMB.out L HCG.out
    have b0 := bestB_b HMB.out L HCG.out
    have b1 := bestB_le HMB.out L HCG.out (by rw [← HM.out]; exact least_le L)
    have t0 := tot_b L HCG.out
    have h1 : 1 ≤ L.length := by
      have := HNE.out
      cases L with
      | nil => exact absurd rfl this
      | cons _ _ => simp
    have HE : Hid (coupled (cl D n) = qOf L * pOf L / 1048576 * 2048 / tot L) := by show _ = _; rw [HLL.out]; rfl
    have eq : qOf L = bestB m L * 1048576 / sumA m L := by unfold qOf; rw [HM.out]
    have ep : pOf L = tot L * 16 * 512 / sumA m L := by unfold pOf; rw [HM.out]
    rw [HM.out] at s0
    rw [eq] at q0 q1
    rw [ep] at p0 p1
    generalize sumA m L = S at *
    generalize bestB m L = B at *
    generalize tot L = T at *
    have e1 : wrap64 (B * 1048576) = B * 1048576 := by unfold wrap64; omega
    have e2 : (B * 1048576).tdiv S = B * 1048576 / S := Int.tdiv_eq_ediv_of_nonneg (by omega)
    have e3 : wrap64 (T * 16) = T * 16 := by unfold wrap64; omega
    have e4 : wrap64 (T * 16 * 512) = T * 16 * 512 := by unfold wrap64; omega
    have e5 : (T * 16 * 512).tdiv S = T * 16 * 512 / S := Int.tdiv_eq_ediv_of_nonneg (by omega)
    obtain ⟨q, hq⟩ : ∃ q, B * 1048576 / S = q := ⟨_, rfl⟩
    obtain ⟨p, hp⟩ : ∃ p, T * 16 * 512 / S = p := ⟨_, rfl⟩
    rw [hq] at q0 q1 e2 eq
    rw [hp] at p0 p1 e5 ep
    rw [eq, ep] at HE
    have e6 : wrap64 q = q := by unfold wrap64; omega
    have e7 : wrap64 p = p := by unfold wrap64; omega
    obtain ⟨m0, m1⟩ := mul_b q0 p0 q1 p1
    obtain ⟨X, hX⟩ : ∃ X, q * p = X := ⟨_, rfl⟩
    rw [hX] at m0 m1 HE
    have e8 : wrap64 (q * p) = X := by rw [hX]; unfold wrap64; omega
    have e9 : X.tdiv 1048576 = X / 1048576 := Int.tdiv_eq_ediv_of_nonneg m0
    obtain ⟨al, hal⟩ : ∃ al, X / 1048576 = al := ⟨_, rfl⟩
    have al0 : 0 ≤ al ∧ al ≤ 268435456 := by omega
    rw [hal] at e9 HE
    have e10 : wrap64 al = al := by unfold wrap64; omega
    have e11 : wrap64 (al * 2048) = al * 2048 := by unfold wrap64; omega
    have e12 : (al * 2048).tdiv T = al * 2048 / T := Int.tdiv_eq_ediv_of_nonneg (by omega)
    have dv := div_b (a := al * 2048) (b := T) (y := 549755813888) (by omega) (by omega) (by omega)
    have e13 : wrap64 (al * 2048 / T) = al * 2048 / T := by unfold wrap64; omega
    have nz1 : ¬ S = 0 := by omega
    have nz2 : ¬ T = 0 := by omega
    have HBD := hid hB1
    have HDD := hid hD
    have HKK := hid hK
    clear q0 q1 p0 p1 s0 s1 b0 b1 t0 h1 h8 m0 m1 al0 dv hq hp hX hal hB1 r0 r1 r2 r3 hys hD eq ep
    gi_wp2
    refine ⟨by simp, .inl ⟨_, _, rfl, run_takeDeferred HKK.out, ?_⟩⟩
    have hzz := HZ.out
    refine ⟨_, results_tmp rfl _ _ _, ?_, ?_⟩
    · rw [HE.out]
      show Ending.returned (.int .i64 (wrap64 (al * 2048 / T))) = _
      rw [e13]
    · have hb : Below w.heap.size w1 W := HBD.out.mono (by have := HB1.out.size; omega)
      exact (HB1.out.trans hb).trans (belowK_b (w := w) (Nat.le_refl _) W Dd _ _ (by have := HDD.out; have := HB1.out.size; omega) HKK.out rfl rfl)
  case stop =>
    rintro Dd c pre W _ _ h _
    exact h.elim
end Go.Proofs.Ytkcoabjeaoigdab
