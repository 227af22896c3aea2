import Derived.Test.YtkcoabjeaoigdabCalls1
namespace Go.Proofs.Ytkcoabjeaoigdab
open Go.RowKit
set_option maxRecDepth 100000

def half (c : Int) : Int := max (c / 2) 2048
theorem half_any {w : World} {c t : Int} (h0 : 0 ≤ c) (h1 : c ≤ 262144) :
    Calls Try.prog 35 #[.agg #[.int .i64 c, .int .i64 t]] w fun e w' => e = .returned (.int .i64 (half c)) ∧ Below w.heap.size w w' := by
  have HR : Hid (Row (w.alloc (.cells #[.int .i64 c, .int .i64 t] 39)) w.heap.size [.int .i64 c, .int .i64 t] 39) := Row.new w [.int .i64 c, .int .i64 t] 39
  have HB := hid (below_grow (Below.refl w.heap.size w) (.cells #[.int .i64 c, .int .i64 t] 39))
  have ed : c.tdiv 2 = c / 2 := Int.tdiv_eq_ediv_of_nonneg h0
  have ew : wrap64 (c / 2) = c / 2 := by unfold wrap64; omega
  have a0 := HR.out.cell 0 _ rfl
  clear h0 h1
  go_enter Try.func35, Try.ntmps35
  go_wp2
  go_ret
  exact ⟨rfl, HB.out⟩
theorem loss1_any {w : World} {c t : Int} (h0 : 0 ≤ c) (h1 : c ≤ 262144) :
    Calls Try.prog 34 #[.agg #[.int .i64 c, .int .i64 t]] w fun e w' => e = .returned (.agg #[.int .i64 (half c), .int .i64 (half c)]) ∧ Below w.heap.size w w' := by
  have HH := hid (fun w => half_any (w := w) (t := t) h0 h1)
  have R1 : Row (w.alloc (.cells #[.int .i64 c, .int .i64 t] 39)) w.heap.size [.int .i64 c, .int .i64 t] 39 := Row.new w [.int .i64 c, .int .i64 t] 39
  have HB0 := below_grow (below_grow (Below.refl w.heap.size w) (.cells #[.int .i64 c, .int .i64 t] 39)) (.cells #[.int .i64 0, .int .i64 0] 39)
  go_enter Try.func34, Try.ntmps34
  go_upto_region 1 with (fail)
  refine wp_world fun wb HW => ?_
  have HR1 : Hid (Row wb w.heap.size [.int .i64 c, .int .i64 t] 39) := by show Row _ _ _ _; rw [HW.out]; exact R1.alloc _
  have HR2 : Hid (Row wb (w.heap.size + 1) [.int .i64 0, .int .i64 0] 39) := by show Row _ _ _ _; rw [HW.out]; exact Row.new' _ _ _ _ _ (by simp) rfl
  have HB : Hid (Below w.heap.size w wb) := by show Below _ _ _; rw [HW.out]; exact HB0
  clear HW R1 HB0 h0 h1
  obtain ⟨x, hx⟩ : ∃ x, x = w.heap.size := ⟨_, rfl⟩
  obtain ⟨y, hy⟩ : ∃ y, y = w.heap.size + 1 := ⟨_, rfl⟩
  rw [← hy] at HR2
  rw [← hx] at HR1
  rw [← hy, ← hx]
  have HR1d := hid (HR1.out.drawn (wb.drawn + 1))
  have HR2d := hid (HR2.out.drawn (wb.drawn + 1))
  have HBd := hid (below_drawn HB.out (wb.drawn + 1))
  have HX := hid hx
  have HY := hid hy
  have b0 := HR1.out.cell 0 _ rfl
  have b1 := HR1.out.cell 1 _ rfl
  have y0 := HR2.out.cell 0 _ rfl
  have y1 := HR2.out.cell 1 _ rfl
  have z0 := HR2.out.frozen 0
  have z1 := HR2.out.frozen 1
  have ne1 : ¬ x = y := by omega
  have ne2 : ¬ y = x := by omega
  clear HR1 HR2 HB hx hy
  go_region_held3 (fun w' => w'.cell? ⟨x, 0, none⟩ = some (.int .i64 c) ∧ w'.cell? ⟨x, 1, none⟩ = some (.int .i64 t)) (go_keep)
    (first
      | (go_at_call 35; refine (HH.out _).mono ?_; rintro e w2 ⟨rfl, hb2⟩; clear b0 b1 y0 y1 z0 z1; have y0 := (HR2d.out.kept hb2 HR2d.out.lt).cell 0 _ rfl; have y1 := (HR2d.out.kept hb2 HR2d.out.lt).cell 1 _ rfl; have z0 := (HR2d.out.kept hb2 HR2d.out.lt).frozen 0; have z1 := (HR2d.out.kept hb2 HR2d.out.lt).frozen 1; have b0 := (HR1d.out.kept hb2 HR1d.out.lt).cell 0 _ rfl; have b1 := (HR1d.out.kept hb2 HR1d.out.lt).cell 1 _ rfl; replace HR2d := hid (HR2d.out.kept hb2 HR2d.out.lt); replace HR1d := hid (HR1d.out.kept hb2 HR1d.out.lt); replace HBd := hid (HBd.out.trans (hb2.mono HBd.out.size)); clear hb2))
  go_wp2
  refine bodyPost_ret (((HR2d.out.set 0 (.int .i64 (half c))).set 1 (.int .i64 (half c))).result Try.results34 _ rfl _ Try.underlying39 rfl i29) rfl ?_
  have hB : w.heap.size ≤ y := by rw [HY.out]; omega
  exact ⟨rfl, (HBd.out.setCell (p := ⟨y, 0, none⟩) hB _).setCell (p := ⟨y, 1, none⟩) hB _⟩
theorem loss2_any {w : World} {c t : Int} (h0 : 0 ≤ c) (h1 : c ≤ 262144) :
    Calls Try.prog 36 #[.agg #[.int .i64 c, .int .i64 t]] w fun e w' => e = .returned (.agg #[.int .i64 1024, .int .i64 (half c)]) ∧ Below w.heap.size w w' := by
  have HH := hid (fun w => half_any (w := w) (t := t) h0 h1)
  have R1 : Row (w.alloc (.cells #[.int .i64 c, .int .i64 t] 39)) w.heap.size [.int .i64 c, .int .i64 t] 39 := Row.new w [.int .i64 c, .int .i64 t] 39
  have HB0 := below_grow (below_grow (Below.refl w.heap.size w) (.cells #[.int .i64 c, .int .i64 t] 39)) (.cells #[.int .i64 0, .int .i64 0] 39)
  go_enter Try.func36, Try.ntmps36
  go_upto_region 1 with (fail)
  refine wp_world fun wb HW => ?_
  have HR1 : Hid (Row wb w.heap.size [.int .i64 c, .int .i64 t] 39) := by show Row _ _ _ _; rw [HW.out]; exact R1.alloc _
  have HR2 : Hid (Row wb (w.heap.size + 1) [.int .i64 0, .int .i64 0] 39) := by show Row _ _ _ _; rw [HW.out]; exact Row.new' _ _ _ _ _ (by simp) rfl
  have HB : Hid (Below w.heap.size w wb) := by show Below _ _ _; rw [HW.out]; exact HB0
  clear HW R1 HB0 h0 h1
  obtain ⟨x, hx⟩ : ∃ x, x = w.heap.size := ⟨_, rfl⟩
  obtain ⟨y, hy⟩ : ∃ y, y = w.heap.size + 1 := ⟨_, rfl⟩
  rw [← hy] at HR2
  rw [← hx] at HR1
  rw [← hy, ← hx]
  have HY := hid hy
  have b0 := HR1.out.cell 0 _ rfl
  have b1 := HR1.out.cell 1 _ rfl
  clear HR1 hx hy
  go_wp2_with (go_at_call 35; refine (HH.out _).mono ?_; rintro e w2 ⟨rfl, hb2⟩; clear b0 b1; replace HR2 := hid (HR2.out.kept hb2 HR2.out.lt); replace HB := hid (HB.out.trans (hb2.mono HB.out.size)); have y0 := HR2.out.cell 0 _ rfl; have y1 := HR2.out.cell 1 _ rfl; have z0 := HR2.out.frozen 0; have z1 := HR2.out.frozen 1; clear hb2)
  refine bodyPost_ret (((HR2.out.set 0 (.int .i64 1024)).set 1 (.int .i64 (half c))).result Try.results36 _ rfl _ Try.underlying39 rfl i29) rfl ?_
  have hB : w.heap.size ≤ y := by rw [HY.out]; omega
  exact ⟨rfl, (HB.out.setCell (p := ⟨y, 0, none⟩) hB _).setCell (p := ⟨y, 1, none⟩) hB _⟩
theorem losses_any (w : World) : Calls Try.prog 31 #[] w fun e w' => ∃ b : Nat, e = .returned (.slice (some ⟨b, 0, none⟩) 2 2) ∧ w'.cell? ⟨b, 0, none⟩ = some (.func (.func 34) #[] #[]) ∧ w'.cell? ⟨b, 1, none⟩ = some (.func (.func 36) #[] #[]) ∧ Below w.heap.size w w' := by
  go_enter Try.func31, Try.ntmps31
  go_wp2
  go_ret
  have R := Row.new w [.func (.func 34) #[] #[], .func (.func 36) #[] #[]] 60
  exact ⟨_, rfl, R.cell 0 _ rfl, R.cell 1 _ rfl, below_grow (Below.refl _ _) _⟩
/-- What a loss makes of a path: kind 0 some, kind 1 all. -/
def loseD (D : Nat → Ln) (n : Nat) (p : Int) (all : Bool) : Nat → Ln := if 0 ≤ p ∧ p < n then upd D p.toNat { D p.toNat with c := if all then 1024 else half (D p.toNat).c, t := half (D p.toNat).c } else D
theorem half_ok {c : Int} (h0 : 1024 ≤ c) (h1 : c ≤ 262144) : 2048 ≤ half c ∧ half c ≤ 131072 := by unfold half; omega
set_option maxHeartbeats 1000000 in
theorem lose_some {w : World} {g n : Nat} {D : Nat → Ln} (h : GAt w g n D) {k : Nat} (hk : k < n) :
    Calls Try.prog 23 #[.pointer (some ⟨g, 0, none⟩), .int .i64 k, .int .i64 0] w fun e w' => e = .returned (.tuple #[]) ∧ GAt w' g n (loseD D n k false) ∧ Only [g] w w' := by
  have h8 : k < 8 := Nat.lt_of_lt_of_le hk h.le
  have HE : Hid (loseD D n k false = upd D k { D k with c := half (D k).c, t := half (D k).c }) := by
    show _ = _
    unfold loseD
    rw [if_pos (by omega)]
    simp
  have HL := hid (lane_in h hk)
  have ok := h.ok k hk
  have HO : Hid (∀ j, j < n → (upd D k { D k with c := half (D k).c, t := half (D k).c } j).Ok) := ok_upd h.ok (by obtain ⟨a, b, c, d, e, f⟩ := ok; obtain ⟨x, y⟩ := half_ok a b; exact ⟨by simp only; omega, by simp only; omega, x, by simp only; omega, e, f⟩)
  have HN := hid (fun w => loss1_any (w := w) (c := (D k).c) (t := (D k).t) (by have := ok.c0; omega) ok.c1)
  have HS := hid (losses_any w.drew)
  have H := hid h
  have b0 := h.cell_c h8
  have b1 := h.cell_t h8
  have z0 := h.frozen (k * 4)
  have z1 := h.frozen (k * 4 + 1)
  have HD : Hid (Below w.heap.size w w.drew) := below_drawn (Below.refl _ _) _
  clear h hk ok
  generalize half (D k).c = hc at *
  go_enter Try.func23, Try.ntmps23
  go_upto_region 2 with (go_at_call 19; refine Calls.mono HL.out ?_; rintro e w2 ⟨rfl, rfl⟩)
  clear HL
  go_region_with
    (first
      | (go_at_call 31; refine HS.out.mono ?_; rintro e w3 ⟨b, rfl, s0, s1, hb2⟩; clear b0 b1 z0 z1; have HB3 := hid (HD.out.trans (hb2.mono HD.out.size)); have HG3 := hid (H.out.kept HB3.out); have b0 := HG3.out.cell_c h8; have b1 := HG3.out.cell_t h8; have z0 := HG3.out.frozen (k * 4); have z1 := HG3.out.frozen (k * 4 + 1); clear hb2)
      | (go_at_call 34; refine (HN.out _).mono ?_; rintro e w4 ⟨rfl, hb2⟩; clear b0 b1 z0 z1 s0 s1; have HB4 := hid (HB3.out.trans (hb2.mono HB3.out.size)); have HG4 := hid (HG3.out.kept hb2); have b0 := HG4.out.cell_c h8; have b1 := HG4.out.cell_t h8; have z0 := HG4.out.frozen (k * 4); have z1 := HG4.out.frozen (k * 4 + 1); clear hb2))
  all_goals
    refine bodyPost_end (results_none Try.results23 _ _ _) rfl ?_
    refine ⟨rfl, ?_, ((Only.of_below HB4.out (Nat.le_refl _)).setCell _ _ _ (.inl (by simp))).setCell _ _ _ (.inl (by simp))⟩
    rw [HE.out]
    exact HG4.out.set_w h8 _ _ HO.out
set_option maxHeartbeats 1000000 in
theorem lose_all {w : World} {g n : Nat} {D : Nat → Ln} (h : GAt w g n D) {k : Nat} (hk : k < n) :
    Calls Try.prog 23 #[.pointer (some ⟨g, 0, none⟩), .int .i64 k, .int .i64 1] w fun e w' => e = .returned (.tuple #[]) ∧ GAt w' g n (loseD D n k true) ∧ Only [g] w w' := by
  have h8 : k < 8 := Nat.lt_of_lt_of_le hk h.le
  have HE : Hid (loseD D n k true = upd D k { D k with c := 1024, t := half (D k).c }) := by
    show _ = _
    unfold loseD
    rw [if_pos (by omega)]
    simp
  have HL := hid (lane_in h hk)
  have ok := h.ok k hk
  have HO : Hid (∀ j, j < n → (upd D k { D k with c := 1024, t := half (D k).c } j).Ok) := ok_upd h.ok (by obtain ⟨a, b, c, d, e, f⟩ := ok; obtain ⟨x, y⟩ := half_ok a b; exact ⟨by simp only; omega, by simp only; omega, x, by simp only; omega, e, f⟩)
  have HN := hid (fun w => loss2_any (w := w) (c := (D k).c) (t := (D k).t) (by have := ok.c0; omega) ok.c1)
  have HS := hid (losses_any w.drew)
  have H := hid h
  have b0 := h.cell_c h8
  have b1 := h.cell_t h8
  have z0 := h.frozen (k * 4)
  have z1 := h.frozen (k * 4 + 1)
  have HD : Hid (Below w.heap.size w w.drew) := below_drawn (Below.refl _ _) _
  clear h hk ok
  generalize half (D k).c = hc at *
  go_enter Try.func23, Try.ntmps23
  go_upto_region 2 with (go_at_call 19; refine Calls.mono HL.out ?_; rintro e w2 ⟨rfl, rfl⟩)
  clear HL
  go_region_with
    (first
      | (go_at_call 31; refine HS.out.mono ?_; rintro e w3 ⟨b, rfl, s0, s1, hb2⟩; clear b0 b1 z0 z1; have HB3 := hid (HD.out.trans (hb2.mono HD.out.size)); have HG3 := hid (H.out.kept HB3.out); have b0 := HG3.out.cell_c h8; have b1 := HG3.out.cell_t h8; have z0 := HG3.out.frozen (k * 4); have z1 := HG3.out.frozen (k * 4 + 1); clear hb2)
      | (go_at_call 36; refine (HN.out _).mono ?_; rintro e w4 ⟨rfl, hb2⟩; clear b0 b1 z0 z1 s0 s1; have HB4 := hid (HB3.out.trans (hb2.mono HB3.out.size)); have HG4 := hid (HG3.out.kept hb2); have b0 := HG4.out.cell_c h8; have b1 := HG4.out.cell_t h8; have z0 := HG4.out.frozen (k * 4); have z1 := HG4.out.frozen (k * 4 + 1); clear hb2))
  all_goals
    refine bodyPost_end (results_none Try.results23 _ _ _) rfl ?_
    refine ⟨rfl, ?_, ((Only.of_below HB4.out (Nat.le_refl _)).setCell _ _ _ (.inl (by simp))).setCell _ _ _ (.inl (by simp))⟩
    rw [HE.out]
    exact HG4.out.set_w h8 _ _ HO.out
theorem lose_out {w : World} {g n : Nat} {D : Nat → Ln} (h : GAt w g n D) {p : Int} (hp : p < 0 ∨ (n : Int) ≤ p) (kd : Int) :
    Calls Try.prog 23 #[.pointer (some ⟨g, 0, none⟩), .int .i64 p, .int .i64 kd] w fun e w' => e = .returned (.tuple #[]) ∧ w' = w := by
  have HL := hid (lane_out h hp)
  clear h hp
  go_enter Try.func23, Try.ntmps23
  go_wp2_with (go_at_call 19; refine Calls.mono HL.out ?_; rintro e w2 ⟨rfl, rfl⟩)
  refine bodyPost_end (results_none Try.results23 _ _ _) rfl ?_
  exact ⟨rfl, rfl⟩
theorem lose_nil {w : World} {p kd : Int} : Calls Try.prog 23 #[.pointer none, .int .i64 p, .int .i64 kd] w fun e w' => e = .returned (.tuple #[]) ∧ w' = w := by
  have HL := hid (lane_nil (w := w) (p := p))
  go_enter Try.func23, Try.ntmps23
  go_wp2_with (go_at_call 19; refine Calls.mono HL.out ?_; rintro e w2 ⟨rfl, rfl⟩)
  refine bodyPost_end (results_none Try.results23 _ _ _) rfl ?_
  exact ⟨rfl, rfl⟩
theorem lose_any {w : World} {g n : Nat} {D : Nat → Ln} (h : GAt w g n D) (p : Int) (all : Bool) :
    Calls Try.prog 23 #[.pointer (some ⟨g, 0, none⟩), .int .i64 p, .int .i64 (if all then 1 else 0)] w fun e w' => e = .returned (.tuple #[]) ∧ GAt w' g n (loseD D n p all) ∧ Only [g] w w' := by
  by_cases hp : 0 ≤ p ∧ p < n
  · obtain ⟨k, rfl, hk, hkn⟩ := in_of hp
    cases all
    · exact lose_some h hk
    · exact lose_all h hk
  · refine (lose_out h (out_of hp) _).mono ?_
    rintro e w' ⟨rfl, rfl⟩
    refine ⟨rfl, ?_, Only.refl _ _⟩
    unfold loseD
    rw [if_neg hp]
    exact h
theorem cut_any {w : World} {g n : Nat} {D : Nat → Ln} (h : GAt w g n D) (p : Int) :
    Calls Try.prog 14 #[.pointer (some ⟨g, 0, none⟩), .int .i64 p] w fun e w' => e = .returned (.tuple #[]) ∧ GAt w' g n (loseD D n p false) ∧ Only [g] w w' := by
  have HL : Hid (Calls Try.prog 23 #[.pointer (some ⟨g, 0, none⟩), .int .i64 p, .int .i64 0] w fun e w' => e = .returned (.tuple #[]) ∧ GAt w' g n (loseD D n p false) ∧ Only [g] w w') := lose_any h p false
  clear h
  go_enter Try.func14, Try.ntmps14
  go_wp2_with (go_at_call 23; refine Calls.mono HL.out ?_; rintro e w2 ⟨rfl, h1, h2⟩; have H1 := hid h1; have H2 := hid h2; clear h1 h2)
  refine bodyPost_end (results_none Try.results14 _ _ _) rfl ?_
  exact ⟨rfl, H1.out, H2.out⟩
theorem timeout_any {w : World} {g n : Nat} {D : Nat → Ln} (h : GAt w g n D) (p : Int) :
    Calls Try.prog 16 #[.pointer (some ⟨g, 0, none⟩), .int .i64 p] w fun e w' => e = .returned (.tuple #[]) ∧ GAt w' g n (loseD D n p true) ∧ Only [g] w w' := by
  have HL : Hid (Calls Try.prog 23 #[.pointer (some ⟨g, 0, none⟩), .int .i64 p, .int .i64 1] w fun e w' => e = .returned (.tuple #[]) ∧ GAt w' g n (loseD D n p true) ∧ Only [g] w w') := lose_any h p true
  clear h
  go_enter Try.func16, Try.ntmps16
  go_wp2_with (go_at_call 23; refine Calls.mono HL.out ?_; rintro e w2 ⟨rfl, h1, h2⟩; have H1 := hid h1; have H2 := hid h2; clear h1 h2)
  refine bodyPost_end (results_none Try.results16 _ _ _) rfl ?_
  exact ⟨rfl, H1.out, H2.out⟩
theorem cut_nil {w : World} {p : Int} : Calls Try.prog 14 #[.pointer none, .int .i64 p] w fun e w' => e = .returned (.tuple #[]) ∧ w' = w := by
  have HL := hid (lose_nil (w := w) (p := p) (kd := 0))
  go_enter Try.func14, Try.ntmps14
  go_wp2_with (go_at_call 23; refine Calls.mono HL.out ?_; rintro e w2 ⟨rfl, rfl⟩)
  refine bodyPost_end (results_none Try.results14 _ _ _) rfl ?_
  exact ⟨rfl, rfl⟩
theorem timeout_nil {w : World} {p : Int} : Calls Try.prog 16 #[.pointer none, .int .i64 p] w fun e w' => e = .returned (.tuple #[]) ∧ w' = w := by
  have HL := hid (lose_nil (w := w) (p := p) (kd := 1))
  go_enter Try.func16, Try.ntmps16
  go_wp2_with (go_at_call 23; refine Calls.mono HL.out ?_; rintro e w2 ⟨rfl, rfl⟩)
  refine bodyPost_end (results_none Try.results16 _ _ _) rfl ?_
  exact ⟨rfl, rfl⟩
end Go.Proofs.Ytkcoabjeaoigdab
