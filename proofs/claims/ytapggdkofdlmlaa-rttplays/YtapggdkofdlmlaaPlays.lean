import Derived.Test.YtapggdkofdlmlaaPlay0
namespace Go.Proofs.Ytapggdkofdlmlaa
open Go.RowKit Go.Sort
set_option maxRecDepth 100000

theorem pl_new {W w1 w2 w3 : World} (h0 : EstAt w1 W.heap.size Es.new) (b0 : Below W.heap.size W w1) (h1 : EstAt w2 w1.heap.size Es.new) (b1 : Below w1.heap.size w1 w2)
    (hw : w3 = (((w2.alloc (.cells #[.pointer (some ⟨W.heap.size, 0, none⟩), .pointer (some ⟨w1.heap.size, 0, none⟩)] 38)).alloc (.cells #[.int .i64 0, .int .i64 0, .int .i64 0, .int .i64 0] 41)).alloc (.cells #[.int .i64 0, .int .i64 0, .int .i64 0, .int .i64 0] 41)).alloc (.cells #[.pointer (some ⟨w2.heap.size + 1, 0, none⟩), .pointer (some ⟨w2.heap.size + 2, 0, none⟩)] 42)) :
    ∃ g r : Bool → Nat, g false = W.heap.size ∧ g true = w1.heap.size ∧ r false = w2.heap.size + 1 ∧ r true = w2.heap.size + 2 ∧ Pl W w3 g r w2.heap.size (w2.heap.size + 3) (fun _ => Es.new) (fun _ => Es.new) (fun _ => 0) := by
  have z1 := Row.lt h0
  have z2 := Row.lt h1
  have z3 := b0.size
  have z4 := b1.size
  have p : ∀ (w : World) (o : Obj), Below w.heap.size w (w.alloc o) := fun w o => below_grow (Below.refl _ _) o
  have s : ∀ (w : World) (o : Obj), (w.alloc o).heap.size = w.heap.size + 1 := fun w o => by simp
  obtain ⟨u1, hu1⟩ : ∃ u1, u1 = w2.alloc (.cells #[.pointer (some ⟨W.heap.size, 0, none⟩), .pointer (some ⟨w1.heap.size, 0, none⟩)] 38) := ⟨_, rfl⟩
  rw [← hu1] at hw
  obtain ⟨u2, hu2⟩ : ∃ u2, u2 = u1.alloc (.cells #[.int .i64 0, .int .i64 0, .int .i64 0, .int .i64 0] 41) := ⟨_, rfl⟩
  rw [← hu2] at hw
  obtain ⟨u3, hu3⟩ : ∃ u3, u3 = u2.alloc (.cells #[.int .i64 0, .int .i64 0, .int .i64 0, .int .i64 0] 41) := ⟨_, rfl⟩
  rw [← hu3] at hw
  have y1 : u1.heap.size = w2.heap.size + 1 := by rw [hu1]; exact s _ _
  have y2 : u2.heap.size = w2.heap.size + 2 := by rw [hu2, s, y1]
  have y3 : u3.heap.size = w2.heap.size + 3 := by rw [hu3, s, y2]
  have c1 : Below w2.heap.size w2 u1 := by rw [hu1]; exact p _ _
  have c2 : Below u1.heap.size u1 u2 := by rw [hu2]; exact p _ _
  have c3 : Below u2.heap.size u2 u3 := by rw [hu3]; exact p _ _
  have c4 : Below u3.heap.size u3 w3 := by rw [hw]; exact p _ _
  have RA0 : Row u1 w2.heap.size [.pointer (some ⟨W.heap.size, 0, none⟩), .pointer (some ⟨w1.heap.size, 0, none⟩)] 38 := by rw [hu1]; exact Row.new _ _ _
  have R10 : Row u2 (w2.heap.size + 1) [.int .i64 0, .int .i64 0, .int .i64 0, .int .i64 0] 41 := by rw [hu2, ← y1]; exact Row.new _ _ _
  have R20 : Row u3 (w2.heap.size + 2) [.int .i64 0, .int .i64 0, .int .i64 0, .int .i64 0] 41 := by rw [hu3, ← y2]; exact Row.new _ _ _
  have RB : Row w3 (w2.heap.size + 3) [.pointer (some ⟨w2.heap.size + 1, 0, none⟩), .pointer (some ⟨w2.heap.size + 2, 0, none⟩)] 42 := by rw [hw, ← y3]; exact Row.new _ _ _
  have RA := ((RA0.kept c2 RA0.lt).kept c3 (by have := RA0.lt; omega)).kept c4 (by have := RA0.lt; omega)
  have R1 := (R10.kept c3 (by omega)).kept c4 (by omega)
  have R2 := R20.kept c4 (by omega)
  have bb : Below w2.heap.size w2 w3 := ((c1.trans (c2.mono (by omega))).trans (c3.mono (by omega))).trans (c4.mono (by omega))
  have hb0 : Below W.heap.size W w2 := b0.trans (b1.mono (by omega))
  have hb : Below W.heap.size W w3 := hb0.trans (bb.mono (by omega))
  refine ⟨fun c => if c then w1.heap.size else W.heap.size, fun c => if c then w2.heap.size + 2 else w2.heap.size + 1, rfl, rfl, rfl, rfl, ⟨fun c => ?_, fun c => ?_, fun _ => Es.new_ok, fun c => ?_, Nat.ne_of_lt z1, Nat.ne_of_lt (Nat.lt_succ_self _), ?_, ?_⟩⟩
  · cases c
    · exact ⟨(h0.kept b1).kept bb, Es.new_ok, Nat.le_refl _, hb⟩
    · exact ⟨h1.kept bb, Es.new_ok, b0.size, hb⟩
  · cases c
    · exact ⟨R1, rfl⟩
    · exact ⟨R2, rfl⟩
  · have := hb0.size
    cases c <;> simp <;> omega
  · exact RA
  · exact RB
theorem up2_le {m : Bool → Nat} {k : Nat} (h : ∀ c, m c ≤ k) (c : Bool) : ∀ d, up2 m c (m c + 1) d ≤ k + 1 := by
  intro d
  unfold up2
  have h1 := h c
  have h2 := h d
  split <;> omega
set_option maxHeartbeats 8000000 in
theorem plays_any {w : World} {a : Option Addr} {n cap : Nat} {S : List OpV} (hC : OpsAt w a S) (hn : S.length = n) (hm : n ≤ 140737488355328) :
    Calls Try.prog 7 #[.slice a n cap] w fun e w' => e = .returned (.bool true) ∧ Below w.heap.size w w' := by
  have HC := hid hC
  have HN := hid hn
  have HNW := hid (new_any w)
  clear hC hn
  go_enter Try.func7, Try.ntmps7
  go_upto_region 3 with (first
    | (go_at_call 16; refine Calls.mono HNW.out ?_; clear HNW; rintro e w1 ⟨rfl, h1, h2⟩; have HE1 := hid h1; have HB1 := hid h2; have HNX := hid (new_any w1); clear h1 h2)
    | (go_at_call 16; refine Calls.mono HNX.out ?_; clear HNX; rintro e w2 ⟨rfl, h1, h2⟩; have HE2 := hid h1; have HB2 := hid h2; clear h1 h2))
  refine wp_world fun w3 HW => ?_
  obtain ⟨g, r, hg0, hg1, hr0, hr1, hp⟩ := pl_new HE1.out HB1.out HE2.out HB2.out HW.out
  have HP := hid hp
  rw [← hg0, ← hg1]
  have e0 : w2.heap.size + 1 + 1 = w2.heap.size + 2 := rfl
  have e1 : w2.heap.size + 1 + 1 + 1 = w2.heap.size + 3 := rfl
  clear HW HE1 HE2 HB1 HB2 hp
  obtain ⟨A, hA⟩ : ∃ A, A = w2.heap.size := ⟨_, rfl⟩
  obtain ⟨B, hB⟩ : ∃ B, B = w2.heap.size + 3 := ⟨_, rfl⟩
  rw [← hB, ← hA] at HP
  rw [← hB, ← hA]
  clear hA hB hg0 hg1 hr0 hr1 e0 e1
  have ca := HP.out.cellA false
  have cb := HP.out.cellB false
  have cc := HP.out.cellA true
  simp only [Bool.toNat_false, Bool.toNat_true] at ca cb cc
  go_wp2_with (go_at_call 17; refine Calls.mono (HP.out.same false) ?_; rintro e w4 ⟨rfl, h2⟩; clear HP ca cb cc; have HP := hid h2; clear h2)
  go_loopw [34] (fun i wr => ∃ (k : Nat) (E : Bool → Es) (m : Bool → Nat), k ≤ n ∧ i = .int .i64 k ∧ Pl w wr g r A B E E m ∧ ∀ c, m c ≤ k) (fun i _ => n - (intOf i).toNat)
  case atStart => exact ⟨0, _, _, Nat.zero_le _, rfl, HP.out, fun _ => Nat.le_refl _⟩
  case round =>
    obtain ⟨k, E, m, hk, rfl, hd, hnc⟩ := hrel
    clear HP
    have HP0 := hid hd
    have HNC := hid hnc
    clear hd hnc
    by_cases hlt : k < n
    · have hkc : k < S.length := by rw [HN.out]; exact hlt
      obtain ⟨ga, oa, rfl, c0, c1, c2⟩ := HC.out.at_ k hkc
      have hz0 := HC.out.ms0 S[k] (List.getElem_mem hkc)
      have l1 : (k : Int) < (n : Int) := by omega
      generalize S[k] = o at *
      obtain ⟨kd, ot, ms⟩ := o
      simp only at c0 c1 c2 hz0
      have d0 := cell_kept HP0.out.bel c0
      have d1 := cell_kept HP0.out.bel c1
      have d2 := cell_kept HP0.out.bel c2
      have HK := hid hlt
      have HKM : Hid (k ≤ 140737488355328) := by show _ ≤ _; omega
      have HZ0 := hid hz0
      have hk2 : (k : Int) ≤ 140737488355328 := by omega
      clear c0 c1 c2 hk hlt hkc hz0
      go_upto_region 8 with (fail)
      refine wp_world fun wb HW => ?_
      have HP : Hid (Pl w wb g r A B E E m) := HP0.out.kept (by rw [HW.out]; exact below_grow (Below.refl _ _) _)
      obtain ⟨x, hx⟩ : ∃ x, x = wr.heap.size := ⟨_, rfl⟩
      have HX : Hid (Row wb x [.int .i64 kd, .bool ot, .int .u64 ms] 35) := by show Row _ _ _ _; rw [HW.out, hx]; exact Row.new _ _ _
      rw [← hx]
      clear hx HP0 HW d0 d1 d2
      have x1 := HX.out.cell 1 _ rfl
      cases ot with
      | false =>
        go_upto_region 11 with (fail)
        have x0 := HX.out.cell 0 _ rfl
        clear x1
        by_cases k1 : kd = 1
        · subst k1
          go_upto_region 13 with (fail)
          have HPD := hid (HP.out.drawn (wb.drawn + 1))
          have x2 := (HX.out.drawn (wb.drawn + 1)).cell 2 _ rfl
          have HXD := hid (HX.out.drawn (wb.drawn + 1))
          have ca := HPD.out.cellA false
          simp only [Bool.toNat_false] at ca
          clear x0 HX HP
          refine wp_region_still_tail 5 (by kernel_rfl) (by decide +kernel) ?_
          generalize ({ wb with drawn := wb.drawn + 1 } : World) = wq at *
          simp only [List.take_succ_cons, List.take_zero, List.drop_succ_cons, List.drop_zero]
          iterate 5 still_step
          refine wpStill_nil ?_
          go_upto_region 14 with (go_at_call 9; refine Calls.mono (HPD.out.sample false HZ0.out) ?_; rintro e w5 ⟨rfl, h2, h3⟩; clear x2 ca; have HP := hid h2; have HX := hid (h3.row HXD.out (by simpa using HXD.out.ne (HPD.out.est false).at_ (by decide))); clear h2 h3)
          clear HPD HXD
          have HPD := hid (HP.out.drawn (w5.drawn + 1))
          have x2 := (HX.out.drawn (w5.drawn + 1)).cell 2 _ rfl
          have ca := HPD.out.cellB false
          simp only [Bool.toNat_false] at ca
          clear HX HP
          refine wp_region_still_tail 5 (by kernel_rfl) (by decide +kernel) ?_
          generalize ({ w5 with drawn := w5.drawn + 1 } : World) = wp at *
          simp only [List.take_succ_cons, List.take_zero, List.drop_succ_cons, List.drop_zero]
          iterate 5 still_step
          refine wpStill_nil ?_
          go_wp2_with (go_at_call 18; refine Calls.mono (HPD.out.rsample false HZ0.out (Nat.le_trans (HNC.out false) HKM.out)) ?_; rintro e w6 ⟨rfl, h2⟩; clear x2 ca; have HP := hid h2; clear h2)
          go_roundw
          case rel => exact ⟨k + 1, _, _, HK.out, by first | go_num | (rw [Int.natCast_succ]), HP.out, up2_le HNC.out false⟩
          case measure =>
            simp [intOf]
            have := HK.out
            omega
        by_cases k2 : kd = 2
        · subst k2
          clear k1
          have ca := HP.out.cellA false
          simp only [Bool.toNat_false] at ca
          go_upto_region 17 with (go_at_call 13; refine Calls.mono (HP.out.back false) ?_; rintro e w5 ⟨rfl, h2⟩; clear ca x0 HP HX; have HP := hid h2; clear h2)
          have ca := HP.out.cellB false
          simp only [Bool.toNat_false] at ca
          go_wp2_with (go_at_call 19; refine Calls.mono (HP.out.rback false) ?_; rintro e w6 ⟨rfl, h2⟩; clear ca HP; have HP := hid h2; clear h2)
          go_roundw
          case rel => exact ⟨k + 1, _, _, HK.out, by first | go_num | (rw [Int.natCast_succ]), HP.out, fun c => Nat.le_succ_of_le (HNC.out c)⟩
          case measure =>
            simp [intOf]
            have := HK.out
            omega
        by_cases k3 : kd = 3
        · subst k3
          clear k1 k2
          have ca := HP.out.cellA false
          simp only [Bool.toNat_false] at ca
          go_upto_region 20 with (go_at_call 14; refine Calls.mono (HP.out.calm false) ?_; rintro e w5 ⟨rfl, h2⟩; clear ca x0 HP HX; have HP := hid h2; clear h2)
          have ca := HP.out.cellB false
          simp only [Bool.toNat_false] at ca
          go_wp2_with (go_at_call 20; refine Calls.mono (HP.out.rcalm false) ?_; rintro e w6 ⟨rfl, h2⟩; clear ca HP; have HP := hid h2; clear h2)
          go_roundw
          case rel => exact ⟨k + 1, _, _, HK.out, by first | go_num | (rw [Int.natCast_succ]), HP.out, fun c => Nat.le_succ_of_le (HNC.out c)⟩
          case measure =>
            simp [intOf]
            have := HK.out
            omega
        by_cases k4 : kd = 4
        · subst k4
          clear k1 k2 k3
          go_upto_region 22 with (fail)
          have HPD := hid (HP.out.drawn (wb.drawn + 1))
          have ca := HPD.out.cellA false
          have cb := HPD.out.cellB false
          simp only [Bool.toNat_false] at ca cb
          clear x0 HX HP
          refine wp_region_still_tail 6 (by kernel_rfl) (by decide +kernel) ?_
          generalize ({ wb with drawn := wb.drawn + 1 } : World) = wq at *
          simp only [List.take_succ_cons, List.take_zero, List.drop_succ_cons, List.drop_zero]
          iterate 6 still_step
          refine wpStill_nil ?_
          go_wp2_with (go_at_call 17; refine Calls.mono (HPD.out.same false) ?_; rintro e w5 ⟨rfl, h2⟩; clear ca cb; have HP := hid h2; clear h2)
          go_roundw
          case rel => exact ⟨k + 1, _, _, HK.out, by first | go_num | (rw [Int.natCast_succ]), HP.out, fun c => Nat.le_succ_of_le (HNC.out c)⟩
          case measure =>
            simp [intOf]
            have := HK.out
            omega
        have n1 : (kd == 1) = false := beq_eq_false_iff_ne.2 k1
        have n2 : (kd == 2) = false := beq_eq_false_iff_ne.2 k2
        have n3 : (kd == 3) = false := beq_eq_false_iff_ne.2 k3
        have n4 : (kd == 4) = false := beq_eq_false_iff_ne.2 k4
        go_wp2
        go_roundw
        case rel => exact ⟨k + 1, _, _, HK.out, by first | go_num | (rw [Int.natCast_succ]), HP.out, fun c => Nat.le_succ_of_le (HNC.out c)⟩
        case measure =>
          simp [intOf]
          have := HK.out
          omega
      | true =>
        go_upto_region 11 with (fail)
        have x0 := HX.out.cell 0 _ rfl
        clear x1
        by_cases k1 : kd = 1
        · subst k1
          go_upto_region 13 with (fail)
          have HPD := hid (HP.out.drawn (wb.drawn + 1))
          have x2 := (HX.out.drawn (wb.drawn + 1)).cell 2 _ rfl
          have HXD := hid (HX.out.drawn (wb.drawn + 1))
          have ca := HPD.out.cellA true
          simp only [Bool.toNat_true] at ca
          clear x0 HX HP
          refine wp_region_still_tail 5 (by kernel_rfl) (by decide +kernel) ?_
          generalize ({ wb with drawn := wb.drawn + 1 } : World) = wq at *
          simp only [List.take_succ_cons, List.take_zero, List.drop_succ_cons, List.drop_zero]
          iterate 5 still_step
          refine wpStill_nil ?_
          go_upto_region 14 with (go_at_call 9; refine Calls.mono (HPD.out.sample true HZ0.out) ?_; rintro e w5 ⟨rfl, h2, h3⟩; clear x2 ca; have HP := hid h2; have HX := hid (h3.row HXD.out (by simpa using HXD.out.ne (HPD.out.est true).at_ (by decide))); clear h2 h3)
          clear HPD HXD
          have HPD := hid (HP.out.drawn (w5.drawn + 1))
          have x2 := (HX.out.drawn (w5.drawn + 1)).cell 2 _ rfl
          have ca := HPD.out.cellB true
          simp only [Bool.toNat_true] at ca
          clear HX HP
          refine wp_region_still_tail 5 (by kernel_rfl) (by decide +kernel) ?_
          generalize ({ w5 with drawn := w5.drawn + 1 } : World) = wp at *
          simp only [List.take_succ_cons, List.take_zero, List.drop_succ_cons, List.drop_zero]
          iterate 5 still_step
          refine wpStill_nil ?_
          go_wp2_with (go_at_call 18; refine Calls.mono (HPD.out.rsample true HZ0.out (Nat.le_trans (HNC.out true) HKM.out)) ?_; rintro e w6 ⟨rfl, h2⟩; clear x2 ca; have HP := hid h2; clear h2)
          go_roundw
          case rel => exact ⟨k + 1, _, _, HK.out, by first | go_num | (rw [Int.natCast_succ]), HP.out, up2_le HNC.out true⟩
          case measure =>
            simp [intOf]
            have := HK.out
            omega
        by_cases k2 : kd = 2
        · subst k2
          clear k1
          have ca := HP.out.cellA true
          simp only [Bool.toNat_true] at ca
          go_upto_region 17 with (go_at_call 13; refine Calls.mono (HP.out.back true) ?_; rintro e w5 ⟨rfl, h2⟩; clear ca x0 HP HX; have HP := hid h2; clear h2)
          have ca := HP.out.cellB true
          simp only [Bool.toNat_true] at ca
          go_wp2_with (go_at_call 19; refine Calls.mono (HP.out.rback true) ?_; rintro e w6 ⟨rfl, h2⟩; clear ca HP; have HP := hid h2; clear h2)
          go_roundw
          case rel => exact ⟨k + 1, _, _, HK.out, by first | go_num | (rw [Int.natCast_succ]), HP.out, fun c => Nat.le_succ_of_le (HNC.out c)⟩
          case measure =>
            simp [intOf]
            have := HK.out
            omega
        by_cases k3 : kd = 3
        · subst k3
          clear k1 k2
          have ca := HP.out.cellA true
          simp only [Bool.toNat_true] at ca
          go_upto_region 20 with (go_at_call 14; refine Calls.mono (HP.out.calm true) ?_; rintro e w5 ⟨rfl, h2⟩; clear ca x0 HP HX; have HP := hid h2; clear h2)
          have ca := HP.out.cellB true
          simp only [Bool.toNat_true] at ca
          go_wp2_with (go_at_call 20; refine Calls.mono (HP.out.rcalm true) ?_; rintro e w6 ⟨rfl, h2⟩; clear ca HP; have HP := hid h2; clear h2)
          go_roundw
          case rel => exact ⟨k + 1, _, _, HK.out, by first | go_num | (rw [Int.natCast_succ]), HP.out, fun c => Nat.le_succ_of_le (HNC.out c)⟩
          case measure =>
            simp [intOf]
            have := HK.out
            omega
        by_cases k4 : kd = 4
        · subst k4
          clear k1 k2 k3
          go_upto_region 22 with (fail)
          have HPD := hid (HP.out.drawn (wb.drawn + 1))
          have ca := HPD.out.cellA true
          have cb := HPD.out.cellB true
          simp only [Bool.toNat_true] at ca cb
          clear x0 HX HP
          refine wp_region_still_tail 6 (by kernel_rfl) (by decide +kernel) ?_
          generalize ({ wb with drawn := wb.drawn + 1 } : World) = wq at *
          simp only [List.take_succ_cons, List.take_zero, List.drop_succ_cons, List.drop_zero]
          iterate 6 still_step
          refine wpStill_nil ?_
          go_wp2_with (go_at_call 17; refine Calls.mono (HPD.out.same true) ?_; rintro e w5 ⟨rfl, h2⟩; clear ca cb; have HP := hid h2; clear h2)
          go_roundw
          case rel => exact ⟨k + 1, _, _, HK.out, by first | go_num | (rw [Int.natCast_succ]), HP.out, fun c => Nat.le_succ_of_le (HNC.out c)⟩
          case measure =>
            simp [intOf]
            have := HK.out
            omega
        have n1 : (kd == 1) = false := beq_eq_false_iff_ne.2 k1
        have n2 : (kd == 2) = false := beq_eq_false_iff_ne.2 k2
        have n3 : (kd == 3) = false := beq_eq_false_iff_ne.2 k3
        have n4 : (kd == 4) = false := beq_eq_false_iff_ne.2 k4
        go_wp2
        go_roundw
        case rel => exact ⟨k + 1, _, _, HK.out, by first | go_num | (rw [Int.natCast_succ]), HP.out, fun c => Nat.le_succ_of_le (HNC.out c)⟩
        case measure =>
          simp [intOf]
          have := HK.out
          omega
    · have e1 : decide ((k : Int) < (n : Int)) = false := decide_eq_false (by omega)
      have e2 : decide (k < n) = false := decide_eq_false hlt
      have HP := hid HP0.out
      clear hlt hk HP0
      have ca := HP.out.cellA false
      have cb := HP.out.cellB false
      simp only [Bool.toNat_false] at ca cb
      go_wp2_with (first
        | (go_at_call_of 17 (Value.pointer (some ⟨g false, 0, none⟩)); refine Calls.mono (HP.out.same false) ?_; rintro e w5 ⟨rfl, h2⟩; clear ca cb HP; have HP := hid h2; have ca := h2.cellA true; have cb := h2.cellB true; clear h2; simp only [Bool.toNat_true] at ca cb)
        | (go_at_call_of 17 (Value.pointer (some ⟨g true, 0, none⟩)); refine Calls.mono (HP.out.same true) ?_; rintro e w6 ⟨rfl, h2⟩; clear ca cb HP; have HP := hid h2; clear h2))
      go_ret
      exact ⟨rfl, HP.out.bel⟩
end Go.Proofs.Ytapggdkofdlmlaa
