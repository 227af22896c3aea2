import Derived.Test.YtjpllcliehgnfaaDoorSha0
import Derived.StillTailTactics
import Derived.Laws.CopyOwn
namespace Go.Proofs.YtjpllcliehgnfaaDoor
open Go.RowKit
set_option maxRecDepth 100000

theorem wrap_small (x : Int) (h0 : 0 ≤ x) (h1 : x ≤ 281474976710656) : IntKind.i64.wrap x = x := by
  unfold IntKind.wrap; simp [IntKind.bits, IntKind.signed]; omega
theorem bget {b : List (BitVec 8)} (hb : b.length = 64) {w : World} {g : Nat} (R : Row w g (bcells b) 92) (j : Nat) (hj : j < 64) : w.cell? ⟨g, j, none⟩ = some (.int .u8 (ub (b.getD j 0))) := by
  rw [R.cell j _ (bcells_get (l := b) (by omega))]
  simp [List.getD, List.getElem?_eq_getElem (show j < b.length by omega)]

set_option maxHeartbeats 1500000 in
theorem schedule_any {w : World} (b : List (BitVec 8)) (hb : b.length = 64) :
    Calls Tryd.prog 74 #[.agg (bcells b).toArray] w fun e w' => e = .returned (.agg (wcells (wordsOf b 48)).toArray) ∧ Below w.heap.size w w' := by
  have HL : Hid _ := hb
  clear hb
  go_enter Tryd.func74, Tryd.ntmps74
  go_wp2
  go_loopw [10] (fun i wr => ∃ k : Nat, k ≤ 16 ∧ i = .int .i64 k ∧ Row wr w.heap.size (bcells b) 92 ∧ Row wr (w.heap.size + 2) (wcells (filled (firstWords b k))) 99 ∧ Row wr (w.heap.size + 1) (wcells (filled [])) 99 ∧ Below w.heap.size w wr) (fun i _ => 16 - (intOf i).toNat)
  case atStart =>
    refine ⟨0, by omega, rfl, ((Row.new w _ _).alloc _).alloc _, Row.new' _ _ _ _ _ (by simp) rfl, (Row.new' _ _ _ _ _ (by simp) rfl).alloc _, (((Below.refl _ _).alloc (Nat.le_refl _) _).alloc (by simp) _).alloc (by simp; omega) _⟩
  case round =>
    obtain ⟨k, hk, rfl, R0, R2, R1, hbel⟩ := hrel
    by_cases hlt : k < 16
    · have hlt' : (k : Int) < 16 := by omega
      have c0 := bget HL.out R0 (4 * k) (by omega)
      have c1 := bget HL.out R0 (4 * k + 1) (by omega)
      have c2 := bget HL.out R0 (4 * k + 2) (by omega)
      have c3 := bget HL.out R0 (4 * k + 3) (by omega)
      have hw : Hid (blockWord b k = word4 (b.getD (4 * k) 0) (b.getD (4 * k + 1) 0) (b.getD (4 * k + 2) 0) (b.getD (4 * k + 3) 0)) := rfl
      generalize b.getD (4 * k) 0 = b0 at *
      generalize b.getD (4 * k + 1) 0 = b1 at *
      generalize b.getD (4 * k + 2) 0 = b2 at *
      generalize b.getD (4 * k + 3) 0 = b3 at *
      obtain ⟨m, hm, hm2⟩ : ∃ m : Nat, m = 4 * k ∧ m ≤ 60 := ⟨_, rfl, by omega⟩
      rw [← hm] at c0 c1 c2 c3
      have w0 : IntKind.i64.wrap (4 * (k : Int)) = (m : Int) := by rw [wrap_small _ (by omega) (by omega)]; omega
      have w1 : IntKind.i64.wrap ((m : Int) + 1) = (m : Int) + 1 := wrap_small _ (by omega) (by omega)
      have w2 : IntKind.i64.wrap ((m : Int) + 2) = (m : Int) + 2 := wrap_small _ (by omega) (by omega)
      have w3 : IntKind.i64.wrap ((m : Int) + 3) = (m : Int) + 3 := wrap_small _ (by omega) (by omega)
      have t1 : ((m : Int) + 1).toNat = m + 1 := by omega
      have t2 : ((m : Int) + 2).toNat = m + 2 := by omega
      have t3 : ((m : Int) + 3).toNat = m + 3 := by omega
      have g0 : (m : Int) < 64 := by omega
      have g1 : (m : Int) + 1 < 64 := by omega
      have g2 : (m : Int) + 2 < 64 := by omega
      have g3 : (m : Int) + 3 < 64 := by omega
      have g4 : (0 : Int) ≤ (m : Int) + 1 := by omega
      have g5 : (0 : Int) ≤ (m : Int) + 2 := by omega
      have g6 : (0 : Int) ≤ (m : Int) + 3 := by omega
      have g7 : (k : Int) < 64 := by omega
      have HM : Hid _ := hm
      clear hm hm2
      have f1 := R2.frozen k
      have f2 : ∃ v, wr.cell? ⟨w.heap.size + 2, k, none⟩ = some v := ⟨_, R2.cell k _ (wcells_get (by rw [filled_len _ (by simp [firstWords]; omega)]; omega))⟩
      obtain ⟨v, f2⟩ := f2
      have HR0 : Hid _ := R0
      have HR1 : Hid _ := R1
      have HR2 : Hid _ := R2
      have HB : Hid _ := hbel
      clear R0 R1 R2 hbel
      go_wp2
      refine wp_region_still_tail 22 (by kernel_rfl) (by kernel_rfl) ?_
      replace c0 := cell_drawn (wr.drawn + 1) c0
      replace c1 := cell_drawn (wr.drawn + 1) c1
      replace c2 := cell_drawn (wr.drawn + 1) c2
      replace c3 := cell_drawn (wr.drawn + 1) c3
      replace f1 := frozen_drawn (wr.drawn + 1) f1
      replace f2 := cell_drawn (wr.drawn + 1) f2
      replace HR0 : Hid _ := HR0.out.drawn (wr.drawn + 1)
      replace HR1 : Hid _ := HR1.out.drawn (wr.drawn + 1)
      replace HR2 : Hid _ := HR2.out.drawn (wr.drawn + 1)
      replace HB : Hid _ := below_drawn HB.out (wr.drawn + 1)
      generalize ({ wr with drawn := wr.drawn + 1 } : World) = wq at *
      simp only [List.take_succ_cons, List.take_zero, List.drop_succ_cons, List.drop_zero]
      iterate 20 still_step
      still_call (word_any b0 b1 b2 b3 _)
      still_step
      refine wpStill_nil ?_
      go_wp2
      go_roundw
      case rel =>
        refine ⟨k + 1, hlt, by go_num, HR0.out.setOther _ (show w.heap.size ≠ w.heap.size + 2 by omega) _, ?_, HR1.out.setOther _ (show w.heap.size + 1 ≠ w.heap.size + 2 by omega) _, HB.out.setCell (show w.heap.size ≤ w.heap.size + 2 by omega) _⟩
        have := HR2.out.set k (.int .u32 (u (word4 b0 b1 b2 b3)))
        rw [wcells_set] at this
        have e := filled_set (firstWords b k) (word4 b0 b1 b2 b3) (by rw [firstWords_len]; omega)
        rw [firstWords_len] at e
        rw [e, ← hw.out, ← firstWords_snoc, hw.out] at this
        exact this
      case measure => simp [intOf]; omega
    · have ek : k = 16 := by omega
      obtain ⟨z, hz⟩ : ∃ z : Int, z = (k : Int) := ⟨_, rfl⟩
      rw [← hz]
      have hz2 : z = 16 := by omega
      subst ek
      clear hz
      subst hz2
      have HR0 : Hid _ := R0
      have HR1 : Hid _ := R1
      have HR2 : Hid (Row wr (w.heap.size + 2) (wcells (filled (wordsOf b 0))) 99) := R2
      have HB : Hid _ := hbel
      clear R0 R1 R2 hbel
      obtain ⟨wo, hwo⟩ : ∃ wo, wo = wr := ⟨_, rfl⟩
      subst hwo
      go_wp2
      go_loopw [5] (fun i wr => ∃ m n : Nat, m = 16 + n ∧ m ≤ 64 ∧ i = .int .i64 m ∧ Row wr (w.heap.size + 2) (wcells (filled (wordsOf b n))) 99 ∧ Row wr (w.heap.size + 1) (wcells (filled [])) 99 ∧ Below w.heap.size w wr) (fun i _ => 64 - (intOf i).toNat)
      case atStart => exact ⟨16, 0, rfl, by omega, rfl, HR2.out, HR1.out, HB.out⟩
      case round =>
        clear HR0 HR1 HR2 HB
        obtain ⟨m, n, hmn, hm, rfl, R2, R1, hbel⟩ := hrel
        by_cases hlt : m < 64
        · have hl := wordsOf_len b n
          have d15 := wget (by omega) R2 (n + 1) (by omega)
          have d2 := wget (by omega) R2 (n + 14) (by omega)
          have d16 := wget (by omega) R2 n (by omega)
          have d7 := wget (by omega) R2 (n + 9) (by omega)
          obtain ⟨v, f2⟩ := wget0 (by omega) R2 m hlt
          have f1 := R2.frozen m
          have hN : Hid (nextWord (wordsOf b n) = (wordsOf b n).getD n 0 + sg0 ((wordsOf b n).getD (n + 1) 0) + (wordsOf b n).getD (n + 9) 0 + sg1 ((wordsOf b n).getD (n + 14) 0)) := by
            show nextWord (wordsOf b n) = _
            unfold nextWord
            rw [hl, show 16 + n - 16 = n by omega, show 16 + n - 15 = n + 1 by omega, show 16 + n - 7 = n + 9 by omega, show 16 + n - 2 = n + 14 by omega]
          generalize (wordsOf b n).getD (n + 1) 0 = p at *
          generalize (wordsOf b n).getD (n + 14) 0 = q at *
          generalize (wordsOf b n).getD n 0 = x16 at *
          generalize (wordsOf b n).getD (n + 9) 0 = x7 at *
          obtain ⟨j15, h15⟩ : ∃ j, j = n + 1 := ⟨_, rfl⟩
          obtain ⟨j2, h2⟩ : ∃ j, j = n + 14 := ⟨_, rfl⟩
          obtain ⟨j7, h7⟩ : ∃ j, j = n + 9 := ⟨_, rfl⟩
          rw [← h15] at d15
          rw [← h2] at d2
          rw [← h7] at d7
          have e15 : IntKind.i64.wrap ((m : Int) - 15) = (j15 : Int) := by rw [wrap_small _ (by omega) (by omega)]; omega
          have e2 : IntKind.i64.wrap ((m : Int) - 2) = (j2 : Int) := by rw [wrap_small _ (by omega) (by omega)]; omega
          have e7 : IntKind.i64.wrap ((m : Int) - 7) = (j7 : Int) := by rw [wrap_small _ (by omega) (by omega)]; omega
          have e16 : IntKind.i64.wrap ((m : Int) - 16) = (n : Int) := by rw [wrap_small _ (by omega) (by omega)]; omega
          have g1 : (j15 : Int) < 64 := by omega
          have g2 : (j2 : Int) < 64 := by omega
          have g3 : (j7 : Int) < 64 := by omega
          have g4 : (n : Int) < 64 := by omega
          have g5 : (m : Int) < 64 := by omega
          have HMN : Hid _ := hmn
          have HHL : Hid _ := hl
          have HM : Hid _ := hlt
          have HR1 : Hid _ := R1
          have HR2 : Hid _ := R2
          have HB : Hid _ := hbel
          clear R1 R2 hbel hmn hm h15 h2 h7 hl hlt
          go_wp2
          refine wp_region_still_lit (by kernel_rfl) (by kernel_rfl) ?_
          replace d15 := cell_drawn (wr.drawn + 1) d15
          replace d2 := cell_drawn (wr.drawn + 1) d2
          replace d16 := cell_drawn (wr.drawn + 1) d16
          replace d7 := cell_drawn (wr.drawn + 1) d7
          replace f1 := frozen_drawn (wr.drawn + 1) f1
          replace f2 := cell_drawn (wr.drawn + 1) f2
          replace HR1 : Hid _ := HR1.out.drawn (wr.drawn + 1)
          replace HR2 : Hid _ := HR2.out.drawn (wr.drawn + 1)
          replace HB : Hid _ := below_drawn HB.out (wr.drawn + 1)
          generalize ({ wr with drawn := wr.drawn + 1 } : World) = wq at *
          repeat still_step
          refine wpStill_nil ?_
          go_wp2_with (first | (go_at_call_of 75 (Value.int IntKind.i64 7); refine (turned7 _ _).mono ?_; rintro e w' ⟨rfl, rfl⟩) | (go_at_call_of 75 (Value.int IntKind.i64 18); refine (turned18 _ _).mono ?_; rintro e w' ⟨rfl, rfl⟩) | (go_at_call_of 75 (Value.int IntKind.i64 17); refine (turned17 _ _).mono ?_; rintro e w' ⟨rfl, rfl⟩) | (go_at_call_of 75 (Value.int IntKind.i64 19); refine (turned19 _ _).mono ?_; rintro e w' ⟨rfl, rfl⟩))
          refine wp_region_still_tail 15 (by kernel_rfl) (by kernel_rfl) ?_
          replace d16 := cell_drawn (w'.drawn + 1) d16
          replace d7 := cell_drawn (w'.drawn + 1) d7
          replace f1 := frozen_drawn (w'.drawn + 1) f1
          replace f2 := cell_drawn (w'.drawn + 1) f2
          replace HR1 : Hid _ := HR1.out.drawn (w'.drawn + 1)
          replace HR2 : Hid _ := HR2.out.drawn (w'.drawn + 1)
          replace HB : Hid _ := below_drawn HB.out (w'.drawn + 1)
          generalize ({ w' with drawn := w'.drawn + 1 } : World) = wz at *
          simp only [List.take_succ_cons, List.take_zero, List.drop_succ_cons, List.drop_zero]
          iterate 15 still_step
          refine wpStill_nil ?_
          go_wp2
          go_roundw
          case rel =>
            refine ⟨m + 1, n + 1, by have := HMN.out; omega, by have := HM.out; omega, by go_num, ?_, HR1.out.setOther _ (show w.heap.size + 1 ≠ w.heap.size + 2 by omega) _, HB.out.setCell (show w.heap.size ≤ w.heap.size + 2 by omega) _⟩
            have hr := HR2.out.set m (.int .u32 (u (nextWord (wordsOf b n))))
            have e := filled_set (wordsOf b n) (nextWord (wordsOf b n)) (by rw [HHL.out]; have := HMN.out; have := HM.out; omega)
            rw [HHL.out, ← HMN.out] at e
            rw [wcells_set, e, hN.out] at hr
            show Row _ _ (wcells (filled (wordsOf b n ++ [nextWord (wordsOf b n)]))) 99
            rw [hN.out]
            exact hr
          case measure => simp [intOf]; omega
        · have em : m = 64 := by omega
          have en : n = 48 := by omega
          subst em en
          have hlen : (wordsOf b 48).length = 64 := wordsOf_len b 48
          rw [filled_full _ hlen] at R2
          have i66 : (Tryd.prog.info? 99).map (·.size) = some 64 := by kernel_rfl
          have I66 : Hid _ := i66
          have HL2 : Hid _ := hlen
          have HR1 : Hid _ := R1
          have HR2 : Hid _ := R2
          have HB : Hid _ := hbel
          clear R1 R2 hbel i66 hlen
          go_wp2_with (first
            | (refine HR2.out.wpLoad 99 (.tmp 3) rfl rfl rfl _ Tryd.underlying99 rfl (by rw [wcells_len, HL2.out]; exact I66.out) ?_)
            | (refine HR1.out.wpStore 99 (.tmp 2) (.tmp 79) (wcells (wordsOf b 48)) rfl rfl rfl rfl (by rw [wcells_len, wcells_len, HL2.out]; rfl) (wcells_one _) (by rw [wcells_len, HL2.out]; exact I66.out) ?_))
          refine bodyPost_ret (v := .agg (wcells (wordsOf b 48)).toArray) ((HR1.out.row (wcells (wordsOf b 48))).result Tryd.results74 _ rfl _ Tryd.underlying99 rfl (by rw [wcells_len, HL2.out]; exact I66.out)) rfl ⟨rfl, ?_⟩
          exact Go.below_setRow HB.out (by omega) _
end Go.Proofs.YtjpllcliehgnfaaDoor
