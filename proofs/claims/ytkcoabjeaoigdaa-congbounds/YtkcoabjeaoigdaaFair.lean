import Derived.Test.YtkcoabjeaoigdaaAct
namespace Go.Proofs.Ytkcoabjeaoigdaa
open Go.RowKit Go.Sort
set_option maxRecDepth 100000

/-- A script as a slice of calls. -/
structure OpsAt (w : World) (a : Option Addr) (S : List OpV) : Prop where
  at_ : ∀ k (h : k < S.length), ∃ g o, a = some ⟨g, o, none⟩ ∧ w.cell? ⟨g, o + k * 6, none⟩ = some (.int .i64 S[k].kind) ∧ w.cell? ⟨g, o + k * 6 + 1, none⟩ = some (.bool S[k].sec) ∧ w.cell? ⟨g, o + k * 6 + 2, none⟩ = some (.int .i64 S[k].path) ∧ w.cell? ⟨g, o + k * 6 + 3, none⟩ = some (.int .i64 S[k].n) ∧ w.cell? ⟨g, o + k * 6 + 4, none⟩ = some (.bool S[k].on) ∧ w.cell? ⟨g, o + k * 6 + 5, none⟩ = some (.int .u64 S[k].ms)
  ok : ∀ o ∈ S, o.Ok
theorem Row.ne {w : World} {g g' : Nat} {c c' : List Value} {t t' : TypeId} (h : Row w g c t) (k : Row w g' c' t') (hne : t ≠ t') : g ≠ g' := by
  rintro rfl
  have := h.at_.symm.trans k.at_
  simp only [Option.some.injEq, Obj.cells.injEq] at this
  exact hne this.2.1
theorem GAt.ne {w : World} {g n b : Nat} {D : Nat → Ln} {c : List Value} {t : TypeId} (h : GAt w g n D) (R : Row w b c t) (ht : t ≠ 48) : b ≠ g := by
  obtain ⟨⟨c, hr, _⟩, _, _⟩ := h
  exact R.ne hr ht
theorem winD_in {D : Nat → Ln} {n k : Nat} (hk : k < n) : winD D n k = ((D k).c, (D k).t) := by
  unfold winD
  rw [if_pos (by omega)]
  simp
theorem ackedD_in {D : Nat → Ln} {n k : Nat} (hk : k < n) (F : Int) : ackedD D n k F = ackD n k F.toNat D := by
  unfold ackedD
  rw [if_pos (by omega)]
  simp
theorem growD_at (D : Nat → Ln) (n k : Nat) : growD D n k k = { D k with c := upc D n k } := upd_at _ _ _
/-- What one frame makes of a window. -/
theorem ack1_win {D : Nat → Ln} {n k : Nat} (hk : k < n) (ok : (D k).Ok) : ∃ c2, winD (ackedD D n k 1) n k = (c2, (D k).t) ∧ 1024 ≤ c2 ∧ c2 ≤ 262144 ∧ ((D k).c < (D k).t → c2 = min ((D k).c + 1024) (D k).t) ∧ (¬ (D k).c < (D k).t → (D k).c = 262144 → c2 = 262144) ∧ (¬ (D k).c < (D k).t → ¬ (D k).c = 262144 → (D k).c < c2 ∧ c2 ≤ (D k).c + 1048576 / (D k).c) := by
  rw [ackedD_in hk, winD_in hk]
  show ∃ c2, (((ackD n k 1 D) k).c, ((ackD n k 1 D) k).t) = _ ∧ _
  have h1 := ok.c1
  have h2 := upc_b (n := n) ok
  by_cases hc : (D k).c < 262144
  · rw [ackD_step hc]
    show ∃ c2, ((growD D n k k).c, (growD D n k k).t) = _ ∧ _
    rw [growD_at]
    refine ⟨_, rfl, h2.1, h2.2.1, ?_, ?_, ?_⟩
    · intro h; unfold upc; rw [if_pos h]
    · intro h e; omega
    · intro h e
      have h3 := stepD_b (n := n) ok
      refine ⟨h2.2.2.2 hc, ?_⟩
      show upc D n k ≤ _
      unfold upc
      rw [if_neg h]
      omega
  · rw [ackD_full hc]
    refine ⟨_, rfl, ok.c0, h1, ?_, ?_, ?_⟩
    · intro h; have := ok.t1; omega
    · intro _ e; exact e
    · intro _ e; omega
theorem iw64 (x : Int) : IntKind.i64.wrap x = wrap64 x := wr x
/-- How many paths a number asks for. -/
theorem paths_of (x : Int) : ∃ n : Nat, 1 ≤ n ∧ n ≤ 8 ∧ wrap64 (1 + wrap64 ((IntKind.u64.wrap x).tmod 8)) = n := by
  have h0 : 0 ≤ IntKind.u64.wrap x := by rw [IntKind.wrap_u64]; omega
  rw [Int.tmod_eq_emod_of_nonneg h0]
  have h : 0 ≤ IntKind.u64.wrap x % 8 ∧ IntKind.u64.wrap x % 8 < 8 := ⟨Int.emod_nonneg _ (by decide), Int.emod_lt_of_pos _ (by decide)⟩
  generalize IntKind.u64.wrap x % 8 = y at *
  refine ⟨(1 + y).toNat, by omega, by omega, ?_⟩
  unfold wrap64
  omega
/-- Which path a number asks for. -/
theorem path_of (y : Int) {n : Nat} (h1 : 1 ≤ n) (h8 : n ≤ 8) : ∃ k : Nat, k < n ∧ wrap64 ((IntKind.u64.wrap y).tmod n) = k := by
  have h0 : 0 ≤ IntKind.u64.wrap y := by rw [IntKind.wrap_u64]; omega
  rw [Int.tmod_eq_emod_of_nonneg h0]
  have h : 0 ≤ IntKind.u64.wrap y % n ∧ IntKind.u64.wrap y % n < n := ⟨Int.emod_nonneg _ (by omega), Int.emod_lt_of_pos _ (by omega)⟩
  generalize IntKind.u64.wrap y % n = z at *
  refine ⟨z.toNat, by omega, ?_⟩
  unfold wrap64
  omega
set_option maxHeartbeats 1000000 in
theorem fair_any {w : World} {x y : Int} {a : Option Addr} {ln cap : Nat} {S : List OpV} (hC : OpsAt w a S) (hn : S.length = ln) (hm : ln ≤ 140737488355328) :
    Calls Try.prog 5 #[.int .i64 x, .slice a ln cap, .int .i64 y] w fun e w' => e = .returned (.bool true) ∧ Below w.heap.size w w' := by
  have HC := hid hC
  have HN := hid hn
  have HA := hid (alive_any w)
  obtain ⟨n, n1, n8, en⟩ := paths_of x
  clear hC hn
  go_enter Try.func5, Try.ntmps5
  go_upto_region 4 with (go_at_call 15; refine HA.out.mono ?_; clear HA; rintro e w1 ⟨rfl, hb⟩; have HB1 := hid hb; clear hb)
  rw [en]
  clear en
  have HNW := hid (own_new HB1.out n1 n8)
  have H1 := hid n1
  have H8 := hid n8
  clear n1 n8 HB1
  go_upto_region 5 with (go_at_call 9; refine HNW.out.mono ?_; clear HNW; rintro e w2 ⟨rfl, h1, _⟩; have HO := hid h1; clear h1)
  obtain ⟨g, hg⟩ : ∃ g, g = w1.heap.size := ⟨_, rfl⟩
  rw [← hg] at HO
  rw [← hg]
  clear hg
  go_wp2
  go_loopw [8] (fun i wr => ∃ (k : Nat) (D : Nat → Ln), k ≤ ln ∧ i = .int .i64 k ∧ Own1 w wr g n D) (fun i _ => ln - (intOf i).toNat)
  case atStart => exact ⟨0, _, Nat.zero_le _, rfl, HO.out⟩
  case round =>
    obtain ⟨k, D, hk, rfl, ho⟩ := hrel
    have HO' := hid ho
    clear ho HO
    by_cases hlt : k < ln
    · have hkc : k < S.length := by rw [HN.out]; exact hlt
      obtain ⟨ga, oa, rfl, c0, c1, c2, c3, c4, c5⟩ := HC.out.at_ k hkc
      have HOK := hid (HC.out.ok S[k] (List.getElem_mem hkc))
      have l1 : (k : Int) < (ln : Int) := by omega
      generalize S[k] = o at *
      have d0 := cell_kept HO'.out.bel c0
      have d1 := cell_kept HO'.out.bel c1
      have d2 := cell_kept HO'.out.bel c2
      have d3 := cell_kept HO'.out.bel c3
      have d4 := cell_kept HO'.out.bel c4
      have d5 := cell_kept HO'.out.bel c5
      have HK := hid hlt
      have hk2 : (k : Int) ≤ 140737488355328 := by omega
      clear c0 c1 c2 c3 c4 c5 hk hlt hkc
      go_wp2_with (go_at_call 16; refine (act_any HO'.out.at_ HOK.out).mono ?_; rintro e w3 ⟨rfl, h1, h2⟩; have HO3 := hid (HO'.out.to h1 h2); clear h1 h2 d0 d1 d2 d3 d4 d5)
      go_roundw
      case rel => exact ⟨k + 1, _, HK.out, by first | go_num | (rw [Int.natCast_succ]), HO3.out⟩
      case measure =>
        simp [intOf]
        have := HK.out
        omega
    · have e1 : decide ((k : Int) < (ln : Int)) = false := decide_eq_false (by omega)
      have e2 : decide (k < ln) = false := decide_eq_false hlt
      obtain ⟨j, hj, ej⟩ := path_of y H1.out H8.out
      have HJ := hid hj
      have nz : ¬ (n : Int) = 0 := by have := H1.out; omega
      have nz' : ¬ n = 0 := by have := H1.out; omega
      have uw : IntKind.u64.wrap (n : Int) = n := by have := H8.out; rw [IntKind.wrap_u64]; omega
      clear hlt hk hj
      go_upto_region 12 with (fail)
      rw [ej]
      clear ej
      have ok := HO'.out.at_.ok j HJ.out
      obtain ⟨c2, hw2, c20, c21, q1, q2, q3⟩ := ack1_win HJ.out ok
      have HW2 := hid hw2
      have HWI := hid (window_any HO'.out.at_ j)
      rw [winD_in HJ.out] at HWI
      have kc0 := ok.c0
      have kc1 := ok.c1
      have Q1 := hid q1
      have Q2 := hid q2
      have Q3 := hid q3
      clear q1 q2 q3
      generalize (D j).c = c at *
      generalize (D j).t = t at *
      clear ok hw2 e1 e2 nz nz' uw
      simp only at HWI
      go_upto_region 13 with (go_at_call 13; refine HWI.out.mono ?_; clear HWI; rintro e w3 ⟨rfl, hb⟩; have HO3 := hid (HO'.out.kept hb); clear hb)
      clear HO'
      refine wp_world fun w4 HW => ?_
      obtain ⟨b1, hb1⟩ : ∃ b1, b1 = w3.heap.size := ⟨_, rfl⟩
      have HR4 : Hid (Row w4 b1 [.int .i64 c, .int .i64 t] 29) := by show Row _ _ _ _; rw [HW.out, hb1]; exact Row.new _ _ _
      have HO4 : Hid (Own1 w w4 g n D) := by show Own1 _ _ _ _ _; rw [HW.out]; exact HO3.out.kept (below_grow (Below.refl _ _) _)
      rw [← hb1]
      clear hb1 HW HO3
      go_upto_region 14 with (go_at_call 14; refine (acked_any HO4.out.at_ j (F := 1) (by decide)).mono ?_; rintro e w5 ⟨rfl, h1, h2⟩; have HR5 := hid (h2.row HR4.out (by simpa using HO4.out.at_.ne HR4.out (by decide))); have HO5 := hid (HO4.out.to h1 h2); clear h1 h2)
      clear HR4 HO4
      have HWI := hid (window_any HO5.out.at_ j)
      rw [HW2.out] at HWI
      simp only at HWI
      go_upto_region 15 with (go_at_call 13; refine HWI.out.mono ?_; clear HWI; rintro e w6 ⟨rfl, hb⟩; have HR6 := hid (HR5.out.kept hb HR5.out.lt); have HO6 := hid (HO5.out.kept hb); clear hb)
      clear HO5 HR5
      refine wp_world fun w7 HW => ?_
      obtain ⟨b2, hb2⟩ : ∃ b2, b2 = w6.heap.size := ⟨_, rfl⟩
      have HS7 : Hid (Row w7 b2 [.int .i64 c2, .int .i64 t] 29) := by show Row _ _ _ _; rw [HW.out, hb2]; exact Row.new _ _ _
      have HR7 : Hid (Row w7 b1 [.int .i64 c, .int .i64 t] 29) := by show Row _ _ _ _; rw [HW.out]; exact HR6.out.alloc _
      have HO7 : Hid (Own1 w w7 g n (ackedD D n j 1)) := by show Own1 _ _ _ _ _; rw [HW.out]; exact HO6.out.kept (below_grow (Below.refl _ _) _)
      rw [← hb2]
      clear hb2 HW HO6 HR6
      have x0 := HR7.out.cell 0 _ rfl
      have x1 := HR7.out.cell 1 _ rfl
      have y0 := HS7.out.cell 0 _ rfl
      have y1 := HS7.out.cell 1 _ rfl
      by_cases hct : c < t
      · have q := Q1.out hct
        have dd : decide (c < t) = true := decide_eq_true hct
        have ew : wrap64 (c + 1024) = c + 1024 := by unfold wrap64; omega
        clear Q1 Q2 Q3 hct
        subst q
        go_wp2
        go_ret
        exact ⟨rfl, HO7.out.bel⟩
      · have dd : decide (c < t) = false := decide_eq_false hct
        by_cases hcm : c = 262144
        · have q := Q2.out (by omega) hcm
          clear Q1 Q2 Q3 hct
          subst q hcm
          go_wp2
          go_ret
          exact ⟨rfl, HO7.out.bel⟩
        · obtain ⟨g1, g2⟩ := Q3.out (by omega) hcm
          have dm : (c == 262144) = false := by simp [hcm]
          have ob := own_b kc0 kc1
          have ed : (1048576 : Int).tdiv c = 1048576 / c := Int.tdiv_eq_ediv_of_nonneg (by decide)
          have ew : wrap64 (1048576 / c) = 1048576 / c := by unfold wrap64; omega
          have ew2 : wrap64 (c + 1048576 / c) = c + 1048576 / c := by unfold wrap64; omega
          have iw : IntKind.i64.wrap (1048576 / c) = 1048576 / c := (iw64 _).trans ew
          have iw2 : IntKind.i64.wrap (c + 1048576 / c) = c + 1048576 / c := (iw64 _).trans ew2
          have nzc : ¬ c = 0 := by omega
          have dg : decide (c < c2) = true := decide_eq_true g1
          have dl : decide (c2 ≤ c + 1048576 / c) = true := decide_eq_true g2
          clear Q1 Q2 Q3 hct ob kc0 kc1 c20 c21 g1 g2 hcm
          generalize 1048576 / c = own at *
          go_wp2
          go_region
          all_goals go_wp2
          all_goals go_ret
          all_goals exact ⟨rfl, HO7.out.bel.trans (below_drawn (Below.refl _ _) _)⟩
end Go.Proofs.Ytkcoabjeaoigdaa
