import Derived.Test.YtapggdkofdlmlaaOpen
namespace Go.Proofs.Ytapggdkofdlmlaa
open Go.RowKit Go.Sort
set_option maxRecDepth 100000

section
variable {E : Es}
theorem Es.Ok.rto_lo (h : E.Ok) : 200 ≤ E.rto ∧ E.rto ≤ 60000 := by
  have hw := h.wait
  have he := two_pow_bd E.b h.b0 h.b1
  have h1 := Int.mul_le_mul hw.1 he.1 (by decide) (by omega)
  unfold Es.rto
  omega
theorem Es.calm_rto_eq (E : Es) : E.calm.rto = min E.wait 60000 := by
  show min (E.wait * 2 ^ (0 : Int).toNat) 60000 = _
  rw [show (2 : Int) ^ (0 : Int).toNat = 1 from rfl, Int.mul_one]
theorem Es.Ok.calm_le (h : E.Ok) : E.calm.rto ≤ E.rto := by
  rw [Es.calm_rto_eq]
  have hw := h.wait
  have he := two_pow_bd E.b h.b0 h.b1
  have h1 := Int.mul_le_mul_of_nonneg_left he.1 (show 0 ≤ E.wait by omega)
  unfold Es.rto
  omega
theorem Es.Ok.back_le (h : E.Ok) : E.rto ≤ E.back.rto ∧ E.back.rto ≤ 2 * E.rto := by
  have hw := h.wait
  have he := two_pow_bd E.b h.b0 h.b1
  have h1 : 0 ≤ E.wait * 2 ^ E.b.toNat := Int.mul_nonneg (by omega) (by omega)
  have ew : E.back.wait = E.wait := rfl
  have eb : E.back.b = min (E.b + 1) 16 := rfl
  unfold Es.rto
  rw [ew, eb]
  by_cases hb : E.b = 16
  · rw [hb]
    rw [hb] at h1
    rw [show min ((16 : Int) + 1) 16 = 16 from by decide]
    omega
  · have h3 := h.b0
    have h4 := h.b1
    have : (min (E.b + 1) 16).toNat = E.b.toNat + 1 := by omega
    rw [this, Int.pow_succ, ← Int.mul_assoc]
    omega
theorem Es.calm_sample (E : Es) (ms : Int) : E.calm.sample ms = (E.sample ms).calm := by
  unfold Es.sample Es.calm
  simp only
  split <;> rfl
theorem Es.calm_calm (E : Es) : E.calm.calm = E.calm := rfl
theorem Es.back_calm (E : Es) : E.back.calm = E.calm := rfl
end
/-- Two of them, and a call of the script beside them. -/
structure Tri (W w : World) (g h x : Nat) (E F : Es) (o : OpV) : Prop where
  d : Duo W w g h E F
  r : Row w x o.cells 35
  xg : x ≠ g
  xh : x ≠ h
section
variable {W w w' : World} {g h x : Nat} {E F : Es} {o : OpV}
theorem Tri.turn (t : Tri W w g h x E F o) : Tri W w h g x F E o := ⟨t.d.turn, t.r, t.xh, t.xg⟩
theorem Tri.kept (t : Tri W w g h x E F o) (hb : Below w.heap.size w w') : Tri W w' g h x E F o := ⟨t.d.kept hb, t.r.kept hb t.r.lt, t.xg, t.xh⟩
theorem Tri.only (t : Tri W w g h x E F o) {E' : Es} (h1 : One W w' g E') (h2 : Only [g] w w') : Tri W w' g h x E' F o :=
  ⟨⟨h1, t.d.l.other t.d.r h2 t.d.ne.symm, t.d.ne⟩, h2.row t.r (by simpa using t.xg), t.xg, t.xh⟩
theorem Tri.sample (t : Tri W w g h x E F o) {ms : Int} (h0 : 0 ≤ ms) : Calls Try.prog 9 #[.pointer (some ⟨g, 0, none⟩), .int .u64 ms] w fun e w' => e = .returned (.tuple #[]) ∧ Tri W w' g h x (E.sample ms) F o :=
  (t.d.l.sample h0).mono fun _ _ ⟨he, h1, h2⟩ => ⟨he, t.only h1 h2⟩
theorem Tri.calm (t : Tri W w g h x E F o) : Calls Try.prog 14 #[.pointer (some ⟨g, 0, none⟩)] w fun e w' => e = .returned (.tuple #[]) ∧ Tri W w' g h x E.calm F o :=
  (t.d.l.calm).mono fun _ _ ⟨he, h1, h2⟩ => ⟨he, t.only h1 h2⟩
theorem Tri.back (t : Tri W w g h x E F o) : Calls Try.prog 13 #[.pointer (some ⟨g, 0, none⟩)] w fun e w' => e = .returned (.tuple #[]) ∧ Tri W w' g h x E.back F o :=
  (t.d.l.back).mono fun _ _ ⟨he, h1, h2⟩ => ⟨he, t.only h1 h2⟩
theorem Tri.rto (t : Tri W w g h x E F o) : Calls Try.prog 12 #[.pointer (some ⟨g, 0, none⟩)] w fun e w' => e = .returned (.int .u64 E.rto) ∧ Tri W w' g h x E F o :=
  (rto_any t.d.l.at_ t.d.l.ok).mono fun _ _ ⟨he, h1⟩ => ⟨he, t.kept h1⟩
theorem Tri.backs (t : Tri W w g h x E F o) : Calls Try.prog 15 #[.pointer (some ⟨g, 0, none⟩)] w fun e w' => e = .returned (.int .i64 E.b) ∧ Tri W w' g h x E F o :=
  (backs_any t.d.l.at_).mono fun _ _ ⟨he, h1⟩ => ⟨he, by rw [h1]; exact t⟩
theorem tri_new (d : Duo W w g h E F) {w' : World} (hw : w' = w.alloc (.cells o.cells.toArray 35)) : Tri W w' g h w.heap.size E F o := by
  subst hw
  exact ⟨d.kept (below_grow (Below.refl _ _) _), Row.new _ _ _, Nat.ne_of_gt (Row.lt d.l.at_), Nat.ne_of_gt (Row.lt d.r.at_)⟩
end
set_option maxHeartbeats 4000000 in
theorem bounds_any {w : World} {a : Option Addr} {n cap : Nat} {S : List OpV} (hC : OpsAt w a S) (hn : S.length = n) (hm : n ≤ 140737488355328) :
    Calls Try.prog 6 #[.slice a n cap] w fun e w' => e = .returned (.bool true) ∧ Below w.heap.size w w' := by
  have HC := hid hC
  have HN := hid hn
  clear hC hn
  have HF := hid (one_new (Below.refl w.heap.size w))
  go_enter Try.func6, Try.ntmps6
  go_upto_region 2 with (first
    | (go_at_call 8; refine Calls.mono HF.out ?_; clear HF; rintro e w1 ⟨rfl, h1, _⟩; have HO := hid h1; have HF2 := hid (duo_new h1); clear h1)
    | (go_at_call 8; refine Calls.mono HF2.out ?_; clear HF2; rintro e w2 ⟨rfl, h1⟩; have HD := hid h1; clear h1))
  obtain ⟨g, hg⟩ : ∃ g, g = w.heap.size := ⟨_, rfl⟩
  obtain ⟨h, hh⟩ : ∃ h, h = w1.heap.size := ⟨_, rfl⟩
  rw [← hg, ← hh]
  rw [← hg, ← hh] at HD
  clear hg hh HO
  go_wp2
  go_loopw [18] (fun i wr => ∃ (k : Nat) (E : Es), k ≤ n ∧ i = .int .i64 k ∧ Duo w wr g h E E.calm) (fun i _ => n - (intOf i).toNat)
  case atStart => exact ⟨0, Es.new, Nat.zero_le _, rfl, HD.out⟩
  case round =>
    obtain ⟨k, E, hk, rfl, hd⟩ := hrel
    have HD' := hid hd
    clear hd HD
    by_cases hlt : k < n
    · have hkc : k < S.length := by rw [HN.out]; exact hlt
      obtain ⟨ga, oa, rfl, c0, c1, c2⟩ := HC.out.at_ k hkc
      have hz0 := HC.out.ms0 S[k] (List.getElem_mem hkc)
      have l1 : (k : Int) < (n : Int) := by omega
      generalize S[k] = o at *
      obtain ⟨kd, ot, ms⟩ := o
      simp only at c0 c1 c2 hz0
      have d0 := cell_kept HD'.out.l.bel c0
      have d1 := cell_kept HD'.out.l.bel c1
      have d2 := cell_kept HD'.out.l.bel c2
      have HK := hid hlt
      have HZ0 := hid hz0
      have hk2 : (k : Int) ≤ 140737488355328 := by omega
      clear c0 c1 c2 hk hlt hkc hz0
      go_upto_region 7 with (fail)
      refine wp_world fun wb HW => ?_
      have HT := hid (tri_new (o := ⟨kd, ot, ms⟩) HD'.out HW.out)
      clear HW d0 d1 d2
      obtain ⟨x, hx⟩ : ∃ x, x = wr.heap.size := ⟨_, rfl⟩
      rw [← hx]
      rw [← hx] at HT
      clear hx HD'
      go_upto_region 8 with (go_at_call_of 12 (Value.pointer (some ⟨g, 0, none⟩)); refine Calls.mono (HT.out.rto) ?_; rintro e w3 ⟨rfl, h2⟩; clear HT; have HT := hid h2; clear h2)
      have x0 := HT.out.r.cell 0 _ rfl
      have x2 := HT.out.r.cell 2 _ rfl
      have HOK := hid HT.out.d.l.ok
      by_cases k1 : kd = 1
      · subst k1
        go_upto_region 11 with (go_at_call_of 9 (Value.pointer (some ⟨g, 0, none⟩)); refine Calls.mono (HT.out.sample HZ0.out) ?_; rintro e w4 ⟨rfl, h2⟩; clear HT x0 x2; have HT := hid h2; clear h2)
        have x2 := HT.out.r.cell 2 _ rfl
        go_upto_region 20 with (go_at_call_of 9 (Value.pointer (some ⟨h, 0, none⟩)); refine Calls.mono (HT.out.turn.sample HZ0.out) ?_; rintro e w5 ⟨rfl, h2⟩; rw [Es.calm_sample] at h2; clear HT x2; have HT := hid h2.turn; clear h2)
        have HOKT := hid HT.out.d.l.ok
        clear HOK
        have HKK := hid (HOKT.out.rto_lo)
        have HCL := hid (HOKT.out.calm_le)
        have q1 : decide ((E.sample ms).rto < 200) = false := decide_eq_false (by have := HKK.out; omega)
        have q2 : decide (60000 < (E.sample ms).rto) = false := decide_eq_false (by have := HKK.out; omega)
        have q3 : decide ((E.sample ms).rto < (E.sample ms).calm.rto) = false := decide_eq_false (by have := HCL.out; omega)
        have q4 : decide (16 < (E.sample ms).b) = false := decide_eq_false (by have := HOKT.out.b1; omega)
        clear HKK HCL HOKT
        generalize hr1 : (E.sample ms).rto = r1 at *
        generalize hr2 : (E.sample ms).calm.rto = r2 at *
        generalize hr3 : (E.sample ms).b = r3 at *
        go_wp2_with (first
          | (go_at_call_of 12 (Value.pointer (some ⟨g, 0, none⟩)); refine Calls.mono (HT.out.rto) ?_; rintro e w5 ⟨rfl, h2⟩; rw [hr1]; clear HT; have HT := hid h2; clear h2)
          | (go_at_call_of 12 (Value.pointer (some ⟨h, 0, none⟩)); refine Calls.mono (HT.out.turn.rto) ?_; rintro e w5 ⟨rfl, h2⟩; rw [hr2]; clear HT; have HT := hid h2.turn; clear h2)
          | (go_at_call_of 15 (Value.pointer (some ⟨g, 0, none⟩)); refine Calls.mono (HT.out.backs) ?_; rintro e w5 ⟨rfl, h2⟩; rw [hr3]; clear HT; have HT := hid h2; clear h2))
        go_roundw
        case rel => exact ⟨k + 1, E.sample ms, HK.out, by first | go_num | (rw [Int.natCast_succ]), HT.out.d⟩
        case measure =>
          simp [intOf]
          have := HK.out
          omega
      by_cases k2 : kd = 2
      · subst k2
        clear k1
        have HOKT := hid HOK.out.back
        have HBL := hid HOK.out.back_le
        have HLO := hid HOK.out.rto_lo
        have p1 : decide (E.back.rto < E.rto) = false := decide_eq_false (by have := HBL.out; omega)
        have p2 : decide (2 * E.rto < E.back.rto) = false := decide_eq_false (by have := HBL.out; omega)
        have p3 : IntKind.u64.wrap (2 * E.rto) = 2 * E.rto := by rw [IntKind.wrap_u64]; have := HLO.out; omega
        clear HOK HBL HLO
        go_upto_region 20 with (first
        | (go_at_call_of 13 (Value.pointer (some ⟨g, 0, none⟩)); refine Calls.mono (HT.out.back) ?_; rintro e w4 ⟨rfl, h2⟩; clear HT x0 x2; have HT := hid h2; clear h2)
        | (go_at_call_of 12 (Value.pointer (some ⟨g, 0, none⟩)); refine Calls.mono (HT.out.rto) ?_; rintro e w5 ⟨rfl, h2⟩; clear HT; have HT := hid h2; clear h2))
        clear p1 p2 p3
        rw [← Es.back_calm] at HT
        have HKK := hid (HOKT.out.rto_lo)
        have HCL := hid (HOKT.out.calm_le)
        have q1 : decide ((E.back).rto < 200) = false := decide_eq_false (by have := HKK.out; omega)
        have q2 : decide (60000 < (E.back).rto) = false := decide_eq_false (by have := HKK.out; omega)
        have q3 : decide ((E.back).rto < (E.back).calm.rto) = false := decide_eq_false (by have := HCL.out; omega)
        have q4 : decide (16 < (E.back).b) = false := decide_eq_false (by have := HOKT.out.b1; omega)
        clear HKK HCL HOKT
        generalize hr1 : (E.back).rto = r1 at *
        generalize hr2 : (E.back).calm.rto = r2 at *
        generalize hr3 : (E.back).b = r3 at *
        go_wp2_with (first
          | (go_at_call_of 12 (Value.pointer (some ⟨g, 0, none⟩)); refine Calls.mono (HT.out.rto) ?_; rintro e w5 ⟨rfl, h2⟩; rw [hr1]; clear HT; have HT := hid h2; clear h2)
          | (go_at_call_of 12 (Value.pointer (some ⟨h, 0, none⟩)); refine Calls.mono (HT.out.turn.rto) ?_; rintro e w5 ⟨rfl, h2⟩; rw [hr2]; clear HT; have HT := hid h2.turn; clear h2)
          | (go_at_call_of 15 (Value.pointer (some ⟨g, 0, none⟩)); refine Calls.mono (HT.out.backs) ?_; rintro e w5 ⟨rfl, h2⟩; rw [hr3]; clear HT; have HT := hid h2; clear h2))
        go_roundw
        case rel => exact ⟨k + 1, E.back, HK.out, by first | go_num | (rw [Int.natCast_succ]), HT.out.d⟩
        case measure =>
          simp [intOf]
          have := HK.out
          omega
      by_cases k3 : kd = 3
      · subst k3
        clear k1 k2
        have HOKT := hid HOK.out.calm
        have HBL := hid HOK.out.calm_le
        have p1 : decide (E.rto < E.calm.rto) = false := decide_eq_false (by have := HBL.out; omega)
        have p3 : E.calm.b = 0 := rfl
        clear HOK HBL
        go_upto_region 20 with (first
        | (go_at_call_of 14 (Value.pointer (some ⟨g, 0, none⟩)); refine Calls.mono (HT.out.calm) ?_; rintro e w4 ⟨rfl, h2⟩; clear HT x0 x2; have HT := hid h2; clear h2)
        | (go_at_call_of 12 (Value.pointer (some ⟨g, 0, none⟩)); refine Calls.mono (HT.out.rto) ?_; rintro e w5 ⟨rfl, h2⟩; clear HT; have HT := hid h2; clear h2)
        | (go_at_call_of 12 (Value.pointer (some ⟨h, 0, none⟩)); refine Calls.mono (HT.out.turn.rto) ?_; rintro e w5 ⟨rfl, h2⟩; clear HT; have HT := hid h2.turn; clear h2)
        | (go_at_call_of 15 (Value.pointer (some ⟨g, 0, none⟩)); refine Calls.mono (HT.out.backs) ?_; rintro e w5 ⟨rfl, h2⟩; clear HT; have HT := hid h2; clear h2))
        clear p1 p3
        have HKK := hid (HOKT.out.rto_lo)
        have HCL := hid (HOKT.out.calm_le)
        have q1 : decide ((E.calm).rto < 200) = false := decide_eq_false (by have := HKK.out; omega)
        have q2 : decide (60000 < (E.calm).rto) = false := decide_eq_false (by have := HKK.out; omega)
        have q4 : decide (16 < (E.calm).b) = false := decide_eq_false (by have := HOKT.out.b1; omega)
        clear HKK HCL HOKT
        generalize hr1 : (E.calm).rto = r1 at *
        obtain ⟨r2, hr2⟩ : ∃ r2, E.calm.rto = r2 := ⟨_, rfl⟩
        generalize hr3 : (E.calm).b = r3 at *
        go_wp2_with (first
          | (go_at_call_of 12 (Value.pointer (some ⟨g, 0, none⟩)); refine Calls.mono (HT.out.rto) ?_; rintro e w5 ⟨rfl, h2⟩; rw [hr1]; clear HT; have HT := hid h2; clear h2)
          | (go_at_call_of 12 (Value.pointer (some ⟨h, 0, none⟩)); refine Calls.mono (HT.out.turn.rto) ?_; rintro e w5 ⟨rfl, h2⟩; rw [hr2]; clear HT; have HT := hid h2.turn; clear h2)
          | (go_at_call_of 15 (Value.pointer (some ⟨g, 0, none⟩)); refine Calls.mono (HT.out.backs) ?_; rintro e w5 ⟨rfl, h2⟩; rw [hr3]; clear HT; have HT := hid h2; clear h2))
        go_roundw
        case rel => exact ⟨k + 1, E.calm, HK.out, by first | go_num | (rw [Int.natCast_succ]), HT.out.d⟩
        case measure =>
          simp [intOf]
          have := HK.out
          omega
      have n1 : (kd == 1) = false := beq_eq_false_iff_ne.2 k1
      have n2 : (kd == 2) = false := beq_eq_false_iff_ne.2 k2
      have n3 : (kd == 3) = false := beq_eq_false_iff_ne.2 k3
      go_upto_region 20 with (fail)
      clear n1 n2 n3 k1 k2 k3 x0 x2
      have HOKT := hid HOK.out
      clear HOK
      have HKK := hid (HOKT.out.rto_lo)
      have HCL := hid (HOKT.out.calm_le)
      have q1 : decide ((E).rto < 200) = false := decide_eq_false (by have := HKK.out; omega)
      have q2 : decide (60000 < (E).rto) = false := decide_eq_false (by have := HKK.out; omega)
      have q3 : decide ((E).rto < (E).calm.rto) = false := decide_eq_false (by have := HCL.out; omega)
      have q4 : decide (16 < (E).b) = false := decide_eq_false (by have := HOKT.out.b1; omega)
      clear HKK HCL HOKT
      generalize hr1 : (E).rto = r1 at *
      generalize hr2 : (E).calm.rto = r2 at *
      generalize hr3 : (E).b = r3 at *
      go_wp2_with (first
        | (go_at_call_of 12 (Value.pointer (some ⟨g, 0, none⟩)); refine Calls.mono (HT.out.rto) ?_; rintro e w5 ⟨rfl, h2⟩; rw [hr1]; clear HT; have HT := hid h2; clear h2)
        | (go_at_call_of 12 (Value.pointer (some ⟨h, 0, none⟩)); refine Calls.mono (HT.out.turn.rto) ?_; rintro e w5 ⟨rfl, h2⟩; rw [hr2]; clear HT; have HT := hid h2.turn; clear h2)
        | (go_at_call_of 15 (Value.pointer (some ⟨g, 0, none⟩)); refine Calls.mono (HT.out.backs) ?_; rintro e w5 ⟨rfl, h2⟩; rw [hr3]; clear HT; have HT := hid h2; clear h2))
      go_roundw
      case rel => exact ⟨k + 1, E, HK.out, by first | go_num | (rw [Int.natCast_succ]), HT.out.d⟩
      case measure =>
        simp [intOf]
        have := HK.out
        omega
    · have e1 : decide ((k : Int) < (n : Int)) = false := decide_eq_false (by omega)
      have e2 : decide (k < n) = false := decide_eq_false hlt
      clear hlt hk
      go_wp2
      go_ret
      exact ⟨rfl, HD'.out.l.bel⟩
end Go.Proofs.Ytapggdkofdlmlaa
