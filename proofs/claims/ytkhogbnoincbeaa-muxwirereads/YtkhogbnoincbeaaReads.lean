import Derived.Test.YtkhogbnoincbeaaRDec
namespace Go.Proofs.Ytkhogbnoincbeaa
open Go.RowKit Go.Maps Go.Sort
set_option maxRecDepth 100000

/-- What both Decodes answer. -/
def Both (f : Nat) (l : List (BitVec 8)) (L : Nat) (G : PF) (X E : Int) : Prop := ∀ (W : World) (a : Option Addr) (cap : Nat), BytesAt W a l → L ≤ cap → cap ≤ maxLen → (a = none → cap = 0) → Calls Try.prog f #[.slice a L cap] W fun e w' => ∃ (a9 : Option Addr) (c9 : Nat), e = .returned (.tuple #[.agg #[.int .i64 G.k, .int .u64 G.s, .int .u64 G.n, .int .i64 G.c, .int .i64 G.h, .slice a9 G.bs.length c9], .int .i64 X, .int .i64 E]) ∧ BytesAt w' a9 G.bs ∧ (∀ g o, a9 = some ⟨g, o, none⟩ → W.heap.size ≤ g) ∧ Below W.heap.size W w'
theorem dec_same (l : List (BitVec 8)) (L : Nat) (hL : l.length = L) (hm : L ≤ 140737488351232) : ∃ (G : PF) (X E : Int), Both 15 l L G X E ∧ Both 16 l L G X E := by
  cases hr : allA PF.zero l with
  | mk e0 r =>
    obtain ⟨F, m⟩ := r
    by_cases h0 : e0 = 0
    · subst h0
      refine ⟨F, (L : Int) - (m.length : Int), 0, fun W a cap hB hc hcm hz => ?_, fun W a cap hB hc _ _ => rdecode_yes hB hL hm hc hr⟩
      refine (decode_any W a l L cap hB hL hc hcm hz).mono ?_
      rintro e w' ⟨hb, hor⟩
      rw [hr] at hor
      rcases hor with ⟨hh, _⟩ | ⟨_, d, he, hd⟩
      · exact absurd rfl hh
      · rw [hL] at he
        rcases hd with ⟨rfl, e0⟩ | ⟨g, rfl, hR, hg⟩
        · exact ⟨none, 0, by rw [he]; simp only at e0 ⊢; rw [e0]; rfl, by simp only at e0; rw [e0]; exact BytesAt_nil _ _, fun g o e => (by cases e), hb⟩
        · exact ⟨_, _, he, hR.bytes, fun g o e => (by cases e; exact hg), hb⟩
    · refine ⟨PF.zero, 0, e0, fun W a cap hB hc hcm hz => ?_, fun W a cap hB hc _ _ => ?_⟩
      · refine (decode_any W a l L cap hB hL hc hcm hz).mono ?_
        rintro e w' ⟨hb, hor⟩
        rw [hr] at hor
        rcases hor with ⟨_, he⟩ | ⟨hh, _⟩
        · exact ⟨none, 0, he, BytesAt_nil _ _, fun g o e => (by cases e), hb⟩
        · exact absurd hh h0
      · have := rdecode_no hB hL hm hc (by rw [hr]; exact h0)
        rw [hr] at this
        refine this.mono ?_
        rintro e w' ⟨he, hb⟩
        exact ⟨none, 0, he, BytesAt_nil _ _, fun g o e => (by cases e), hb⟩
set_option maxHeartbeats 4000000 in
theorem reads_law (w : World) (a : Option Addr) (l : List (BitVec 8)) (L cap : Nat) (hB : BytesAt w a l) (hL : l.length = L) (hc : L ≤ cap) (hcm : cap ≤ maxLen) (hz : a = none → cap = 0) (hl : L ≤ 140737488351232) :
    Calls Try.prog 4 #[.slice a L cap] w fun e w' => e = .returned (.bool true) ∧ Below w.heap.size w w' := by
  obtain ⟨G, X, E, hD, hRD⟩ := dec_same l L hL hl
  have HD := hid hD
  have HRB : Hid (∀ W, Below w.heap.size w W → _) := fun W (hb : Below w.heap.size w W) => hRD W a cap (hB.kept hb) hc hcm hz
  have HCP := hid (copy_any (cap := cap) hB hL hz (by omega))
  have HBY := hid hB
  have HLEN := hid hL
  have HL2 := hid hl
  clear hB hL hz hl hc hcm hD hRD
  go_enter Try.func4, Try.ntmps4
  go_upto_region 2 with (first | (go_at_call 9; refine HCP.out.mono ?_; rintro e w1 ⟨v1, rfl, ho1, hb1⟩; have HO1 := hid ho1; have HB1 := hid hb1; clear ho1 hb1) | (at_builtin; refine wpAppendA (.tmp 13) (.tmp 14) rfl rfl (base := w.heap.size) rfl (own_below HO1.out (below_new _ _)) (by have := HB1.out.size; simp; omega) rfl (fun e => by cases e) (bs := [165#8, 90#8]) rfl (bytes_two _ _ _ 165#8 90#8 rfl rfl) (by have := HLEN.out; have := HL2.out; omega) ?_; intro w2 v2 h5 g5; have HF2 := hid (Fr.of_grown (S := fun x => w.heap.size ≤ x) g5.out.1 (fun x hx => .inl (own_ge HO1.out hx))); have HO2 := hid (own_one h5.out rfl rfl); clear h5 g5))
  have HB2 : Hid (Below w.heap.size w w2) := (below_grow HB1.out _).trans (HF2.out.below (fun x hx => hx) (below_grow HB1.out _).size)
  obtain ⟨g, cp, hv, hg1, hc1, hc2, hb2⟩ := own_some HO2.out (by simp)
  rw [List.length_append, HLEN.out] at hv hc1
  simp only [List.length_cons, List.length_nil] at hv hc1
  subst hv
  obtain ⟨M, hM⟩ : ∃ M, M = L + (0 + 1 + 1) := ⟨_, rfl⟩
  rw [← hM] at hc1
  rw [← hM] at HO2 ⊢
  have HM : Hid (M = L + 2) := by rw [hM]; rfl
  clear hM
  have HG1 := hid hg1
  have HC1 := hid hc1
  have HC2 := hid hc2
  have HL3 := hid hb2
  have HGL : Hid (g < w2.heap.size) := own_lt HO2.out rfl
  have q1 : (L : Int) ≤ (cp : Int) := by have := HC1.out; have := HM.out; omega
  have HDF := hid (HD.out w2 (some ⟨g, 0, none⟩) cp HL3.out.take (by have := HC1.out; have := HM.out; omega) HC2.out (fun e => by cases e))
  clear hg1 hc1 hc2 hb2 HCP HF2 HO1 HD
  go_upto_region 3 with (go_at_call 15; refine HDF.out.mono ?_; rintro e w3 ⟨a8, c8, rfl, k1, k2, hb3⟩; have HK1 := hid k1; have HK2 := hid k2; have HB23 := hid hb3; clear k1 k2 hb3)
  have hb4 := below_new w3 (.cells #[.int .i64 G.k, .int .u64 G.s, .int .u64 G.n, .int .i64 G.c, .int .i64 G.h, .slice a8 G.bs.length c8] 25)
  have hF4 := fat_new w3 G.k G.s G.n G.c G.h (.slice a8 G.bs.length c8)
  obtain ⟨w4, hw4⟩ : ∃ w4, w4 = w3.alloc (.cells #[.int .i64 G.k, .int .u64 G.s, .int .u64 G.n, .int .i64 G.c, .int .i64 G.h, .slice a8 G.bs.length c8] 25) := ⟨_, rfl⟩
  rw [← hw4] at hb4 hF4 ⊢
  clear hw4
  have HF4 := hid hF4
  have HB24 := hid (HB23.out.trans (hb4.mono HB23.out.size))
  have HB4 := hid (HB2.out.trans (HB24.out.mono HB2.out.size))
  have HK14 := hid (HK1.out.kept hb4)
  have H34 := hid hb4.size
  clear hb4 hF4
  have HRF := hid (HRB.out w4 HB4.out)
  go_upto_region 4 with (go_at_call 16; refine HRF.out.mono ?_; rintro e w5 ⟨a9, c9, rfl, k1, k2, hb5⟩; have HJ1 := hid k1; have HJ2 := hid k2; have HB45 := hid hb5; clear k1 k2 hb5)
  have hb6 := below_new w5 (.cells #[.int .i64 G.k, .int .u64 G.s, .int .u64 G.n, .int .i64 G.c, .int .i64 G.h, .slice a9 G.bs.length c9] 25)
  have hF6 := fat_new w5 G.k G.s G.n G.c G.h (.slice a9 G.bs.length c9)
  obtain ⟨w6, hw6⟩ : ∃ w6, w6 = w5.alloc (.cells #[.int .i64 G.k, .int .u64 G.s, .int .u64 G.n, .int .i64 G.c, .int .i64 G.h, .slice a9 G.bs.length c9] 25) := ⟨_, rfl⟩
  rw [← hw6] at hb6 hF6 ⊢
  clear hw6
  have HF6 := hid hF6
  have HB46 := hid (HB45.out.trans (hb6.mono HB45.out.size))
  have HB26 := hid (HB24.out.trans (HB46.out.mono HB24.out.size))
  have HB6 := hid (HB4.out.trans (HB46.out.mono HB4.out.size))
  have HA8 := hid (HK14.out.kept HB46.out)
  have HA9 := hid (HJ1.out.kept hb6)
  have HG46 := hid (HF4.out.kept HB46.out)
  have H56 := hid hb6.size
  clear hb6 hF6
  obtain ⟨p0, p1, p2, p3, p4, p5⟩ := HG46.out
  obtain ⟨q0, q1', q2, q3, q4, q5⟩ := HF6.out
  have HSA : Hid (∀ W, BytesAt W a8 G.bs → BytesAt W a9 G.bs → Calls Try.prog 14 #[.agg #[.int .i64 G.k, .int .u64 G.s, .int .u64 G.n, .int .i64 G.c, .int .i64 G.h, .slice a8 G.bs.length c8], .agg #[.int .i64 G.k, .int .u64 G.s, .int .u64 G.n, .int .i64 G.c, .int .i64 G.h, .slice a9 G.bs.length c9]] W fun e w' => e = .returned (.bool true) ∧ Below W.heap.size W w') := fun W k1 k2 => by
    refine (rsame_any W G.k G.s G.n G.c G.h G.k G.s G.n G.c G.h a8 a9 G.bs G.bs _ _ c8 c9 k1 rfl k2 rfl).mono ?_
    rintro e w' ⟨rfl, hb⟩
    exact ⟨by rw [decide_eq_true ⟨rfl, rfl, rfl, rfl, rfl, rfl⟩], hb⟩
  have HSA6 := hid (HSA.out w6 HA8.out HA9.out)
  have HRDC : Hid (∀ W, Below w2.heap.size w2 W → W.cell? ⟨g, L, none⟩ = some (.int .u8 165) ∧ W.cell? ⟨g, L + 1, none⟩ = some (.int .u8 90)) := fun W hb => by
    have hk := HL3.out.kept hb
    obtain ⟨g1, o1, e1, c1⟩ := hk L (by simp; have := HLEN.out; omega)
    obtain ⟨g2, o2, e2, c2⟩ := hk (L + 1) (by simp; have := HLEN.out; omega)
    cases e1
    cases e2
    rw [Nat.zero_add] at c1 c2
    refine ⟨?_, ?_⟩
    · rw [c1, List.getElem_append_right (by rw [HLEN.out]; omega)]
      simp [HLEN.out, ub]
    · rw [c2, List.getElem_append_right (by rw [HLEN.out]; omega)]
      simp [HLEN.out, ub]
  have HPS : Hid (∀ W, Below w2.heap.size w2 W → Calls Try.prog 12 #[.slice (some ⟨g, 0, none⟩) L cp, .slice a L cap] W fun e w' => e = .returned (.bool true) ∧ w' = W) := fun W hb => psame_yes (HL3.out.take.kept hb) HLEN.out ((HBY.out.kept HB2.out).kept hb) HLEN.out
  have r1 : (L : Int) < (M : Int) := by have := HM.out; omega
  have r2 : (L : Int) + 1 < (M : Int) := by have := HM.out; omega
  have r3 : (L : Int) ≤ 140737488351232 := by have := HL2.out; omega
  go_upto_region 5 with (first | (go_at_call 14; refine HSA6.out.mono ?_; rintro e w7 ⟨rfl, hb7⟩; have HB67 := hid hb7; have HB27 := hid (HB26.out.trans (hb7.mono HB26.out.size)); obtain ⟨t1, t2⟩ := HRDC.out _ HB27.out; clear hb7) | (go_at_call 12; refine (HPS.out _ HB27.out).mono ?_; rintro e w' ⟨rfl, rfl⟩))
  have HO7 : Hid (AnyRow w' w.heap.size g M cp) := by
    refine ⟨l ++ [165#8, 90#8], by simp [HLEN.out, HM.out], ?_⟩
    have := own_below HO2.out HB27.out
    rw [List.length_append, HLEN.out, show L + [165#8, 90#8].length = M by rw [HM.out]; rfl] at this
    exact this
  have HW7 := hid (HB2.out.trans (HB27.out.mono HB2.out.size))
  have HG7 := hid (HG46.out.kept HB67.out)
  have HF7 := hid (HF6.out.kept HB67.out)
  have HA87 := hid (HA8.out.kept HB67.out)
  have HA97 := hid (HA9.out.kept HB67.out)
  have HN1 : Hid (¬ w3.heap.size = g) := by show ¬ _; have := HGL.out; have := HB23.out.size; omega
  have HN2 : Hid (¬ w5.heap.size = g) := by show ¬ _; have := HGL.out; have := HB24.out.size; have := HB45.out.size; omega
  have HN3 : Hid (∀ gx o, a8 = some ⟨gx, o, none⟩ → ¬ gx = g) := fun gx o e => by have := HK2.out gx o e; have := HGL.out; omega
  have HN4 : Hid (∀ gx o, a9 = some ⟨gx, o, none⟩ → ¬ gx = g) := fun gx o e => by have := HJ2.out gx o e; have := HGL.out; have := HB24.out.size; omega
  clear HDF HRF HSA6 HRDC HPS HRB HK1 HB23 HK14 HB24 HB4 HJ1 HB45 HB46 HB26 HB6 HA8 HA9 HG46 HF4 HF6 HB67 HB27
  clear t1 t2 r1 r2 r3 p0 p1 p2 p3 p4 p5 q0 q1' q2 q3 q4 q5
  go_wp2_with fail
  go_loopw [71] (fun s71 wr => ∃ i : Nat, i ≤ M ∧ s71 = .int .i64 i ∧ Hid (AnyRow wr w.heap.size g M cp) ∧ Hid (Fr (fun x => x = g) w' wr)) (fun s _ => M - (intOf s).toNat)
  case atStart => exact ⟨0, Nat.zero_le _, rfl, HO7, Fr.refl _ _⟩
  case round =>
    obtain ⟨i, hi, rfl, HOI, HFI⟩ := hrel
    by_cases hlt : i < M
    · as_aux_lemma =>
        have hlt2 : (i : Int) < (M : Int) := by omega
        have hi0 : (0 : Int) ≤ (i : Int) := by omega
        have hib : (i : Int) ≤ 140737488351233 := by have := HL2.out; have := HM.out; omega
        obtain ⟨⟨x0, hc⟩, hfz⟩ := HOI.out.cell i hlt
        have HST := hid (HOI.out.put i 50#8 (.int .u8 50) rfl)
        clear HOI
        go_wp2_with fail
        go_roundw
        case rel => exact ⟨i + 1, hlt, by go_num, HST.out.1, HFI.out.trans (grown_fr HST.out.2) (fun x hx => .inl hx)⟩
        case measure => simp [intOf]; omega
    · as_aux_lemma =>
        have hlt2 : ¬ (i : Int) < (M : Int) := by omega
        obtain ⟨p0, p1, p2, p3, p4, p5⟩ := HG7.out.fr HFI.out HN1.out
        obtain ⟨q0, q1, q2, q3, q4, q5⟩ := HF7.out.fr HFI.out HN2.out
        have HSE := hid (HSA.out wr (BytesAt.fr HA87.out HFI.out HN3.out) (BytesAt.fr HA97.out HFI.out HN4.out))
        have HWR := hid (HW7.out.trans (HFI.out.below (B := w.heap.size) (fun x hx => by have := HG1.out; omega) HW7.out.size))
        go_wp2_with (go_at_call 14; refine HSE.out.mono ?_; rintro e w8 ⟨rfl, hb8⟩; have HB8 := hid (HWR.out.trans (hb8.mono HWR.out.size)); clear hb8)
        go_ret
        exact ⟨rfl, HB8.out⟩
end Go.Proofs.Ytkhogbnoincbeaa
