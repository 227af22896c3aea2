import Derived.Test.YtjbjaklbckhodaaSets
import Derived.Test.YtjbjaklbckhodaaSorted
namespace Go.Proofs.Ytjbjaklbckhodaa
open Go.RowKit

set_option maxHeartbeats 1000000 in
theorem below_any {w : World} {p : Nat} {v : Value} {L : List Rg} (S : SetAt w p v L) (F : Fit L) (hf : (L.length + 2) * 16 ≤ 140737488355328) (x : Int) (h1 : x ≤ 18446744073709551615) :
    Calls Try.prog 24 #[.pointer (some ⟨p, 0, none⟩), .int .u64 x] w fun e w' => e = .returned (.int .u64 (total (clipL L (0, x)))) ∧ ∃ v', SetAt w' p v' (remL L (0, x)) ∧ Turned w w' p v v' := by
  have hR := rem_any S F hf (0, x) (Int.le_refl _) h1
  clear S F
  simp only at hR
  generalize remL L (0, x) = L2 at *
  go_enter Try.func24, Try.ntmps24
  go_wp2_with fail
  refine hR.mono ?_
  rintro e w' ⟨rfl, hv⟩
  have HV : Hid _ := hv
  clear hv
  go_wp2
  go_ret
  exact ⟨rfl, HV.out⟩

set_option maxRecDepth 100000 in
set_option maxHeartbeats 1000000 in
theorem gaps_any {w : World} {a : Option Addr} {cap : Nat} {L : List Rg} (C : Cells w a L) (hf : (L.length + 2) * 16 ≤ 140737488355328) (hw : ∀ r ∈ L, 0 ≤ r.1 ∧ r.2 ≤ 18446744073709551615) (x y : Int) (hx0 : 0 ≤ x) (hx1 : x ≤ 18446744073709551615) :
    Calls Try.prog 6 #[.slice a L.length cap, .int .u64 x, .int .u64 y] w fun e w' => e = .returned (.bool true) ∧ Below w.heap.size w w' := by
  have hN := new_any sort_any (cap := cap) C (by omega) hw
  clear C
  have HAW : Hid _ := fun w => awake_any sort_any w
  have HW : Hid _ := hw
  clear hw
  go_enter Try.func6, Try.ntmps6
  go_wp2_with fail
  refine hN.mono ?_
  rintro e w1 ⟨p, rfl, v, L', hP, hO, hb1⟩
  obtain ⟨hF, hL⟩ := addAll_fit L' (fun r hr => HW.out r (hP.mem_iff.1 hr)) L'.length (Nat.le_refl _)
  rw [List.take_length, hP.length_eq] at hL
  rw [List.take_length] at hF
  generalize addAll L' = M at *
  have HF : Hid (Fit M) := hF
  have HO1 : Hid _ := hO
  have HB1 : Hid _ := hb1
  clear hP hO hb1 hN hF HW
  go_wp2_with fail
  refine Calls.mono (HAW.out w1) ?_
  rintro e w2 ⟨rfl, hb2⟩
  have HO2 : Hid _ := HO1.out.kept hb2
  have HB2 : Hid _ := HB1.out.trans (hb2.mono HB1.out.size)
  clear hb2 HO1 HB1 HAW
  obtain ⟨a2, c2, rfl, V2⟩ := HO2.out.set.view (by omega)
  have hG := gap_any x V2 HF.out
  have HV2 : Hid _ := V2
  clear V2
  have hg0 := gap_ge HF.out x
  have h1 : (gapOf M (gapOf M x) != gapOf M x) = false := by
    have := mt (has_dec HF.out (gapOf M x)).1 (gap_not HF.out x)
    simpa using this
  have hcov : decide (gapOf M x ≤ gapOf M x) = true := by simp
  have hxb : decide (x < gapOf M x) = (gapOf M x != x) := by
    by_cases e : gapOf M x = x
    · rw [e]; simp
    · have : x < gapOf M x := by omega
      simp [this, e]
  -- behind Below
  have hF2 := remL_fit HF.out (0, x) (Int.le_refl _) hx1
  have hL2 := remL_length HF.out (0, x)
  have hT2 := remL_total HF.out (0, x)
  have htb := total_bd M HF.out M.length (Nat.le_refl _)
  rw [List.take_length] at htb
  have htb2 := total_bd _ hF2 _ (Nat.le_refl _)
  rw [List.take_length, hT2] at htb2
  have hgx : gapOf (remL M (0, x)) x = gapOf M x := gap_unique hF2 x _ hg0 (fun z hz1 hz2 => (remL_mem HF.out _ z).2 ⟨gap_all HF.out x z hz1 hz2, by simp only; omega⟩) (fun h => gap_not HF.out x ((remL_mem HF.out _ _).1 h).1)
  have hgy : (gapOf (remL M (0, x)) y != y) = ((gapOf M y != y) && decide (x ≤ y)) := by
    rw [Bool.eq_iff_iff, has_dec hF2, remL_mem HF.out, Bool.and_eq_true, has_dec HF.out, decide_eq_true_eq]
    constructor
    · rintro ⟨h, hn⟩
      refine ⟨h, ?_⟩
      have := mem_le HF.out h
      simp only at hn
      omega
    · rintro ⟨h, hn⟩
      exact ⟨h, by simp only; omega⟩
  have hg00 : 0 < x → gapOf (remL M (0, x)) 0 = 0 := fun h => gap_unique hF2 0 0 (Int.le_refl _) (fun z h1 h2 => by omega) (fun hm => ((remL_mem HF.out _ _).1 hm).2 ⟨Int.le_refl _, h⟩)
  have hgx1 : 0 < x → (gapOf (remL M (0, x)) (x - 1) != x - 1) = false := fun h => by
    have := mt (has_dec hF2 (x - 1)).1 (fun hm => ((remL_mem HF.out _ _).1 hm).2 ⟨by simp only; omega, by simp only; omega⟩)
    simpa using this
  have HF2 : Hid (Fit (remL M (0, x))) := hF2
  have HT2 : Hid _ := hT2
  have HGX : Hid _ := hgx
  have HGY : Hid _ := hgy
  have HG00 : Hid _ := hg00
  have HGX1 : Hid _ := hgx1
  clear hF2 hT2 hgx hgy hg00 hgx1
  have HBel : Hid (∀ (W : World) (v : Value), SetAt W p v M → Calls Try.prog 24 #[.pointer (some ⟨p, 0, none⟩), .int .u64 x] W fun e w' => e = .returned (.int .u64 (total (clipL M (0, x)))) ∧ ∃ v', SetAt w' p v' (remL M (0, x)) ∧ Turned W w' p v v') := fun W v S => below_any S HF.out (by omega) x hx1
  have HH1 : Hid _ := h1
  have HCV : Hid _ := hcov
  clear h1 hcov
  go_wp2_with fail
  refine hG.mono ?_
  rintro e w3 ⟨rfl, hb3⟩
  have HV3 : Hid _ := HV2.out.kept hb3
  have HO3 : Hid _ := HO2.out.kept hb3
  have HB3 : Hid _ := HB2.out.trans (hb3.mono HB2.out.size)
  clear hb3 HV2 HO2 HB2 hG
  go_wp2_with fail
  refine (has_any (gapOf M x) HV3.out HF.out).mono ?_
  rintro e w4 ⟨rfl, hb4⟩
  rw [HH1.out]
  have HV4 : Hid _ := HV3.out.kept hb4
  have HO4 : Hid _ := HO3.out.kept hb4
  have HB4 : Hid _ := HB3.out.trans (hb4.mono HB3.out.size)
  clear hb4 HV3 HO3 HB3
  go_wp2_with fail
  refine (covers_any (x, gapOf M x) HV4.out HF.out).mono ?_
  rintro e w5 ⟨rfl, hb5⟩
  simp only [HCV.out]
  have HV5 : Hid _ := HV4.out.kept hb5
  have HO5 : Hid _ := HO4.out.kept hb5
  have HB5 : Hid _ := HB4.out.trans (hb5.mono HB4.out.size)
  clear hb5 HV4 HO4 HB4
  have hgl : decide (gapOf M x < x) = false := by simp; omega
  go_wp2_with fail
  refine (has_any x HV5.out HF.out).mono ?_
  rintro e w6 ⟨rfl, hb6⟩
  have HV6 : Hid _ := HV5.out.kept hb6
  have HO6 : Hid _ := HO5.out.kept hb6
  have HB6 : Hid _ := HB5.out.trans (hb6.mono HB5.out.size)
  clear hb6 HV5 HO5 HB5
  generalize (gapOf M x != x) = b at *
  have hbb : (b != b) = false := by cases b <;> rfl
  clear hgl
  go_wp2_with fail
  refine (has_any y HV6.out HF.out).mono ?_
  rintro e w7 ⟨rfl, hb7⟩
  have HV7 : Hid _ := HV6.out.kept hb7
  have HO7 : Hid _ := HO6.out.kept hb7
  have HB7 : Hid _ := HB6.out.trans (hb7.mono HB6.out.size)
  clear hb7 HV6 HO6 HB6 hxb hbb
  go_wp2_with fail
  refine (count_any HV7.out HF.out).mono ?_
  rintro e w8 ⟨rfl, hb8⟩
  have HO8 : Hid _ := HO7.out.kept hb8
  have HB8 : Hid _ := HB7.out.trans (hb8.mono HB7.out.size)
  clear hb8 HV7 HO7 HB7
  go_wp2_with fail
  refine (HBel.out _ _ HO8.out.set).mono ?_
  rintro e w9 ⟨rfl, v', hS9, hT9⟩
  obtain ⟨hO9, hb9⟩ := HO8.out.turned hS9 hT9
  have HB9 : Hid _ := HB8.out.trans hb9
  obtain ⟨a9, c9, rfl, V9⟩ := hO9.set.view (by omega)
  have HV9 : Hid _ := V9
  clear hS9 hT9 hO9 hb9 HO8 HB8 HBel V9
  go_wp2_with fail
  refine (count_any HV9.out HF2.out).mono ?_
  rintro e w10 ⟨rfl, hb10⟩
  rw [HT2.out]
  have HV10 : Hid _ := HV9.out.kept hb10
  have HB10 : Hid _ := HB9.out.trans (hb10.mono HB9.out.size)
  clear hb10 HV9 HB9
  generalize total (clipL M (0, x)) = tc at *
  generalize total M = tm at *
  have hwr : IntKind.u64.wrap (tm - tc) = tm - tc := by rw [IntKind.wrap_u64]; omega
  have hne : ((tm - tc) != (tm - tc)) = false := by simp
  cases hc : (gapOf M y != y) with
  | false =>
    go_wp2_with fail
    refine (has_any y HV10.out HF2.out).mono ?_
    rintro e w11 ⟨rfl, hb11⟩
    rw [HGY.out, hc, Bool.false_and]
    have HV11 : Hid _ := HV10.out.kept hb11
    have HB11 : Hid _ := HB10.out.trans (hb11.mono HB10.out.size)
    clear hb11 HV10 HB10
    go_wp2_with fail
    refine (gap_any x HV11.out HF2.out).mono ?_
    rintro e w12 ⟨rfl, hb12⟩
    rw [HGX.out]
    have HV12 : Hid _ := HV11.out.kept hb12
    have HB12 : Hid _ := HB11.out.trans (hb12.mono HB11.out.size)
    clear hb12 HV11 HB11
    generalize gapOf M x = G at *
    have hGG : (G != G) = false := by simp
    by_cases hz : x = 0
    · have hzb : (x == 0) = true := by simp [hz]
      clear hz
      go_wp2
      go_ret
      exact ⟨rfl, HB12.out⟩
    · have hzb : (x == 0) = false := by simp [hz]
      have hxp : 0 < x := by omega
      have HG0 : Hid _ := HG00.out hxp
      have HX1 : Hid _ := HGX1.out hxp
      have hw1 : IntKind.u64.wrap (x - 1) = x - 1 := by rw [IntKind.wrap_u64]; omega
      clear hz
      go_wp2_with fail
      refine (gap_any 0 HV12.out HF2.out).mono ?_
      rintro e w13 ⟨rfl, hb13⟩
      rw [HG0.out]
      have HV13 : Hid _ := HV12.out.kept hb13
      have HB13 : Hid _ := HB12.out.trans (hb13.mono HB12.out.size)
      clear hb13 HV12 HB12
      go_wp2_with fail
      refine (has_any (x - 1) HV13.out HF2.out).mono ?_
      rintro e w14 ⟨rfl, hb14⟩
      rw [HX1.out]
      have HB14 : Hid _ := HB13.out.trans (hb14.mono HB13.out.size)
      clear hb14 HV13 HB13
      go_wp2
      go_ret
      exact ⟨rfl, HB14.out⟩
  | true =>
    go_wp2_with fail
    refine (has_any y HV10.out HF2.out).mono ?_
    rintro e w11 ⟨rfl, hb11⟩
    rw [HGY.out, hc, Bool.true_and]
    have HV11 : Hid _ := HV10.out.kept hb11
    have HB11 : Hid _ := HB10.out.trans (hb11.mono HB10.out.size)
    clear hb11 HV10 HB10
    generalize hdx : decide (x ≤ y) = dxy at *
    have hdd : (dxy != dxy) = false := by cases dxy <;> rfl
    go_wp2_with fail
    refine (gap_any x HV11.out HF2.out).mono ?_
    rintro e w12 ⟨rfl, hb12⟩
    rw [HGX.out]
    have HV12 : Hid _ := HV11.out.kept hb12
    have HB12 : Hid _ := HB11.out.trans (hb12.mono HB11.out.size)
    clear hb12 HV11 HB11
    generalize gapOf M x = G at *
    have hGG : (G != G) = false := by simp
    by_cases hz : x = 0
    · have hzb : (x == 0) = true := by simp [hz]
      clear hz
      go_wp2
      go_ret
      exact ⟨rfl, HB12.out⟩
    · have hzb : (x == 0) = false := by simp [hz]
      have hxp : 0 < x := by omega
      have HG0 : Hid _ := HG00.out hxp
      have HX1 : Hid _ := HGX1.out hxp
      have hw1 : IntKind.u64.wrap (x - 1) = x - 1 := by rw [IntKind.wrap_u64]; omega
      clear hz
      go_wp2_with fail
      refine (gap_any 0 HV12.out HF2.out).mono ?_
      rintro e w13 ⟨rfl, hb13⟩
      rw [HG0.out]
      have HV13 : Hid _ := HV12.out.kept hb13
      have HB13 : Hid _ := HB12.out.trans (hb13.mono HB12.out.size)
      clear hb13 HV12 HB12
      go_wp2_with fail
      refine (has_any (x - 1) HV13.out HF2.out).mono ?_
      rintro e w14 ⟨rfl, hb14⟩
      rw [HX1.out]
      have HB14 : Hid _ := HB13.out.trans (hb14.mono HB13.out.size)
      clear hb14 HV13 HB13
      go_wp2
      go_ret
      exact ⟨rfl, HB14.out⟩

end Go.Proofs.Ytjbjaklbckhodaa
