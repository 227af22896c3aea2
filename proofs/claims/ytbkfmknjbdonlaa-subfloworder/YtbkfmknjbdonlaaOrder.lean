import Derived.Test.YtbkfmknjbdonlaaHeard
import Derived.Test.YtbkfmknjbdonlaaCellsU
namespace Go.Proofs.Ytbkfmknjbdonlaa
open Go.RowKit Go.Maps
set_option maxRecDepth 100000

/-- The items of one round. -/
def ito (low : Nat) (now : Int) (k : Nat) : It := ⟨(k : Int), 1, (k : Int) - (low : Int), 1, now⟩
theorem range'_snoc (s n : Nat) : List.range' s (n + 1) = List.range' s n ++ [s + n] := by
  rw [List.range'_concat]; simp
structure OrdAt (w wr : World) (p b g : Nat) (F : Fl) : Prop where
  fl : FlowAt wr p b g F
  ok : F.Ok
  st : F.strikes = 0
  bel : Below w.heap.size w wr
theorem ord_ack {F : Fl} {S : List Rg} {low l m : Nat} {now : Int} (hU : F.U = (List.range' l (m + 1)).map (ito low now)) (hn : F.next = ((l + m + 1 : Nat) : Int)) (T : Told [(0, (l : Int) + 1)] F.next S) :
    F.ackd S = [ito low now l] ∧ F.lost S = [] ∧ F.isCut S = false ∧ ∀ n2, (F.heard n2 S).U = (List.range' (l + 1) m).map (ito low now) := by
  have h1 : tb S (ito low now l) = true := (told_tb T _).2 ⟨(mem_one _ _ _).2 ⟨by simp only [ito]; omega, by simp only [ito]; omega⟩, by rw [hn]; simp only [ito]; omega⟩
  have h2 : ∀ k, l < k → tb S (ito low now k) = false := fun k hk => by
    cases e : tb S (ito low now k) with
    | false => rfl
    | true =>
      have := (mem_one _ _ _).1 ((told_tb T _).1 e).1
      simp only [ito] at this
      omega
  have hf := rng_filter (ito low now) (tb S) l m h1 h2
  have ea : F.ackd S = [ito low now l] := by unfold Fl.ackd; rw [hU]; exact hf.1
  have eu : (F.U.filter fun x => !tb S x) = (List.range' (l + 1) m).map (ito low now) := by rw [hU]; exact hf.2
  have hL : lastHi S = (l : Int) + 1 := lastHi_of T.fit ((T.mem _).2 ⟨(mem_one _ _ _).2 (by omega), by rw [hn]; omega⟩) (fun y hy => by
    have := (mem_one _ _ _).1 ((T.mem _).1 hy).1
    omega)
  have h3 : ∀ k, l + 1 ≤ k → lb (lastHi S) (ito low now k) = false := fun k hk => by
    unfold lb
    rw [hL]
    simp only [ito]
    exact decide_eq_false (by omega)
  have hg := rng_none (ito low now) (lb (lastHi S)) (l + 1) m h3
  have el : F.lost S = [] := by unfold Fl.lost; rw [eu]; exact hg.1
  refine ⟨ea, el, by unfold Fl.isCut; rw [el]; rfl, fun n2 => ?_⟩
  unfold Fl.heard
  simp only
  rw [eu]
  exact hg.2
set_option maxHeartbeats 4000000 in
theorem order_any {w : World} {a : Option Addr} {len cap : Nat} {xs : List Int} (C : CellsAt w a (xs.map (Value.int .i64))) (hl : xs.length = len) (hlen : len ≤ 17592186044416) (gap : Int) (hg0 : 0 ≤ gap) :
    Calls Try.prog 6 #[.slice a len cap, .int .u64 gap] w fun e w' => e = .returned (.bool true) ∧ Below w.heap.size w w' := by
  have eg : gap.tmod 1000 = gap % 1000 := Int.tmod_eq_emod_of_nonneg hg0
  have hgp : 0 ≤ gap % 1000 ∧ gap % 1000 ≤ 999 := by omega
  have HC := hid C
  clear C
  go_enter Try.func6, Try.ntmps6
  go_wp2_with (first | (go_at_call 17; refine (flownew_any w 3).mono ?_; rintro e w1 ⟨p, b, g, rfl, hF, hp, hb, hg, hbl⟩; have H1 := hid hF; have HB1 := hid hbl; have HP := hid (And.intro hp (And.intro hb hg)); clear hF hbl hp hb hg) | (go_at_call 18; refine (awake_any _).mono ?_; rintro e w2 ⟨rfl, hb⟩; have H2 := hid (FlowAt.kept H1.out hb); have HB2 := hid (HB1.out.trans (hb.mono HB1.out.size)); clear hb))
  obtain ⟨w0, hw0⟩ : ∃ w0, w0 = w2 := ⟨_, rfl⟩
  rw [← hw0] at H2 HB2 ⊢
  clear hw0 H1 HB1
  go_loopw [6, 7, 25] (fun s6 s7 s25 wr => ∃ (k low : Nat) (now : Int) (F : Fl), k ≤ len ∧ low ≤ k * 8 ∧ 0 ≤ now ∧ now ≤ (k : Int) * 999 ∧ s25 = .int .i64 k ∧ s6 = .int .u64 now ∧ s7 = .int .u64 low ∧ F.U = [] ∧ F.next = (low : Int) ∧ OrdAt w wr p b g F) (fun _ _ s _ => len - (intOf s).toNat)
  case atStart => exact ⟨0, 0, 0, Fl.new 3, Nat.zero_le _, Nat.le_refl _, Int.le_refl _, by simp, rfl, rfl, rfl, rfl, rfl, ⟨H2.out, Fl.new_ok 3, rfl, HB2.out⟩⟩
  case round =>
    obtain ⟨k, low, now, F, hk, hlow, hn0, hn1, rfl, rfl, rfl, hU, hnx, hO⟩ := hrel
    have HO := hid hO
    clear hO H2 HB2
    by_cases hlt : k < len
    · obtain ⟨ga, oa, rfl, cx⟩ := HC.out k (by rw [List.length_map]; omega)
      have cy := rcell_kept (HO.out.bel) cx
      rw [List.getElem_map] at cy
      generalize xs[k] = c at cy
      have hki : (k : Int) < (len : Int) := by omega
      have ew : IntKind.u64.wrap c = c % 18446744073709551616 := IntKind.wrap_u64 c
      have hw0 : 0 ≤ IntKind.u64.wrap c := by rw [ew]; omega
      have em : (IntKind.u64.wrap c).tmod 9 = IntKind.u64.wrap c % 9 := Int.tmod_eq_emod_of_nonneg hw0
      obtain ⟨n, hn⟩ : ∃ n : Nat, (n : Int) = IntKind.u64.wrap c % 9 := ⟨(IntKind.u64.wrap c % 9).toNat, by omega⟩
      rw [← hn] at em
      have hn8 : n ≤ 8 := by omega
      have ewn : IntKind.u64.wrap (n : Int) = n := wrapu _ (by omega) (by omega)
      have ein : IntKind.i64.wrap (n : Int) = n := by rw [IntKind.wrap_i64]; omega
      clear cx hn ew hw0
      have HOUT := hid (And.intro hk (And.intro hlow (And.intro hn1 hlt)))
      go_wp2_with fail
      obtain ⟨wo, hwo⟩ : ∃ wo, wo = wr := ⟨_, rfl⟩
      rw [← hwo] at HO cy ⊢
      clear hwo cy
      have hlb : low ≤ 140737488355328 := by omega
      go_loopw [11] (fun s11 wr => ∃ (i : Nat) (F : Fl), i ≤ n ∧ s11 = .int .i64 i ∧ F.U = (List.range' low i).map (ito low now) ∧ F.next = ((low + i : Nat) : Int) ∧ OrdAt w wr p b g F) (fun s _ => n - (intOf s).toNat)
      case atStart => exact ⟨0, F, Nat.zero_le _, rfl, by rw [hU]; rfl, by rw [hnx]; simp, HO.out⟩
      case round =>
        obtain ⟨i, F2, hi, rfl, hU2, hnx2, hO2⟩ := hrel
        have HO2 := hid hO2
        clear hO2 HO
        by_cases hin : i < n
        · have hSd := send_any HO2.out.fl HO2.out.ok (by rw [hnx2]; omega) (by rw [hU2]; simp; omega) now 1 (i : Int) 1
          have eqF : F2.next = ((low + i : Nat) : Int) := hnx2
          have ewi : IntKind.u64.wrap (i : Int) = i := wrapu _ (by omega) (by omega)
          have hin' : (i : Int) < (n : Int) := by omega
          go_wp2_with (go_at_call 19; refine hSd.mono ?_; rintro e w3 ⟨rfl, hF3, ho3⟩; have HO3 : Hid (OrdAt w w3 p b g (F2.send now 1 (i : Int) 1)) := ⟨hF3, HO2.out.ok.send hn0 (by omega) 1 (i : Int) 1, HO2.out.st, Only.flow_below HO2.out.bel ho3 HP.out.1 HP.out.2.1 HP.out.2.2⟩; clear hF3 ho3 hSd)
          go_roundw
          case rel =>
            refine ⟨i + 1, _, hin, by first | go_num | (rw [Int.natCast_succ]), ?_, ?_, HO3.out⟩
            · rw [range'_snoc, List.map_append, ← hU2]
              show F2.U ++ [_] = _
              rw [eqF]
              simp only [List.map_cons, List.map_nil, ito]
              congr 3
              omega
            · show F2.next + 1 = _
              rw [eqF]
              omega
          case measure => simp [intOf]; omega
        · have ein2 : i = n := by omega
          subst ein2
          have hin' : ¬ (i : Int) < (i : Int) := by omega
          have ewg : IntKind.u64.wrap (now + gap % 1000) = now + gap % 1000 := wrapu _ (by omega) (by omega)
          go_wp2_with fail
          obtain ⟨wp, hwp⟩ : ∃ wp, wp = wr := ⟨_, rfl⟩
          rw [← hwp] at HO2 ⊢
          clear hwp
          obtain ⟨now2, hnow2⟩ : ∃ now2, now2 = now + gap % 1000 := ⟨_, rfl⟩
          rw [← hnow2] at ewg ⊢
          have hN2 : 0 ≤ now2 ∧ now2 ≤ now + 999 := by omega
          have HNOW := hid hnow2
          clear hnow2 hU hnx
          go_loopw [7, 12] (fun s7 s12 wr => ∃ (j : Nat) (F : Fl), j ≤ i ∧ s12 = .int .i64 j ∧ s7 = .int .u64 ((low + j : Nat) : Int) ∧ F.U = (List.range' (low + j) (i - j)).map (ito low now) ∧ F.next = ((low + i : Nat) : Int) ∧ OrdAt w wr p b g F) (fun _ s _ => i - (intOf s).toNat)
          case atStart => exact ⟨0, F2, Nat.zero_le _, rfl, by simp, by rw [hU2]; simp, hnx2, HO2.out⟩
          case round =>
            obtain ⟨j, F3, hj, rfl, rfl, hU3, hnx3, hO3⟩ := hrel
            have HO3 := hid hO3
            clear hO3 HO2 hU2 hnx2
            by_cases hji : j < i
            · have hAk := ack_one HO3.out.fl HO3.out.ok 0 (((low + j : Nat) : Int) + 1) (Int.le_refl _) (by omega) (by rw [hU3]; simp; omega) (by rw [hnx3]; omega) (fun x hx => by rw [hU3] at hx; obtain ⟨kk, _, rfl⟩ := List.mem_map.1 hx; exact hn0) now2 hN2.1 (by omega)
              have ewl : IntKind.u64.wrap (((low + j : Nat) : Int) + 1) = ((low + j : Nat) : Int) + 1 := wrapu _ (by omega) (by omega)
              have hji' : (j : Int) < (i : Int) := by omega
              have HD : Hid (∀ S, Told [(0, ((low + j : Nat) : Int) + 1)] F3.next S → F3.ackd S = [ito low now (low + j)] ∧ F3.lost S = [] ∧ F3.isCut S = false ∧ ∀ n2, (F3.heard n2 S).U = (List.range' (low + j + 1) (i - j - 1)).map (ito low now)) := fun S T =>
                ord_ack (m := i - j - 1) (by rw [hU3]; congr 2; omega) (by rw [hnx3]; congr 1; omega) T
              generalize hlj : ((low + j : Nat) : Int) = lj at *
              go_wp2_with (go_at_call 27; refine hAk.mono ?_; rintro e w4 ⟨v1, v2, S, hT, rfl, hr1, hr2, hf4, ho4⟩; obtain ⟨q1, q2, q3, q4⟩ := HD.out S hT; rw [q1] at hr1; rw [q2] at hr2; rw [q3]; obtain ⟨a1, cap1, rfl, hv1⟩ := own_view hr1; obtain ⟨a2, cap2, rfl, _⟩ := own_view hr2; obtain ⟨g1, rfl, _, hc1, _⟩ := hv1 0 (by simp); have HO4 : Hid (OrdAt w w4 p b g (F3.heard now2 S)) := ⟨hf4, HO3.out.ok.heard hN2.1 (by omega) S, HO3.out.st, Only.flow_below HO3.out.bel ho4 HP.out.1 HP.out.2.1 HP.out.2.2⟩; have HU4 := hid (q4 now2); have HNX4 := hid (show (F3.heard now2 S).next = F3.next from rfl); simp only [List.length_cons, List.length_nil, Nat.zero_add] at *; have d0 := rcell_kept (below_grow (Below.refl w4.heap.size w4) (.cells #[.slice (some ⟨g1, 0, none⟩) 1 cap1, .slice a2 0 cap2, .bool false] 55)) hc1; clear hf4 ho4 hr1 hr2 q1 q2 q3 q4 hv1 hc1 hAk)
              go_roundw
              case rel =>
                have hkp := below_grow (Below.refl w4.heap.size w4) (.cells #[.slice (some ⟨g1, 0, none⟩) 1 cap1, .slice a2 0 cap2, .bool false] 55)
                refine ⟨j + 1, _, hji, by first | go_num | (rw [Int.natCast_succ]), by rw [← hlj]; congr 1, ?_, ?_, ⟨FlowAt.kept HO4.out.fl hkp, HO4.out.ok, HO4.out.st, HO4.out.bel.trans (hkp.mono HO4.out.bel.size)⟩⟩
                · rw [HU4.out]
                  congr 2
                · rw [HNX4.out, hnx3]
              case measure => simp [intOf]; omega
            · have eji : j = i := by omega
              subst eji
              have hji' : ¬ (j : Int) < (j : Int) := by omega
              have hU0 : F3.U.length = 0 := by rw [hU3]; simp
              have hTn := tick_none HO3.out.fl HO3.out.ok hU0 (now2 + 1073741824)
              have ewt : IntKind.u64.wrap (now2 + 1073741824) = now2 + 1073741824 := wrapu _ (by omega) (by omega)
              have HST := hid HO3.out.st
              clear hU3
              go_wp2_with (first | (go_at_call 22; refine hTn.mono ?_; rintro e w4 ⟨rfl, hb⟩; have HO4 : Hid (OrdAt w w4 p b g F3) := ⟨FlowAt.kept HO3.out.fl hb, HO3.out.ok, HO3.out.st, HO3.out.bel.trans (hb.mono HO3.out.bel.size)⟩; have hI4 := inflight_any HO4.out.fl; have hS4 := strikes_any HO4.out.fl; rw [HST.out] at hS4; rw [hU0] at hI4; clear hb hTn) | (go_at_call 28; refine hI4.mono ?_; rintro e w5 ⟨rfl, rfl⟩) | (go_at_call 23; refine hS4.mono ?_; rintro e w6 ⟨rfl, rfl⟩))
              go_roundw
              case rel =>
                obtain ⟨_, ho2, ho3, ho4⟩ := HOUT.out
                exact ⟨k + 1, low + j, now2, F3, ho4, by omega, hN2.1, by omega, by first | go_num | (rw [Int.natCast_succ]), rfl, by congr 1, List.eq_nil_of_length_eq_zero hU0, hnx3, HO4.out⟩
              case measure =>
                obtain ⟨_, ho2, ho3, ho4⟩ := HOUT.out
                simp [intOf]
                omega
    · have ek : k = len := by omega
      subst ek
      have hki : ¬ (k : Int) < (k : Int) := by omega
      have hNx := fnext_any HO.out.fl
      rw [hnx] at hNx
      have HBB := hid HO.out.bel
      go_wp2_with (go_at_call 29; refine hNx.mono ?_; rintro e w3 ⟨rfl, rfl⟩)
      go_ret
      exact ⟨by simp, HBB.out⟩
end Go.Proofs.Ytbkfmknjbdonlaa
