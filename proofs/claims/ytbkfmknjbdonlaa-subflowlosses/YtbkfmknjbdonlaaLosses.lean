import Derived.Test.YtbkfmknjbdonlaaHeard
namespace Go.Proofs.Ytbkfmknjbdonlaa
open Go.RowKit Go.Maps
set_option maxRecDepth 100000

/-- The items, and which of them are under way ahead of the i-th acknowledgement. -/
def itl (k : Nat) : It := ⟨(k : Int), 1, (k : Int), 1, 0⟩
def lwy (a n i : Nat) : List It := (if a < i ∧ i ≤ a + 3 then [itl a] else []) ++ (List.range' i (n - i)).map itl
structure LosAt (w wr : World) (p b g a n i : Nat) (F : Fl) : Prop where
  fl : FlowAt wr p b g F
  ok : F.Ok
  un : F.U = lwy a n i
  nx : F.next = (n : Int)
  ln : F.line = if i ≤ a + 3 then 0 else (n : Int)
  bel : Below w.heap.size w wr
theorem lwy_len (a n i : Nat) : (lwy a n i).length ≤ n - i + 1 := by
  unfold lwy
  split <;> simp
theorem lwy_at {a n i : Nat} {x : It} (h : x ∈ lwy a n i) : x.at_ = 0 := by
  unfold lwy at h
  rcases List.mem_append.1 h with h | h
  · split at h
    · rw [List.mem_singleton.1 h]; rfl
    · simp at h
  · obtain ⟨k, _, rfl⟩ := List.mem_map.1 h; rfl
theorem los_ack {F : Fl} {S : List Rg} {a n i : Nat} (han : a + 4 ≤ n) (hin : i < n) (hia : i ≠ a) (hU : F.U = lwy a n i) (hnx : F.next = (n : Int)) (hln : F.line = if i ≤ a + 3 then 0 else (n : Int)) (T : Told [((i : Int), (i : Int) + 1)] F.next S) :
    F.ackd S = [itl i] ∧ F.lost S = (if i = a + 3 then [itl a] else []) ∧ F.isCut S = decide (i = a + 3) ∧ (∀ n2, (F.heard n2 S).U = lwy a n (i + 1)) ∧ (∀ n2, (F.heard n2 S).line = if i + 1 ≤ a + 3 then 0 else (n : Int)) := by
  have ht : ∀ k, tb S (itl k) = decide (k = i) := fun k => by
    rw [Bool.eq_iff_iff, told_tb T, mem_one, decide_eq_true_eq, hnx]
    simp only [itl]
    omega
  obtain ⟨m, hm⟩ : ∃ m, n - i = m + 1 := ⟨n - i - 1, by omega⟩
  have hf := rng_filter itl (tb S) i m (by rw [ht]; simp) (fun k hk => by rw [ht]; exact decide_eq_false (by omega))
  have hfa : tb S (itl a) = false := by rw [ht]; exact decide_eq_false (fun e => hia e.symm)
  have ea : F.ackd S = [itl i] := by
    unfold Fl.ackd
    rw [hU, lwy, hm, List.filter_append, hf.1]
    split <;> simp [hfa]
  have eu : (F.U.filter fun x => !tb S x) = (if a < i ∧ i ≤ a + 3 then [itl a] else []) ++ (List.range' (i + 1) m).map itl := by
    rw [hU, lwy, hm, List.filter_append, hf.2]
    split <;> simp [hfa]
  have hL : lastHi S = (i : Int) + 1 := lastHi_of T.fit ((T.mem _).2 ⟨(mem_one _ _ _).2 (by omega), by rw [hnx]; omega⟩) (fun y hy => by
    have := (mem_one _ _ _).1 ((T.mem _).1 hy).1
    omega)
  have hb : ∀ k, lb (lastHi S) (itl k) = decide (k + 3 < i + 1) := fun k => by
    unfold lb
    rw [hL, Bool.eq_iff_iff, decide_eq_true_eq, decide_eq_true_eq]
    simp only [itl]
    omega
  have hg := rng_none itl (lb (lastHi S)) (i + 1) m (fun k hk => by rw [hb]; exact decide_eq_false (by omega))
  have el : F.lost S = (if i = a + 3 then [itl a] else []) := by
    unfold Fl.lost
    rw [eu, List.filter_append, hg.1, List.append_nil]
    by_cases h3 : i = a + 3
    · rw [if_pos (by omega), if_pos h3]
      simp only [List.filter_cons, List.filter_nil, hb]
      rw [decide_eq_true (by omega)]
      rfl
    · rw [if_neg h3]
      split
      · simp only [List.filter_cons, List.filter_nil, hb]
        rw [decide_eq_false (by omega)]
        rfl
      · rfl
  have ec : F.isCut S = decide (i = a + 3) := by
    unfold Fl.isCut cutB
    rw [el, hln]
    by_cases h3 : i = a + 3
    · rw [if_pos h3, if_pos (by omega), decide_eq_true h3]
      rfl
    · rw [if_neg h3, decide_eq_false h3]
      rfl
  refine ⟨ea, el, ec, fun n2 => ?_, fun n2 => ?_⟩
  · unfold Fl.heard
    simp only
    rw [eu, List.filter_append, hg.2, lwy, show n - (i + 1) = m by omega]
    congr 1
    by_cases h3 : i = a + 3
    · rw [if_pos (by omega), if_neg (by omega)]
      simp only [List.filter_cons, List.filter_nil, hb]
      rw [decide_eq_true (by omega)]
      rfl
    · by_cases h4 : a < i ∧ i ≤ a + 3
      · rw [if_pos h4, if_pos (by omega)]
        simp only [List.filter_cons, List.filter_nil, hb]
        rw [decide_eq_false (by omega)]
        rfl
      · rw [if_neg h4, if_neg (by omega)]
        rfl
  · unfold Fl.heard
    simp only
    rw [ec, hln, hnx]
    by_cases h3 : i = a + 3
    · rw [if_pos (by simpa using h3), if_neg (by omega)]
    · rw [if_neg (by simpa using h3)]
      by_cases h4 : i ≤ a + 3
      · rw [if_pos h4, if_pos (by omega)]
      · rw [if_neg h4, if_neg (by omega)]
theorem below_alloc {W w : World} (h : Below W.heap.size W w) (o : Obj) : Below W.heap.size W (w.alloc o) := h.alloc h.size o
theorem empty_ack {F : Fl} (hU : F.U = []) (S : List Rg) : F.ackd S = [] ∧ F.lost S = [] ∧ F.isCut S = false ∧ ∀ n2, (F.heard n2 S).U = [] := by
  have el : F.lost S = [] := by unfold Fl.lost; rw [hU]; rfl
  refine ⟨by unfold Fl.ackd; rw [hU]; rfl, el, by unfold Fl.isCut; rw [el]; rfl, fun n2 => ?_⟩
  unfold Fl.heard
  simp only
  rw [hU]
  rfl
theorem mod8 (x : Int) : ∃ n : Nat, n < 8 ∧ (IntKind.u64.wrap x).tmod 8 = (n : Int) := by
  have hw : 0 ≤ IntKind.u64.wrap x := by rw [IntKind.wrap_u64]; omega
  refine ⟨(IntKind.u64.wrap x % 8).toNat, by omega, ?_⟩
  rw [Int.tmod_eq_emod_of_nonneg hw]
  omega
set_option maxHeartbeats 4000000 in
theorem losses_any (w : World) (ah co : Int) : Calls Try.prog 5 #[.int .i64 ah, .int .i64 co] w fun e w' => e = .returned (.bool true) ∧ Below w.heap.size w w' := by
  obtain ⟨a, ha, ea⟩ := mod8 ah
  obtain ⟨c, hc, ec⟩ := mod8 co
  obtain ⟨n, hn⟩ : ∃ n, n = a + 4 + c := ⟨_, rfl⟩
  have ewa : IntKind.u64.wrap (a : Int) = a := wrapu _ (by omega) (by omega)
  have ewc : IntKind.u64.wrap (c : Int) = c := wrapu _ (by omega) (by omega)
  have ew4 : IntKind.u64.wrap ((a : Int) + 4) = (a : Int) + 4 := wrapu _ (by omega) (by omega)
  have ewn : IntKind.u64.wrap ((a : Int) + 4 + (c : Int)) = (n : Int) := by rw [wrapu _ (by omega) (by omega)]; omega
  go_enter Try.func5, Try.ntmps5
  go_wp2_with (first | (go_at_call 17; refine (flownew_any w 3).mono ?_; rintro e w1 ⟨p, b, g, rfl, hF, hp, hb, hg, hbl⟩; have H1 := hid hF; have HB1 := hid hbl; have HP := hid (And.intro hp (And.intro hb hg)); clear hF hbl hp hb hg) | (go_at_call 18; refine (awake_any _).mono ?_; rintro e w2 ⟨rfl, hb⟩; have H2 := hid (FlowAt.kept H1.out hb); have HB2 := hid (HB1.out.trans (hb.mono HB1.out.size)); clear hb))
  obtain ⟨w0, hw0⟩ : ∃ w0, w0 = w2 := ⟨_, rfl⟩
  rw [← hw0] at H2 HB2 ⊢
  rw [show (a : Int) + 4 + (c : Int) = (n : Int) by omega]
  clear hw0 H1 HB1 ea ec ew4 ewn ewc
  have han : a + 4 ≤ n ∧ n ≤ 18 := by omega
  clear hn hc
  go_loopw [8] (fun s8 wr => ∃ (i : Nat) (F : Fl), i ≤ n ∧ s8 = .int .u64 i ∧ F.U = (List.range' 0 i).map itl ∧ F.next = (i : Int) ∧ F.line = 0 ∧ FlowAt wr p b g F ∧ F.Ok ∧ Below w.heap.size w wr) (fun s _ => n - (intOf s).toNat)
  case atStart => exact ⟨0, Fl.new 3, Nat.zero_le _, rfl, rfl, rfl, rfl, H2.out, Fl.new_ok 3, HB2.out⟩
  case round =>
    obtain ⟨i, F, hi, rfl, hU, hnx, hln, hfl, hok, hbel⟩ := hrel
    have HF := hid hfl
    have HK := hid hok
    have HB := hid hbel
    clear hfl hok hbel H2 HB2
    by_cases hin : i < n
    · have hSd := send_any HF.out HK.out (by rw [hnx]; omega) (by rw [hU]; simp; omega) 0 1 (i : Int) 1
      have hin' : (i : Int) < (n : Int) := by omega
      go_wp2_with (go_at_call 19; refine hSd.mono ?_; rintro e w3 ⟨rfl, hF3, ho3⟩; have HF3 := hid hF3; have HB3 := hid (Only.flow_below HB.out ho3 HP.out.1 HP.out.2.1 HP.out.2.2); clear hF3 ho3 hSd)
      go_roundw
      case rel =>
        refine ⟨i + 1, F.send 0 1 (i : Int) 1, hin, by first | go_num | (rw [Int.natCast_succ]), ?_, ?_, hln, HF3.out, HK.out.send (Int.le_refl _) (by decide) 1 (i : Int) 1, HB3.out⟩
        · rw [List.range'_concat, List.map_append, ← hU]
          show F.U ++ [_] = _
          rw [hnx]
          simp [itl]
        · show F.next + 1 = _
          rw [hnx]
          omega
      case measure => simp [intOf]; omega
    · have ein : i = n := by omega
      subst ein
      have hin' : ¬ (i : Int) < (i : Int) := by omega
      go_wp2_with fail
      obtain ⟨wo, hwo⟩ : ∃ wo, wo = wr := ⟨_, rfl⟩
      rw [← hwo] at HF HB ⊢
      clear hwo
      go_loopw [9] (fun s9 wr => ∃ (j : Nat) (F : Fl), j ≤ i ∧ s9 = .int .u64 j ∧ LosAt w wr p b g a i j F) (fun s _ => i - (intOf s).toNat)
      case atStart => exact ⟨0, F, Nat.zero_le _, rfl, ⟨HF.out, HK.out, by rw [hU, lwy, if_neg (by omega)]; rfl, hnx, by rw [hln, if_pos (by omega)], HB.out⟩⟩
      case round =>
        obtain ⟨j, F2, hj, rfl, hL⟩ := hrel
        have HL := hid hL
        clear hL hU hnx hln HF HK HB
        by_cases hji : j < i
        · have hji' : (j : Int) < (i : Int) := by omega
          by_cases hja : j = a
          · subst hja
            go_wp2_with fail
            go_roundw
            case rel =>
              refine ⟨j + 1, F2, hji, by first | go_num | (rw [Int.natCast_succ]), ⟨HL.out.fl, HL.out.ok, ?_, HL.out.nx, ?_, HL.out.bel⟩⟩
              · rw [HL.out.un, lwy, lwy, if_neg (by omega), if_pos (by omega), show i - j = (i - (j + 1)) + 1 by omega, List.range'_succ]
                rfl
              · rw [HL.out.ln, if_pos (by omega), if_pos (by omega)]
            case measure => simp [intOf]; omega
          · have eja : ((j : Int) == (a : Int)) = false := by rw [beq_eq_false_iff_ne]; omega
            have eja' : decide ((j : Int) = (a : Int)) = false := decide_eq_false (by omega)
            have hAk := ack_one HL.out.fl HL.out.ok (j : Int) ((j : Int) + 1) (by omega) (by omega) (by rw [HL.out.un]; have := lwy_len a i j; omega) (by rw [HL.out.nx]; omega) (fun x hx => by rw [HL.out.un] at hx; rw [lwy_at hx]; decide) 1 (by decide) (by decide)
            have HD := hid (fun S T => los_ack (S := S) han.1 hji hja HL.out.un HL.out.nx HL.out.ln T)
            have ewj : IntKind.u64.wrap ((j : Int) + 1) = (j : Int) + 1 := wrapu _ (by omega) (by omega)
            have ew3 : IntKind.u64.wrap ((a : Int) + 3) = (a : Int) + 3 := wrapu _ (by omega) (by omega)
            by_cases h3 : j = a + 3
            · have e3 : (a : Int) + 3 = (j : Int) := by omega
              rw [e3] at ew3
              have H3 := hid h3
              clear h3
              go_wp2_with fail
              refine hAk.mono ?_
              rintro e w4 ⟨v1, v2, S, hT, rfl, hr1, hr2, hf4, ho4⟩
              obtain ⟨q1, q2, q3, q4, q5⟩ := HD.out S hT
              rw [q1] at hr1
              rw [if_pos H3.out] at q2
              rw [q2] at hr2
              rw [decide_eq_true H3.out] at q3
              rw [q3]
              obtain ⟨a1, cap1, rfl, hv1⟩ := own_view hr1
              obtain ⟨a2, cap2, rfl, hv2⟩ := own_view hr2
              obtain ⟨g1, rfl, _, hc1, _⟩ := hv1 0 (by simp)
              obtain ⟨g2, rfl, _, hc2, _⟩ := hv2 0 (by simp)
              have HL4 : Hid (LosAt w w4 p b g a i (j + 1) (F2.heard 1 S)) := ⟨hf4, HL.out.ok.heard (by decide) (by decide) S, q4 1, HL.out.nx, q5 1, Only.flow_below HL.out.bel ho4 HP.out.1 HP.out.2.1 HP.out.2.2⟩
              simp only [List.length_cons, List.length_nil, Nat.zero_add] at *
              have d0 : World.cell? _ ⟨g1, 0, none⟩ = some (.int .u64 (j : Int)) := rcell_kept (below_grow (Below.refl w4.heap.size w4) (.cells #[.slice (some ⟨g1, 0, none⟩) 1 cap1, .slice (some ⟨g2, 0, none⟩) 1 cap2, .bool true] 55)) hc1
              have d2 : World.cell? _ ⟨g2, 0, none⟩ = some (.int .u64 (a : Int)) := rcell_kept (below_grow (Below.refl w4.heap.size w4) (.cells #[.slice (some ⟨g1, 0, none⟩) 1 cap1, .slice (some ⟨g2, 0, none⟩) 1 cap2, .bool true] 55)) hc2
              clear hc2
              clear hf4 ho4 hr1 hr2 q1 q2 q3 q4 q5 hv1 hv2 hc1 hAk
              go_wp2
              go_roundw
              case rel =>
                have hkp := below_grow (Below.refl w4.heap.size w4) (.cells #[.slice (some ⟨g1, 0, none⟩) 1 cap1, .slice (some ⟨g2, 0, none⟩) 1 cap2, .bool true] 55)
                exact ⟨j + 1, _, hji, by first | go_num | (rw [Int.natCast_succ]), ⟨FlowAt.kept HL4.out.fl hkp, HL4.out.ok, HL4.out.un, HL4.out.nx, HL4.out.ln, HL4.out.bel.trans (hkp.mono HL4.out.bel.size)⟩⟩
              case measure => simp [intOf]; omega
            · have e3 : ((j : Int) == (a : Int) + 3) = false := by rw [beq_eq_false_iff_ne]; omega
              have e3' : decide ((j : Int) = (a : Int) + 3) = false := decide_eq_false (by omega)
              go_wp2_with fail
              refine hAk.mono ?_
              rintro e w4 ⟨v1, v2, S, hT, rfl, hr1, hr2, hf4, ho4⟩
              obtain ⟨q1, q2, q3, q4, q5⟩ := HD.out S hT
              rw [q1] at hr1
              rw [if_neg h3] at q2
              rw [q2] at hr2
              rw [decide_eq_false h3] at q3
              rw [q3]
              obtain ⟨a1, cap1, rfl, hv1⟩ := own_view hr1
              obtain ⟨a2, cap2, rfl, hv2⟩ := own_view hr2
              obtain ⟨g1, rfl, _, hc1, _⟩ := hv1 0 (by simp)
              have HL4 : Hid (LosAt w w4 p b g a i (j + 1) (F2.heard 1 S)) := ⟨hf4, HL.out.ok.heard (by decide) (by decide) S, q4 1, HL.out.nx, q5 1, Only.flow_below HL.out.bel ho4 HP.out.1 HP.out.2.1 HP.out.2.2⟩
              simp only [List.length_cons, List.length_nil, Nat.zero_add] at *
              have d0 : World.cell? _ ⟨g1, 0, none⟩ = some (.int .u64 (j : Int)) := rcell_kept (below_grow (Below.refl w4.heap.size w4) (.cells #[.slice (some ⟨g1, 0, none⟩) 1 cap1, .slice a2 0 cap2, .bool false] 55)) hc1
              clear hf4 ho4 hr1 hr2 q1 q2 q3 q4 q5 hv1 hv2 hc1 hAk
              go_wp2
              go_roundw
              case rel =>
                have hkp := below_grow (Below.refl w4.heap.size w4) (.cells #[.slice (some ⟨g1, 0, none⟩) 1 cap1, .slice a2 0 cap2, .bool false] 55)
                exact ⟨j + 1, _, hji, by first | go_num | (rw [Int.natCast_succ]), ⟨FlowAt.kept HL4.out.fl hkp, HL4.out.ok, HL4.out.un, HL4.out.nx, HL4.out.ln, HL4.out.bel.trans (hkp.mono HL4.out.bel.size)⟩⟩
              case measure => simp [intOf]; omega
        · have eji : j = i := by omega
          subst eji
          have hji' : ¬ (j : Int) < (j : Int) := by omega
          have hU0 : F2.U = [] := by rw [HL.out.un, lwy, if_neg (by omega)]; simp
          have ewa1 : IntKind.u64.wrap ((a : Int) + 1) = (a : Int) + 1 := wrapu _ (by omega) (by omega)
          have hAk := ack_one HL.out.fl HL.out.ok (a : Int) ((a : Int) + 1) (by omega) (by omega) (by rw [hU0]; decide) (by rw [HL.out.nx]; omega) (fun x hx => by rw [hU0] at hx; simp at hx) 2 (by decide) (by decide)
          have HD := hid (empty_ack hU0)
          go_wp2_with (first | (go_at_call 27; refine hAk.mono ?_; rintro e w4 ⟨v1, v2, S, hT, rfl, hr1, hr2, hf4, ho4⟩; obtain ⟨q1, q2, q3, q4⟩ := HD.out S; rw [q1] at hr1; rw [q2] at hr2; rw [q3]; obtain ⟨a1, cap1, rfl, _⟩ := own_view hr1; obtain ⟨a2, cap2, rfl, _⟩ := own_view hr2; have hkp := below_grow (Below.refl w4.heap.size w4) (.cells #[.slice a1 0 cap1, .slice a2 0 cap2, .bool false] 55); have hI4 := inflight_any (FlowAt.kept hf4 hkp); rw [q4 2] at hI4; have HB4 := hid ((Only.flow_below HL.out.bel ho4 HP.out.1 HP.out.2.1 HP.out.2.2)); simp only [List.length_nil] at *; clear hf4 ho4 hr1 hr2 q1 q2 q3 q4 hAk hkp) | (go_at_call 28; refine hI4.mono ?_; rintro e w5 ⟨rfl, rfl⟩))
          go_ret
          exact ⟨rfl, below_alloc HB4.out _⟩
end Go.Proofs.Ytbkfmknjbdonlaa
