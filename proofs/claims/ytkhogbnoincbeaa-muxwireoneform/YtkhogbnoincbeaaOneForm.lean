import Derived.Test.YtkhogbnoincbeaaPu5
import Derived.Test.YtkhogbnoincbeaaBack
namespace Go.Proofs.Ytkhogbnoincbeaa
open Go.RowKit Go.Maps Go.Sort
set_option maxRecDepth 100000

theorem BytesAt.front {w : World} {a : Option Addr} {l : List (BitVec 8)} (h : BytesAt w a l) (n : Nat) : BytesAt w a (l.take n) := fun k hk => by
  have hk2 : k < l.length := by rw [List.length_take] at hk; omega
  obtain ⟨g, o, e, c⟩ := h k hk2
  exact ⟨g, o, e, by rw [c, List.getElem_take]⟩
/-- Decode where it answers an error. -/
theorem decode_no (w : World) (a : Option Addr) (l : List (BitVec 8)) (L cap : Nat) (hB : BytesAt w a l) (hL : l.length = L) (hc : L ≤ cap) (hm : cap ≤ maxLen) (hz : a = none → cap = 0) (h : ¬ (allA PF.zero l).1 = 0) :
    Calls Try.prog 15 #[.slice a L cap] w fun e w' => e = .returned (.tuple #[.agg #[.int .i64 0, .int .u64 0, .int .u64 0, .int .i64 0, .int .i64 0, .slice none 0 0], .int .i64 0, .int .i64 (allA PF.zero l).1]) ∧ Below w.heap.size w w' := by
  refine (decode_any w a l L cap hB hL hc hm hz).mono ?_
  rintro e w' ⟨hb, ⟨_, he⟩ | ⟨hh, _⟩⟩
  · exact ⟨he, hb⟩
  · exact absurd hh h
/-- Decode where it answers a frame. -/
theorem decode_yes (w : World) (a : Option Addr) (l : List (BitVec 8)) (L cap : Nat) (hB : BytesAt w a l) (hL : l.length = L) (hc : L ≤ cap) (hm : cap ≤ maxLen) (hz : a = none → cap = 0) {F : PF} {m : List (BitVec 8)} (h : allA PF.zero l = (0, F, m)) :
    Calls Try.prog 15 #[.slice a L cap] w fun e w' => ∃ a9 c9, e = .returned (.tuple #[.agg #[.int .i64 F.k, .int .u64 F.s, .int .u64 F.n, .int .i64 F.c, .int .i64 F.h, .slice a9 F.bs.length c9], .int .i64 ((l.length : Int) - (m.length : Int)), .int .i64 0]) ∧ BytesAt w' a9 F.bs ∧ (a9 = none → c9 = 0) ∧ Below w.heap.size w w' := by
  refine (decode_any w a l L cap hB hL hc hm hz).mono ?_
  rintro e w' ⟨hb, hor⟩
  rw [h] at hor
  rcases hor with ⟨hh, _⟩ | ⟨_, d, he, hd⟩
  · exact absurd rfl hh
  · rcases hd with ⟨rfl, e0⟩ | ⟨g, rfl, hR, _⟩
    · exact ⟨none, 0, by rw [he]; simp only at e0 ⊢; rw [e0]; rfl, by simp only at e0; rw [e0]; exact BytesAt_nil _ _, fun _ => rfl, hb⟩
    · exact ⟨_, _, he, hR.bytes, fun e => (by cases e), hb⟩
set_option maxHeartbeats 4000000 in
theorem oneform_law (w : World) (a : Option Addr) (l : List (BitVec 8)) (L cap : Nat) (cut : Int) (hB : BytesAt w a l) (hL : l.length = L) (hc : L ≤ cap) (hm : cap ≤ maxLen) (hz : a = none → cap = 0) :
    Calls Try.prog 6 #[.slice a L cap, .int .i64 cut] w fun e w' => e = .returned (.bool true) ∧ Below w.heap.size w w' := by
  have HAW := hid (awake_any w)
  cases hr : allA PF.zero l with
  | mk e0 r =>
    obtain ⟨F, m⟩ := r
    by_cases h0 : e0 = 0
    · subst h0
      obtain ⟨hs0, hn0, hft, hle, hea⟩ := dec_one hr
      have HLN := enc_len hs0 hn0 hft
      obtain ⟨N, hN⟩ : ∃ N, (encB F.k F.s F.n F.c F.h F.bs).length = N := ⟨_, rfl⟩
      have hN1 : 1 ≤ N := by rw [← hN]; unfold encB; simp
      have hN2 : N ≤ L := by rw [← hL, hle, List.length_append, hN]; omega
      have hNm : (l.length : Int) - (m.length : Int) = (N : Int) := by rw [hle, List.length_append, hN]; omega
      have hN3 : N ≤ 32768 := by rw [← hN]; exact HLN
      obtain ⟨J, hJ, hJ2⟩ : ∃ J : Nat, (IntKind.u64.wrap cut) % (N : Int) = (J : Int) ∧ J < N := ⟨((IntKind.u64.wrap cut) % (N : Int)).toNat, by have := Int.emod_nonneg (IntKind.u64.wrap cut) (b := (N : Int)) (by omega); omega, by have := Int.emod_nonneg (IntKind.u64.wrap cut) (b := (N : Int)) (by omega); have := Int.emod_lt_of_pos (IntKind.u64.wrap cut) (b := (N : Int)) (by omega); omega⟩
      have hU0 : 0 ≤ IntKind.u64.wrap cut := by rw [IntKind.wrap_u64]; omega
      have hU1 : IntKind.u64.wrap cut ≤ 18446744073709551615 := by rw [IntKind.wrap_u64]; omega
      have HD : Hid (∀ W, Below w.heap.size w W → Calls Try.prog 15 #[.slice a L cap] W fun e w' => ∃ a9 c9, e = .returned (.tuple #[.agg #[.int .i64 F.k, .int .u64 F.s, .int .u64 F.n, .int .i64 F.c, .int .i64 F.h, .slice a9 F.bs.length c9], .int .i64 (N : Int), .int .i64 0]) ∧ BytesAt w' a9 F.bs ∧ (a9 = none → c9 = 0) ∧ Below W.heap.size W w') := fun W hb => by
        have := decode_yes W a l L cap (hB.kept hb) hL hc hm hz hr
        rw [hNm] at this
        exact this
      have HDJ : Hid (∀ W, Below w.heap.size w W → Calls Try.prog 15 #[.slice a J cap] W fun e w' => e = .returned (.tuple #[.agg #[.int .i64 0, .int .u64 0, .int .u64 0, .int .i64 0, .int .i64 0, .slice none 0 0], .int .i64 0, .int .i64 174]) ∧ Below W.heap.size W w') := fun W hb => by
        have hpre : (allA PF.zero (l.take J)).1 = 174 := by
          rw [hle, List.take_append_of_le_length (by omega)]
          exact hea.cut J (by omega)
        have := decode_no W a (l.take J) J cap ((hB.front J).kept hb) (by rw [List.length_take]; omega) (by omega) hm hz (by rw [hpre]; decide)
        rw [hpre] at this
        exact this
      have HEN : Hid (∀ W a9 c9, BytesAt W a9 F.bs → (a9 = none → c9 = 0) → Calls Try.prog 10 #[.agg #[.int .i64 F.k, .int .u64 F.s, .int .u64 F.n, .int .i64 F.c, .int .i64 F.h, .slice a9 F.bs.length c9]] W fun e w' => ∃ a4 c4, e = .returned (.tuple #[.slice a4 N c4, .int .i64 0]) ∧ BytesAt w' a4 (encB F.k F.s F.n F.c F.h F.bs) ∧ Below W.heap.size W w') := fun W a9 c9 k1 k2 => by
        refine (encode_any W F.k F.s F.n F.c F.h a9 F.bs F.bs.length c9 k1 rfl k2 hs0 hn0).mono ?_
        rintro e w' ⟨v, rfl, ho, hb⟩
        rw [hft]
        unfold encO at ho
        rw [if_pos hft] at ho
        obtain ⟨a4, c4, rfl, hB4, _⟩ := ownBy_shape ho
        exact ⟨a4, c4, by rw [hN], hB4, hb⟩
      have HFI : Hid (∀ W a9 c9, BytesAt W a9 F.bs → (a9 = none → c9 = 0) → Calls Try.prog 18 #[.agg #[.int .i64 F.k, .int .u64 F.s, .int .u64 F.n, .int .i64 F.c, .int .i64 F.h, .slice a9 F.bs.length c9]] W fun e w' => e = .returned (.bool true) ∧ Below W.heap.size W w') := fun W a9 c9 k1 k2 => by
        refine (lfit_any W F.k F.s F.n F.c F.h a9 F.bs F.bs.length c9 k1 rfl k2 hs0 hn0).mono ?_
        rintro e w' ⟨rfl, hb⟩
        exact ⟨by rw [decide_eq_true hft], hb⟩
      have HPS : Hid (∀ W a4 c4, Below w.heap.size w W → BytesAt W a4 (encB F.k F.s F.n F.c F.h F.bs) → Calls Try.prog 12 #[.slice a4 N c4, .slice a N cap] W fun e w' => e = .returned (.bool true) ∧ w' = W) := fun W a4 c4 hb k1 => by
        have hfr : BytesAt W a (encB F.k F.s F.n F.c F.h F.bs) := by
          have := (hB.front N).kept hb
          rw [hle, List.take_append_of_le_length (by omega), List.take_of_length_le (by omega)] at this
          exact this
        exact psame_yes k1 hN hfr hN
      have q1 : (1 : Int) ≤ (N : Int) := by omega
      have q2 : (N : Int) ≤ (L : Int) := by omega
      have q3 : (N : Int) ≤ (cap : Int) := by omega
      have q4 : (N : Int) ≤ 32768 := by omega
      have q5 : (J : Int) ≤ (cap : Int) := by omega
      have q6 : (J : Int) ≤ 32767 := by omega
      clear hB hL hc hm hz hr hs0 hn0 hft hle hea HLN hN hN1 hN2 hNm hN3
      have HJ := hid hJ
      have HU0 := hid hU0
      have HU1 := hid hU1
      clear hJ hU0 hU1 hJ2
      go_enter Try.func6, Try.ntmps6
      go_upto_region 8 with (first | (go_at_call 17; refine HAW.out.mono ?_; rintro e w1 ⟨rfl, hb1⟩; have HB1 := hid hb1; clear hb1) | (go_at_call 15; refine (HD.out _ HB1.out).mono ?_; rintro e w2 ⟨a9, c9, rfl, k1, k2, hb2⟩; have HK1 := hid k1; have HK2 := hid k2; have HB2 := hid (HB1.out.trans (hb2.mono HB1.out.size)); clear hb2 k1 k2))
      have hb3 := below_new w2 (.cells #[.int .i64 F.k, .int .u64 F.s, .int .u64 F.n, .int .i64 F.c, .int .i64 F.h, .slice a9 F.bs.length c9] 25)
      have hF3 := fat_new w2 F.k F.s F.n F.c F.h (.slice a9 F.bs.length c9)
      obtain ⟨w3, hw3⟩ : ∃ w3, w3 = w2.alloc (.cells #[.int .i64 F.k, .int .u64 F.s, .int .u64 F.n, .int .i64 F.c, .int .i64 F.h, .slice a9 F.bs.length c9] 25) := ⟨_, rfl⟩
      rw [← hw3] at hb3 hF3 ⊢
      clear hw3
      have HB3 := hid (HB2.out.trans (hb3.mono HB2.out.size))
      have HK3 := hid (HK1.out.kept hb3)
      have F3 := hid hF3
      obtain ⟨p0, p1, p2, p3, p4, p5⟩ := hF3
      clear hb3
      have hrem := HJ.out
      have hne : ¬ (N : Int) = 0 := by omega
      have HE3 := hid (HEN.out w3 a9 c9 HK3.out HK2.out)
      go_upto_region 9 with (go_at_call 10; refine HE3.out.mono ?_; rintro e w4 ⟨a4, c4, rfl, k4, hb4⟩; have HK4 := hid k4; have HB34 := hid hb4; have HB4 := hid (HB3.out.trans (hb4.mono HB3.out.size)); obtain ⟨p0, p1, p2, p3, p4, p5⟩ := F3.out.kept hb4; clear hb4 k4)
      have hU0 := HU0.out
      obtain ⟨U, hU⟩ : ∃ U, IntKind.u64.wrap cut = U := ⟨_, rfl⟩
      rw [hU] at hrem hU0
      clear HU0 HU1 HJ HD HAW HE3 HEN
      go_upto_region 10 with (go_at_call 15; refine (HDJ.out _ HB4.out).mono ?_; rintro e w5 ⟨rfl, hb5⟩; have HB45 := hid hb5; have HB5 := hid (HB4.out.trans (hb5.mono HB4.out.size)); clear hb5)
      have hb6 := below_new w5 (.cells #[.int .i64 0, .int .u64 0, .int .u64 0, .int .i64 0, .int .i64 0, .slice none 0 0] 25)
      obtain ⟨w6, hw6⟩ : ∃ w6, w6 = w5.alloc (.cells #[.int .i64 0, .int .u64 0, .int .u64 0, .int .i64 0, .int .i64 0, .slice none 0 0] 25) := ⟨_, rfl⟩
      rw [← hw6] at hb6 ⊢
      clear hw6
      have HB6 := hid (HB5.out.trans (hb6.mono HB5.out.size))
      obtain ⟨p0, p1, p2, p3, p4, p5⟩ := ((F3.out.kept HB34.out).kept HB45.out).kept hb6
      have HK6 := hid (((HK3.out.kept HB34.out).kept HB45.out).kept hb6)
      have HA6 := hid ((HK4.out.kept HB45.out).kept hb6)
      have HF6 := hid (HFI.out w6 a9 c9 HK6.out HK2.out)
      clear hb6 hrem hU hU0 hne
      go_wp2_with (first | (go_at_call 18; refine HF6.out.mono ?_; rintro e w7 ⟨rfl, hb7⟩; have HA7 := hid (HA6.out.kept hb7); have HB7 := hid (HB6.out.trans (hb7.mono HB6.out.size)); clear hb7) | (go_at_call 12; refine (HPS.out _ a4 c4 HB7.out HA7.out).mono ?_; rintro e w' ⟨rfl, rfl⟩))
      go_ret
      exact ⟨by simp, HB7.out⟩
    · have HD : Hid (∀ W, Below w.heap.size w W → Calls Try.prog 15 #[.slice a L cap] W fun e w' => e = .returned (.tuple #[.agg #[.int .i64 0, .int .u64 0, .int .u64 0, .int .i64 0, .int .i64 0, .slice none 0 0], .int .i64 0, .int .i64 e0]) ∧ Below W.heap.size W w') := fun W hb => by
        have := decode_no W a l L cap (hB.kept hb) hL hc hm hz (by rw [hr]; exact h0)
        rw [hr] at this
        exact this
      have HSA : Hid (∀ W, Calls Try.prog 14 #[.agg #[.int .i64 0, .int .u64 0, .int .u64 0, .int .i64 0, .int .i64 0, .slice none 0 0], .agg #[.int .i64 0, .int .u64 0, .int .u64 0, .int .i64 0, .int .i64 0, .slice none 0 0]] W fun e w' => e = .returned (.bool true) ∧ Below W.heap.size W w') := fun W => by
        refine (rsame_any W 0 0 0 0 0 0 0 0 0 0 none none [] [] 0 0 0 0 (BytesAt_nil _ _) rfl (BytesAt_nil _ _) rfl).mono ?_
        rintro e w' ⟨rfl, hb⟩
        exact ⟨by rw [decide_eq_true ⟨rfl, rfl, rfl, rfl, rfl, rfl⟩], hb⟩
      have hb : (e0 == 0) = false := by simpa using h0
      clear hB hL hc hm hz hr
      go_enter Try.func6, Try.ntmps6
      go_wp2_with (first | (go_at_call 17; refine HAW.out.mono ?_; rintro e w1 ⟨rfl, hb1⟩; have HB1 := hid hb1; clear hb1) | (go_at_call 15; refine (HD.out _ HB1.out).mono ?_; rintro e w2 ⟨rfl, hb2⟩; have HB2 := hid (HB1.out.trans (hb2.mono HB1.out.size)); clear hb2) | (go_at_call 14; refine (HSA.out _).mono ?_; rintro e w3 ⟨rfl, hb3⟩; have HB3 := hid ((HB2.out.alloc HB2.out.size _).trans (hb3.mono (Nat.le_trans HB2.out.size (by simp)))); clear hb3))
      go_ret
      exact ⟨by simp, HB3.out⟩
end Go.Proofs.Ytkhogbnoincbeaa
