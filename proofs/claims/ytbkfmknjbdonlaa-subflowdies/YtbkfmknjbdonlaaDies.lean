import Derived.Test.YtbkfmknjbdonlaaAwake
namespace Go.Proofs.Ytbkfmknjbdonlaa
open Go.RowKit Go.Maps Go.Sort
set_option maxRecDepth 100000

/-- The flow ahead of the k-th strike. -/
def dyf (m : Int) (k : Nat) (la mk li : Int) : Fl := ⟨[], ⟨0, 0, min ((k : Int) - 1) 16, false⟩, m, (k : Int) - 1, (k : Int) - 1, la, mk, li⟩
theorem dyf_ok {m : Int} {k : Nat} (hk : 1 ≤ k) {la mk li : Int} (h0 : 0 ≤ mk) (h1 : mk ≤ 18446744073709551615) : (dyf m k la mk li).Ok := by
  refine ⟨⟨by simp [dyf], by simp [dyf], by simp [dyf], by simp [dyf], by simp only [dyf]; omega, by simp only [dyf]; omega, fun _ => ⟨rfl, rfl⟩⟩, List.Pairwise.nil, fun x hx => by simp [dyf] at hx, by simp only [dyf]; omega, h0, h1⟩
theorem dyf_fire {m : Int} {k : Nat} (la mk li now : Int) : ((dyf m k la mk li).send now 3 0 0).fire = dyf m (k + 1) now now ((k : Int)) := by
  simp only [dyf, Fl.send, Fl.fire]
  congr 1
  · congr 1; omega
  · push_cast; omega
  · push_cast; omega
  · omega
set_option maxHeartbeats 4000000 in
theorem dies_any (w : World) (r at_ : Int) (ha : 0 ≤ at_) : Calls Try.prog 4 #[.int .i64 r, .int .u64 at_] w fun e w' => e = .returned (.bool true) ∧ Below w.heap.size w w' := by
  obtain ⟨m, hm⟩ : ∃ m, m = min (max r 1) 16 := ⟨_, rfl⟩
  have hm1 : 1 ≤ m ∧ m ≤ 16 := by omega
  have em : at_.tmod 1099511627776 = at_ % 1099511627776 := Int.tmod_eq_emod_of_nonneg ha
  have ew : IntKind.u64.wrap (at_ % 1099511627776) = at_ % 1099511627776 := wrapu _ (by omega) (by omega)
  have hN := flownew_any w r
  have ef : Fl.new r = dyf m 1 0 0 0 := by rw [hm]; rfl
  rw [ef] at hN
  clear ef
  go_enter Try.func4, Try.ntmps4
  go_wp2_with (first | (go_at_call 17; refine hN.mono ?_; rintro e w1 ⟨p, b, g, rfl, hF, hp, hb, hg, hbl⟩; have H1 := hid hF; have HB1 := hid hbl; have HP := hid (And.intro hp (And.intro hb hg)); clear hF hbl hp hb hg hN) | (go_at_call 18; refine (awake_any _).mono ?_; rintro e w2 ⟨rfl, hb⟩; have H2 := hid (FlowAt.kept H1.out hb); have HB2 := hid (HB1.out.trans (hb.mono HB1.out.size)); clear hb))
  rw [← hm]
  clear hm em ew H1 HB1
  obtain ⟨w0, hw0⟩ : ∃ w0, w0 = w2 := ⟨_, rfl⟩
  rw [← hw0] at H2 HB2 ⊢
  clear hw0
  have hst : 0 ≤ at_ % 1099511627776 ∧ at_ % 1099511627776 < 1099511627776 := by omega
  generalize at_ % 1099511627776 = n0 at *
  go_loopw [7, 8] (fun s7 s8 wr => ∃ (k : Nat) (now la mk li : Int), 1 ≤ k ∧ (k : Int) ≤ 2 * m + 2 ∧ s8 = .int .i64 k ∧ s7 = .int .u64 now ∧ 0 ≤ now ∧ now ≤ 1099511627776 + (k : Int) * 60000 ∧ 0 ≤ mk ∧ mk ≤ 18446744073709551615 ∧ FlowAt wr p b g (dyf m k la mk li) ∧ Below w.heap.size w wr) (fun _ s _ => 40 - (intOf s).toNat)
  case atStart => exact ⟨1, n0, 0, 0, 0, Nat.le_refl _, by omega, rfl, rfl, hst.1, by omega, by decide, by decide, H2.out, HB2.out⟩
  case round =>
    obtain ⟨k, now, la, mk, li, hk, hk2, rfl, rfl, hn0, hn1, hm0, hmk, hF, hB⟩ := hrel
    have HF := hid hF
    have HBr := hid hB
    clear hF hB H2 HB2 hst
    have e2 : wrap64 (2 * m) = 2 * m := by unfold wrap64; omega
    have e3 : wrap64 (2 * m + 1) = 2 * m + 1 := by unfold wrap64; omega
    by_cases hle : (k : Int) ≤ 2 * m + 1
    · have ok0 := dyf_ok (m := m) hk (la := la) (li := li) hm0 hmk
      have hS := send_any HF.out ok0 (by simp only [dyf]; omega) (by simp [dyf]) now 3 0 0
      have ok1 := ok0.send hn0 (now := now) (by omega) 3 0 0
      have hf1 := dyf_fire (m := m) (k := k) la mk li now
      have hr1 := ok1.est.rto
      have hm1' : ((dyf m k la mk li).send now 3 0 0).mark = now := by simp [dyf, Fl.send]
      have hd1 : ((dyf m k la mk li).send now 3 0 0).due = now + ((dyf m k la mk li).send now 3 0 0).E.rto := by unfold Fl.due; rw [hm1']; omega
      have hl1 : ((dyf m k la mk li).send now 3 0 0).U.length = 1 := by simp [dyf, Fl.send]
      have hst1 : ((dyf m k la mk li).send now 3 0 0).strikes = (k : Int) - 1 := rfl
      have hnx1 : ((dyf m k la mk li).send now 3 0 0).next = (k : Int) - 1 + 1 := rfl
      generalize (dyf m k la mk li).send now 3 0 0 = G at *
      have HG := hid (And.intro ok1 (And.intro hf1 (And.intro hm1' (And.intro hl1 (And.intro hst1 hnx1)))))
      clear ok1 hf1 hm1' hl1 hst1 hnx1 ok0
      go_wp2_with (first | (go_at_call 19; refine hS.mono ?_; rintro e w3 ⟨rfl, hF3, ho3⟩; have H3 := hid hF3; have HB3 := hid (Only.flow_below HBr.out ho3 HP.out.1 HP.out.2.1 HP.out.2.2); clear hF3 ho3 hS))
      obtain ⟨okG, hf1, hmG, hlG, hsG, hxG⟩ := HG.out
      have hD := deadline_some H3.out okG (by omega)
      have hR := frto_any H3.out okG
      rw [hd1] at hD
      have HT1 := hid (fun (W : World) (hb : Below w3.heap.size w3 W) => tick_soon (FlowAt.kept H3.out hb) okG (by omega) (now + G.E.rto - 1) (by omega) (by omega) (by omega))
      have HT2 := hid (fun (W : World) (hb : Below w3.heap.size w3 W) => tick_fires (FlowAt.kept H3.out hb) okG (by omega) (by omega) (by omega) (by omega) (by omega) (now + G.E.rto) (by omega) (by omega) (by omega))
      have HRR := hid (fun (W : World) (hb : Below w3.heap.size w3 W) => frto_any (FlowAt.kept H3.out hb) okG)
      have ew1 : IntKind.u64.wrap (now + G.E.rto) = now + G.E.rto := wrapu _ (by omega) (by omega)
      have ew2 : IntKind.u64.wrap (now + G.E.rto - 1) = now + G.E.rto - 1 := wrapu _ (by omega) (by omega)
      have HB4 := hid (Below.refl w3.heap.size w3)
      clear okG hf1 hmG hlG hsG hxG hd1 hR
      generalize G.E.rto = R at *
      go_wp2_with (first | (go_at_call 20; refine hD.mono ?_; rintro e w4 ⟨rfl, hb⟩; replace HB4 := hid hb; clear hb) | (go_at_call 21; refine (HRR.out _ HB4.out).mono ?_; rintro e w5 ⟨rfl, hb⟩; replace HB4 := hid (HB4.out.trans (hb.mono HB4.out.size)); clear hb HRR))
      refine (HT1.out _ HB4.out).mono ?_
      rintro e w6 ⟨rfl, hb6⟩
      replace HB4 := hid (HB4.out.trans (hb6.mono HB4.out.size))
      clear hb6 HT1
      have hT2 := HT2.out _ HB4.out
      rw [HG.out.2.1] at hT2
      have hl1 := HG.out.2.2.2.1
      clear HT2
      go_wp2_with fail
      refine hT2.mono ?_
      rintro e w7 ⟨v, rfl, hrow, hF7, ho7⟩
      obtain ⟨a, cap, rfl, _⟩ := own_view hrow
      rw [hl1]
      have ok7 := dyf_ok (m := m) (k := k + 1) (by omega) (la := now) (mk := now) (li := (k : Int)) hn0 (by omega)
      have hS7 := strikes_any hF7
      have hD7 := dead_any hF7
      have hG7 := hid (fun (W : World) (hb : Below w7.heap.size w7 W) => gone_any (FlowAt.kept hF7 hb) (by simp only [dyf]; omega) (by simp only [dyf]; omega))
      have hR7 := hid (fun (W : World) (hb : Below w7.heap.size w7 W) => frto_any (FlowAt.kept hF7 hb) ok7)
      have hrr := ok7.est.rto
      have e7 : (dyf m (k + 1) now now (k : Int)).strikes = (k : Int) := by simp only [dyf]; omega
      have e8 : (dyf m (k + 1) now now (k : Int)).retries = m := rfl
      rw [e7] at hS7
      rw [e7, e8] at hD7
      simp only [e7, e8] at hG7
      generalize (dyf m (k + 1) now now (k : Int)).E.rto = R7 at *
      have HF7 := hid hF7
      have HB7 := hid (Only.flow_below (HB3.out.trans (HB4.out.mono HB3.out.size)) ho7 HP.out.1 HP.out.2.1 HP.out.2.2)
      have HBx := hid (Below.refl w7.heap.size w7)
      clear hF7 ho7 hrow e7 e8 ok7 HG hT2 hl1
      go_wp2_with (first | (go_at_call 23; refine hS7.mono ?_; rintro e w8 ⟨rfl, rfl⟩) | (go_at_call 24; refine hD7.mono ?_; rintro e w9 ⟨rfl, hb⟩; replace HBx := hid hb; clear hb) | (go_at_call 25; refine (hG7.out _ HBx.out).mono ?_; rintro e w10 ⟨rfl, hb⟩; replace HBx := hid (HBx.out.trans (hb.mono HBx.out.size)); clear hb) | (go_at_call 21; refine (hR7.out _ HBx.out).mono ?_; rintro e w11 ⟨rfl, hb⟩; replace HBx := hid (HBx.out.trans (hb.mono HBx.out.size)); clear hb))
      go_roundw
      case rel => exact ⟨k + 1, now + R, now, now, (k : Int), by omega, by omega, by go_num, rfl, by omega, by omega, hn0, by omega, FlowAt.kept HF7.out HBx.out, HB7.out.trans (HBx.out.mono HB7.out.size)⟩
      case measure => simp [intOf]; omega
    · have ok0 := dyf_ok (m := m) hk (la := la) (li := li) hm0 hmk
      have hW := wake_any HF.out
      have okw := ok0.wake
      have es : (dyf m k la mk li).wake.strikes = 0 := rfl
      have er : (dyf m k la mk li).wake.retries = m := rfl
      have ee : (dyf m k la mk li).wake.E.rto = 1000 := show (Es.rto ⟨0, 0, 0, false⟩) = 1000 by decide
      have z1 : decide (m < 0) = false := decide_eq_false (by omega)
      have z2 : decide (2 * m < 0) = false := decide_eq_false (by omega)
      generalize (dyf m k la mk li).wake = G at *
      have HBx := hid (Below.refl w.heap.size w)
      go_wp2_with (first | (go_at_call 26; refine hW.mono ?_; rintro e w3 ⟨rfl, hF3, ho3⟩; have HB3 := hid (Only.flow_below HBr.out ho3 HP.out.1 HP.out.2.1 HP.out.2.2); have hS3 := strikes_any hF3; rw [es] at hS3; have hD3 := dead_any hF3; rw [es, er] at hD3; have hG3 := hid (fun (W : World) (hb : Below w3.heap.size w3 W) => gone_any (FlowAt.kept hF3 hb) (by rw [er]; omega) (by rw [er]; omega)); have hR3 := hid (fun (W : World) (hb : Below w3.heap.size w3 W) => frto_any (FlowAt.kept hF3 hb) okw); simp only [es, er] at hG3; rw [ee] at hR3; replace HBx := hid (Below.refl w3.heap.size w3); clear hF3 ho3 hW es er ee okw) | (go_at_call 23; refine hS3.mono ?_; rintro e w8 ⟨rfl, rfl⟩) | (go_at_call 24; refine hD3.mono ?_; rintro e w9 ⟨rfl, hb⟩; replace HBx := hid hb; clear hb) | (go_at_call 25; refine (hG3.out _ HBx.out).mono ?_; rintro e w10 ⟨rfl, hb⟩; replace HBx := hid (HBx.out.trans (hb.mono HBx.out.size)); clear hb) | (go_at_call 21; refine (hR3.out _ HBx.out).mono ?_; rintro e w11 ⟨rfl, hb⟩; replace HBx := hid (HBx.out.trans (hb.mono HBx.out.size)); clear hb))
      go_ret
      exact ⟨rfl, HB3.out.trans (HBx.out.mono HB3.out.size)⟩
end Go.Proofs.Ytbkfmknjbdonlaa
