import Derived.Test.YtnohammflhadpaaSb6
namespace Go.Proofs.Ytnohammflhadpaa
open Go.RowKit Go.Maps Go.Sort
set_option maxRecDepth 100000

def Sb.mayOn (F : Sb) (c : Ck) (b : Int) : Bool := !(b == 0) && c.free b && F.mayGo c
set_option maxHeartbeats 2000000 in
theorem mayOn_any {w : World} {p : Nat} {F : Sb} {a : Option Addr} {cap : Nat} (h : SbR w p F a cap) {k : Nat} (hk : k < F.L.length) {g o : Nat} (ha : a = some ⟨g, o, none⟩) (b : Int) :
    Calls Try.prog 42 #[.pointer (some ⟨p, 0, none⟩), .pointer (some ⟨g, o + k * 6, none⟩), .int .u8 b] w fun e w' => e = .returned (.bool (F.mayOn F.L[k] b)) ∧ Below w.heap.size w w' := by
  obtain ⟨g', o', e, hC⟩ := h.ck.ckc hk
  rw [ha] at e
  cases e
  have q3 := hC.q3
  have q5 := hC.q5
  have HM := hid (mayGo_any h hk ha)
  clear h
  by_cases hb : b = 0
  · have HE : Hid (F.mayOn F.L[k] b = false) := by show _ = _; unfold Sb.mayOn; simp [hb]
    subst hb
    go_enter Try.func42, Try.ntmps42
    go_wp2
    go_ret
    exact ⟨by rw [HE.out]; rfl, Below.refl _ _⟩
  · have hbn : (b != 0) = true := by simpa using hb
    cases hh : F.L[k].held with
    | true =>
      have HE : Hid (F.mayOn F.L[k] b = false) := by show _ = _; unfold Sb.mayOn Ck.free; simp [hh]
      rw [hh] at q5
      clear hh
      go_enter Try.func42, Try.ntmps42
      go_wp2
      all_goals go_ret
      all_goals exact ⟨by rw [HE.out]; first | rfl | simp, Below.refl _ _⟩
    | false =>
      rw [hh] at q5
      generalize hbb : bits BinOp.and IntKind.u8 F.L[k].on b = bb at *
      by_cases hz : bb = 0
      · have HE : Hid (F.mayOn F.L[k] b = F.mayGo F.L[k]) := by show _ = _; unfold Sb.mayOn Ck.free; simp [hh, hb, hbb, hz]
        subst hz
        clear hh
        generalize F.mayGo F.L[k] = mg at *
        go_enter Try.func42, Try.ntmps42
        go_wp2_with (go_at_call 68; refine HM.out.mono ?_; rintro e w1 ⟨rfl, hb1⟩; have HB1 := hid hb1; clear hb1)
        go_ret
        exact ⟨by rw [HE.out]; first | rfl | simp [hbn], HB1.out⟩
      · have HE : Hid (F.mayOn F.L[k] b = false) := by show _ = _; unfold Sb.mayOn Ck.free; simp [hh, hbb, hz]
        clear hh
        go_enter Try.func42, Try.ntmps42
        go_wp2
        go_ret
        exact ⟨by rw [HE.out]; first | rfl | simp, Below.refl _ _⟩
/-- A chunk at an offset. -/
theorem SbR.find_eq {w : World} {p : Nat} {F : Sb} {a : Option Addr} {cap : Nat} (h : SbR w p F a cap) {off : Int} {k j : Nat} (hk : F.find off k) (hj : F.find off j) : k = j := by
  obtain ⟨k1, k2⟩ := hk
  obtain ⟨j1, j2⟩ := hj
  rcases Nat.lt_trichotomy k j with c | c | c
  · have := List.pairwise_iff_getElem.1 h.ok.so k j k1 j1 c; omega
  · exact c
  · have := List.pairwise_iff_getElem.1 h.ok.so j k j1 k1 c; omega
theorem at_none {w : World} {p : Nat} {F : Sb} {a : Option Addr} {cap : Nat} (h : SbR w p F a cap) (off : Int) (hn : ∀ k, ¬ F.find off k) : Calls Try.prog 40 #[.pointer (some ⟨p, 0, none⟩), .int .u64 off] w fun e w' => e = .returned (.pointer none) ∧ Below w.heap.size w w' := by
  refine (at_any h off).mono ?_
  rintro e w' ⟨hb, ⟨rfl, _⟩ | ⟨g, o, k, _, _, hk⟩⟩
  · exact ⟨rfl, hb⟩
  · exact absurd hk (hn k)
theorem at_some {w : World} {p : Nat} {F : Sb} {g o cap : Nat} (h : SbR w p F (some ⟨g, o, none⟩) cap) {off : Int} {k : Nat} (hk : F.find off k) : Calls Try.prog 40 #[.pointer (some ⟨p, 0, none⟩), .int .u64 off] w fun e w' => e = .returned (.pointer (some ⟨g, o + k * 6, none⟩)) ∧ Below w.heap.size w w' := by
  refine (at_any h off).mono ?_
  rintro e w' ⟨hb, ⟨rfl, hn⟩ | ⟨g', o', k', ha, rfl, hk'⟩⟩
  · exact absurd hk (hn k)
  · cases ha
    obtain rfl := h.find_eq hk hk'
    exact ⟨rfl, hb⟩
set_option maxHeartbeats 2000000 in
theorem may_none {w : World} {p : Nat} {F : Sb} {a : Option Addr} {cap : Nat} (h : SbR w p F a cap) (x off n : Int) (hn : ∀ k, ¬ F.find off k) :
    Calls Try.prog 24 #[.pointer (some ⟨p, 0, none⟩), .int .i64 x, .int .u64 off, .int .i64 n] w fun e w' => e = .returned (.bool false) ∧ Below w.heap.size w w' := by
  have HA := hid (at_none h off hn)
  clear h hn
  go_enter Try.func24, Try.ntmps24
  go_wp2_with (go_at_call 40; refine HA.out.mono ?_; rintro e w1 ⟨rfl, hb1⟩; have HB1 := hid hb1; clear hb1)
  go_ret
  exact ⟨rfl, HB1.out⟩
set_option maxHeartbeats 2000000 in
theorem may_some {w : World} {p : Nat} {F : Sb} {g o cap : Nat} (h : SbR w p F (some ⟨g, o, none⟩) cap) (x : Int) {off : Int} (n : Int) {k : Nat} (hk : k < F.L.length) (he : F.L[k].off = off) :
    Calls Try.prog 24 #[.pointer (some ⟨p, 0, none⟩), .int .i64 x, .int .u64 off, .int .i64 n] w fun e w' => e = .returned (.bool (decide ((F.L[k].bs.length : Int) = n) && F.mayOn F.L[k] (bit x))) ∧ Below w.heap.size w w' := by
  have HA := hid (at_some h ⟨hk, he⟩)
  have HO := fun w => hid (only_any w x)
  have Q1 : Hid (∀ w1, Below w.heap.size w w1 → w1.cell? ⟨g, o + k * 6 + 1, none⟩ = some (.slice F.L[k].a F.L[k].bs.length F.L[k].cap) ∧ ∀ b, Calls Try.prog 42 #[.pointer (some ⟨p, 0, none⟩), .pointer (some ⟨g, o + k * 6, none⟩), .int .u8 b] w1 fun e w' => e = .returned (.bool (F.mayOn F.L[k] b)) ∧ Below w1.heap.size w1 w') := fun w1 hb => by
    obtain ⟨g', o', e, hC⟩ := (h.kept hb).ck.ckc hk
    cases e
    exact ⟨hC.q1, fun b => mayOn_any (h.kept hb) hk rfl b⟩
  have hnl : (F.L[k].bs.length : Int) ≤ 65536 := by have := (h.ok.ck _ (List.getElem_mem hk)).cap; have := (h.ok.ck _ (List.getElem_mem hk)).capm; omega
  clear h he
  generalize F.L[k].bs.length = ln at *
  generalize bit x = bi at *
  by_cases hz : (ln : Int) = n
  · subst hz
    go_enter Try.func24, Try.ntmps24
    go_wp2_with (first | (go_at_call 40; refine HA.out.mono ?_; rintro e w1 ⟨rfl, hb1⟩; obtain ⟨r1, hm⟩ := Q1.out w1 hb1; have HM := hid hm; have HB1 := hid hb1; clear hb1 hm) | (go_at_call 41; refine (HO _).out.mono ?_; rintro e w2 ⟨rfl, rfl⟩) | (go_at_call 42; refine (HM.out _).mono ?_; rintro e w3 ⟨rfl, hb3⟩; have HB3 := hid hb3; clear hb3))
    go_ret
    exact ⟨by first | rfl | simp, HB1.out.trans (HB3.out.mono HB1.out.size)⟩
  · go_enter Try.func24, Try.ntmps24
    go_wp2_with (first | (go_at_call 40; refine HA.out.mono ?_; rintro e w1 ⟨rfl, hb1⟩; obtain ⟨r1, hm⟩ := Q1.out w1 hb1; have HM := hid hm; have HB1 := hid hb1; clear hb1 hm))
    go_ret
    exact ⟨by simp [hz], HB1.out⟩
end Go.Proofs.Ytnohammflhadpaa
