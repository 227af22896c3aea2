import Derived.Test.YtkhogbnoincbeaaREnc
namespace Go.Proofs.Ytkhogbnoincbeaa
open Go.RowKit Go.Maps Go.Sort
set_option maxRecDepth 100000

theorem own_some {w : World} {base : Nat} {v : Value} {l : List (BitVec 8)} (h : OwnBy w base v l) (hl : 0 < l.length) : ∃ g cap, v = .slice (some ⟨g, 0, none⟩) l.length cap ∧ base ≤ g ∧ l.length ≤ cap ∧ cap ≤ maxLen ∧ BytesAt w (some ⟨g, 0, none⟩) l := by
  obtain ⟨a, cap, rfl, hB, h1, h2, h3, h4⟩ := ownBy_shape h
  obtain ⟨g, o, rfl, _⟩ := hB 0 hl
  obtain ⟨h5, rfl, _⟩ := h4 g o rfl
  exact ⟨g, cap, rfl, h5, h1, h2, hB⟩
theorem BytesAt.take {w : World} {a : Option Addr} {l m : List (BitVec 8)} (h : BytesAt w a (l ++ m)) : BytesAt w a l := fun k hk => by
  obtain ⟨g, o, e, c⟩ := h k (by simp; omega)
  exact ⟨g, o, e, by rw [c, List.getElem_append_left hk]⟩
theorem psame_yes {w : World} {a a' : Option Addr} {n n' c c' : Nat} {bs : List (BitVec 8)} (hx : BytesAt w a bs) (hn : bs.length = n) (hy : BytesAt w a' bs) (hn' : bs.length = n') :
    Calls Try.prog 12 #[.slice a n c, .slice a' n' c'] w fun e w' => e = .returned (.bool true) ∧ w' = w := by
  refine (psame_any hx hn hy hn').mono ?_
  rintro e w' ⟨rfl, rfl⟩
  exact ⟨by simp, rfl⟩
theorem own_frozen {w : World} {base : Nat} {v : Value} {l : List (BitVec 8)} {g n cap : Nat} (h : w.ownsRow base 5 1 v n (bcells l)) (e : v = .slice (some ⟨g, 0, none⟩) n cap) (i : Nat) : w.frozen? ⟨g, i, none⟩ = false := by
  rcases h.2 with ⟨h1, _⟩ | ⟨g', cap', cur, h1, _, h2, _⟩
  · rw [e] at h1; simp at h1
  · rw [e] at h1
    simp at h1
    obtain ⟨rfl, rfl⟩ := h1
    simp [World.frozen?, h2]
theorem own_cell {w : World} {base g n cap : Nat} {l : List (BitVec 8)} (h : w.ownsRow base 5 1 (.slice (some ⟨g, 0, none⟩) n cap) n (bcells l)) (hl : l.length = n) (i : Nat) (hi : i < n) : ∃ x : BitVec 8, w.cell? ⟨g, i, none⟩ = some (.int .u8 (ub x)) := by
  subst hl
  obtain ⟨a', c', e, h1, _⟩ := ownBy_shape h
  injection e with e1 e2 e3
  subst e1
  obtain ⟨g1, o1, e1, c1⟩ := h1 i hi
  cases e1
  rw [Nat.zero_add] at c1
  exact ⟨_, c1⟩
/-- A row of bytes whose contents do not matter. -/
def AnyRow (w : World) (base g n cap : Nat) : Prop := ∃ l : List (BitVec 8), l.length = n ∧ w.ownsRow base 5 1 (.slice (some ⟨g, 0, none⟩) n cap) n (bcells l)
theorem AnyRow.put {w : World} {base g n cap : Nat} (h : AnyRow w base g n cap) (i : Nat) (x : BitVec 8) (v : Value) (hv : v = .int .u8 (ub x)) : AnyRow (w.setCell ⟨g, i, none⟩ v) base g n cap ∧ w.grownBy (w.setCell ⟨g, i, none⟩ v) (some g) := by
  obtain ⟨l, hl, ho⟩ := h
  subst hv
  obtain ⟨h2, hg⟩ := ho.stored i (.int .u8 (ub x))
  rw [bcells_set] at h2
  exact ⟨⟨l.set i x, by rw [List.length_set]; exact hl, h2⟩, hg⟩
theorem AnyRow.cell {w : World} {base g n cap : Nat} (h : AnyRow w base g n cap) (i : Nat) (hi : i < n) : (∃ x : BitVec 8, w.cell? ⟨g, i, none⟩ = some (.int .u8 (ub x))) ∧ w.frozen? ⟨g, i, none⟩ = false := by
  obtain ⟨l, hl, ho⟩ := h
  exact ⟨own_cell ho hl i hi, own_frozen ho rfl i⟩
theorem grown_fr {w w' : World} {g : Nat} (h : w.grownBy w' (some g)) : Fr (fun x => x = g) w w' := Fr.of_grown h (fun k hk => by simp at hk; exact .inl hk.symm)
theorem BytesAt.fr {S : Nat → Prop} {w w' : World} {a : Option Addr} {bs : List (BitVec 8)} (h : BytesAt w a bs) (hf : Fr S w w') (hS : ∀ g o, a = some ⟨g, o, none⟩ → ¬ S g) : BytesAt w' a bs :=
  fun k hk => by obtain ⟨g, o, e, c⟩ := h k hk; exact ⟨g, o, e, hf.cell c (hS g o e)⟩
set_option maxHeartbeats 4000000 in
theorem writes_law (w : World) (k s n c h : Int) (a : Option Addr) (bs : List (BitVec 8)) (L cap : Nat) (hB : BytesAt w a bs) (hL : bs.length = L) (hz : a = none → cap = 0) (hs0 : 0 ≤ s) (hn0 : 0 ≤ n) (hl : L ≤ 140737488351232) :
    Calls Try.prog 3 #[.agg #[.int .i64 k, .int .u64 s, .int .u64 n, .int .i64 c, .int .i64 h, .slice a L cap]] w fun e w' => e = .returned (.bool true) ∧ Below w.heap.size w w' := by
  have HX := hid (below_new w (.cells #[.int .i64 k, .int .u64 s, .int .u64 n, .int .i64 c, .int .i64 h, .slice a L cap] 25))
  have HQ := hid (fat_new w k s n c h (.slice a L cap))
  have HCP := hid (copy_any (cap := cap) (hB.kept HX.out) hL hz (by omega))
  have HBY := hid hB
  have HLEN := hid hL
  have HZ := hid hz
  have HL2 := hid hl
  have HSZ : Hid ((w.alloc (.cells #[.int .i64 k, .int .u64 s, .int .u64 n, .int .i64 c, .int .i64 h, .slice a L cap] 25)).heap.size = w.heap.size + 1) := by simp [Hid]
  clear hB hL hz hl
  go_enter Try.func3, Try.ntmps3
  go_upto_region 2 with (first | (go_at_call 9; refine HCP.out.mono ?_; rintro e w1 ⟨v1, rfl, ho1, hb1⟩; rw [HSZ.out] at ho1; have H1 := hid (LS.mk (HQ.out.kept hb1) ho1 (HX.out.trans (hb1.mono HX.out.size)) (by have := hb1.size; rw [HSZ.out] at this; exact this)); clear ho1 hb1) | (at_builtin; refine wpAppendA (.tmp 14) (.tmp 15) rfl rfl (base := w.heap.size + 1) rfl (own_below H1.out.o (below_new _ _)) (by have := H1.out.z; simp; omega) rfl (fun e => by cases e) (bs := [165#8, 90#8]) rfl (bytes_two _ _ _ 165#8 90#8 rfl rfl) (by have := HLEN.out; have := HL2.out; omega) ?_; intro w2 v2 h5 g5; have H2 := hid (H1.out.grow (below_new _ _) (own_one h5.out rfl rfl) g5.out); clear h5 g5))
  obtain ⟨g, cp, hv, hg1, hc1, hc2, hb2⟩ := own_some H2.out.o (by simp)
  rw [List.length_append, HLEN.out] at hv hc1
  simp only [List.length_cons, List.length_nil] at hv hc1
  subst hv
  obtain ⟨p0, p1, p2, p3, p4, p5⟩ := H2.out.f
  have HG1 := hid hg1
  have HC1 := hid hc1
  have HC2 := hid hc2
  have HB2 := hid hb2
  clear hg1 hc1 hc2 hb2 H1 HCP HQ HX
  obtain ⟨M, hM⟩ : ∃ M, M = L + (0 + 1 + 1) := ⟨_, rfl⟩
  rw [← hM] at HC1
  rw [← hM] at H2 ⊢
  have HM : Hid (M = L + 2) := by rw [hM]; rfl
  clear hM
  have q1 : (L : Int) ≤ (cp : Int) := by have := HC1.out; have := HM.out; omega
  go_upto_region 5 with (fail)
  obtain ⟨w3, hw3⟩ : ∃ w3, w3 = w2.alloc (.cells #[.int .i64 k, .int .u64 s, .int .u64 n, .int .i64 c, .int .i64 h, .slice (some ⟨g, 0, none⟩) L cp] 25) := ⟨_, rfl⟩
  rw [← hw3]
  have hb3 := below_new w2 (.cells #[.int .i64 k, .int .u64 s, .int .u64 n, .int .i64 c, .int .i64 h, .slice (some ⟨g, 0, none⟩) L cp] 25)
  have hf3 := fat_new w2 k s n c h (.slice (some ⟨g, 0, none⟩) L cp)
  rw [← hw3] at hb3 hf3
  have F3 := hid (H2.out.f.kept hb3)
  have G3 := hid hf3
  have HO3 := hid (own_below H2.out.o hb3)
  have HL3 := hid (HB2.out.kept hb3)
  have HW3 := hid (H2.out.b.trans (hb3.mono H2.out.b.size))
  have HGL : Hid (g < w3.heap.size) := own_lt HO3.out rfl
  have HB23 := hid hb3.size
  clear hw3 hb3 hf3 p0 p1 p2 p3 p4 p5 H2 HB2
  obtain ⟨p0, p1, p2, p3, p4, p5⟩ := F3.out
  obtain ⟨q0, q1, q2, q3, q4, q5⟩ := G3.out
  have HE := hid (encode_any w3 k s n c h (some ⟨g, 0, none⟩) bs L cp HL3.out.take HLEN.out (fun e => by cases e) hs0 hn0)
  have HRE : Hid (∀ W, Below w3.heap.size w3 W → Calls Try.prog 11 #[.agg #[.int .i64 k, .int .u64 s, .int .u64 n, .int .i64 c, .int .i64 h, .slice a L cap]] W (EncAns W k s n c h bs)) := fun W hb => rencode_any W k s n c h a bs L cap ((HBY.out.kept HW3.out).kept hb) HLEN.out HZ.out hs0 hn0
  have HFI : Hid (∀ W, Calls Try.prog 13 #[.agg #[.int .i64 k, .int .u64 s, .int .u64 n, .int .i64 c, .int .i64 h, .slice (some ⟨g, 0, none⟩) L cp]] W fun e w' => e = .returned (.bool (faultI k s n c h bs.length == 0)) ∧ Below W.heap.size W w') := fun W => by
    refine (fit_any W k s n c h (some ⟨g, 0, none⟩) L cp).mono ?_
    rintro e w' ⟨rfl, hb⟩
    refine ⟨?_, hb⟩
    rw [HLEN.out]
    by_cases e : faultI k s n c h L = 0 <;> simp [e]
  have HSA : Hid (∀ W, Below w3.heap.size w3 W → Calls Try.prog 14 #[.agg #[.int .i64 k, .int .u64 s, .int .u64 n, .int .i64 c, .int .i64 h, .slice a L cap], .agg #[.int .i64 k, .int .u64 s, .int .u64 n, .int .i64 c, .int .i64 h, .slice (some ⟨g, 0, none⟩) L cp]] W fun e w' => e = .returned (.bool true) ∧ Below W.heap.size W w') := fun W hb => by
    refine (rsame_any W k s n c h k s n c h a (some ⟨g, 0, none⟩) bs bs L L cap cp ((HBY.out.kept HW3.out).kept hb) HLEN.out (HL3.out.take.kept hb) HLEN.out).mono ?_
    rintro e w' ⟨rfl, hb⟩
    exact ⟨by rw [decide_eq_true ⟨rfl, rfl, rfl, rfl, rfl, rfl⟩], hb⟩
  have HRD : Hid (∀ W, Below w3.heap.size w3 W → W.cell? ⟨g, L, none⟩ = some (.int .u8 165) ∧ W.cell? ⟨g, L + 1, none⟩ = some (.int .u8 90)) := fun W hb => by
    have hk := HL3.out.kept hb
    obtain ⟨g1, o1, e1, c1⟩ := hk L (by simp; have := HLEN.out; omega)
    obtain ⟨g2, o2, e2, c2⟩ := hk (L + 1) (by simp; have := HLEN.out; omega)
    cases e1
    cases e2
    rw [Nat.zero_add] at c1 c2
    refine ⟨?_, ?_⟩
    · rw [c1, List.getElem_append_right (by rw [HLEN.out]; omega)]
      simp [HLEN.out, ub]
    · rw [c2, List.getElem_append_right (by rw [HLEN.out]; omega)]
      simp [HLEN.out, ub]
  go_upto_region 7 with (first | (go_at_call 10; refine HE.out.mono ?_; rintro e w4 ⟨v4, rfl, ho4, hb4⟩; obtain ⟨a4, c4, rfl, -⟩ := ownBy_shape ho4; have HO4 := hid ho4; have HB4 := hid hb4; obtain ⟨p0, p1, p2, p3, p4, p5⟩ := F3.out.kept hb4; obtain ⟨q0, q1, q2, q3, q4, q5⟩ := G3.out.kept hb4; clear ho4 hb4) | (go_at_call 11; refine (HRE.out _ HB4.out).mono ?_; rintro e w5 ⟨v5, rfl, ho5, hb5⟩; obtain ⟨a5, c5, rfl, -⟩ := ownBy_shape ho5; have HO5 := hid ho5; have HB45 := hid hb5; have HB5 := hid (HB4.out.trans (hb5.mono HB4.out.size)); obtain ⟨p0, p1, p2, p3, p4, p5⟩ := F3.out.kept HB5.out; obtain ⟨q0, q1, q2, q3, q4, q5⟩ := G3.out.kept HB5.out; clear ho5 hb5))
  have HA4 : Hid (BytesAt w5 a4 (encO k s n c h bs) ∧ ∀ g o, a4 = some ⟨g, o, none⟩ → w3.heap.size ≤ g) := by
    obtain ⟨a', c', e, h1, _, _, _, h2⟩ := ownBy_shape (own_below HO4.out HB45.out)
    injection e with e1 e2 e3
    subst e1
    exact ⟨h1, fun g o hh => (h2 g o hh).1⟩
  have HA5 : Hid (BytesAt w5 a5 (encO k s n c h bs) ∧ ∀ g o, a5 = some ⟨g, o, none⟩ → w3.heap.size ≤ g) := by
    obtain ⟨a', c', e, h1, _, _, _, h2⟩ := ownBy_shape HO5.out
    injection e with e1 e2 e3
    subst e1
    exact ⟨h1, fun g o hh => Nat.le_trans HB4.out.size (h2 g o hh).1⟩
  generalize hN : (encO k s n c h bs).length = N at *
  have HNN := hid hN
  clear hN
  generalize faultI k s n c h bs.length = x at *
  have r1 : (L : Int) < (M : Int) := by have := HM.out; omega
  have r2 : (L : Int) + 1 < (M : Int) := by have := HM.out; omega
  have r3 : IntKind.i64.wrap ((L : Int) + 1) = (L : Int) + 1 := by have := HL2.out; rw [IntKind.wrap_i64]; omega
  have r4 : wrap64 ((L : Int) + 1) = (L : Int) + 1 := by have := HL2.out; unfold wrap64; omega
  go_upto_region 8 with (first | (go_at_call 12; refine (psame_yes HA4.out.1 HNN.out HA5.out.1 HNN.out).mono ?_; rintro e w' ⟨rfl, rfl⟩) | (go_at_call 13; refine (HFI.out _).mono ?_; rintro e w6 ⟨rfl, hb6⟩; have HB56 := hid hb6; have HB6 := hid (HB5.out.trans (hb6.mono HB5.out.size)); obtain ⟨p0, p1, p2, p3, p4, p5⟩ := F3.out.kept HB6.out; obtain ⟨q0, q1, q2, q3, q4, q5⟩ := G3.out.kept HB6.out; clear hb6) | (go_at_call 14; refine (HSA.out _ HB6.out).mono ?_; rintro e w7 ⟨rfl, hb7⟩; have HB57 := hid (HB56.out.trans (hb7.mono HB56.out.size)); have HB7 := hid (HB6.out.trans (hb7.mono HB6.out.size)); obtain ⟨t1, t2⟩ := HRD.out _ HB7.out; clear hb7))
  have HO7 : Hid (AnyRow w7 (w.heap.size + 1) g M cp) := by
    refine ⟨bs ++ [165#8, 90#8], by simp [HLEN.out, HM.out], ?_⟩
    have := own_below HO3.out HB7.out
    rw [List.length_append, HLEN.out, show L + [165#8, 90#8].length = M by rw [HM.out]; rfl] at this
    exact this
  have HW7 := hid (HW3.out.trans (HB7.out.mono HW3.out.size))
  have HGG : Hid (∀ gx o, a4 = some ⟨gx, o, none⟩ ∨ a5 = some ⟨gx, o, none⟩ → ¬ gx = g) := fun gx o hh => by
    have := HGL.out
    rcases hh with hh | hh
    · have := HA4.out.2 gx o hh; omega
    · have := HA5.out.2 gx o hh; omega
  have HA47 := hid (HA4.out.1.kept HB57.out)
  have HA57 := hid (HA5.out.1.kept HB57.out)
  clear HE HRE HFI HSA HRD F3 G3 HO3 HL3 HO4 HO5 HB4 HB45 HB5 HB56 HB6 HB7 HB57 HA4 HA5
  clear t1 t2 r1 r2 r3 r4
  go_wp2_with fail
  go_loopw [72] (fun s72 wr => ∃ i : Nat, i ≤ M ∧ s72 = .int .i64 i ∧ Hid (AnyRow wr (w.heap.size + 1) g M cp) ∧ Hid (Fr (fun x => x = g) w7 wr)) (fun s _ => M - (intOf s).toNat)
  case atStart => exact ⟨0, Nat.zero_le _, rfl, HO7, Fr.refl _ _⟩
  case round =>
    obtain ⟨i, hi, rfl, HOI, HFI⟩ := hrel
    by_cases hlt : i < M
    · as_aux_lemma =>
        have hlt2 : (i : Int) < (M : Int) := by omega
        have hi0 : (0 : Int) ≤ (i : Int) := by omega
        have r3 : wrap64 ((i : Int) + 1) = (i : Int) + 1 := by have := HL2.out; have := HM.out; unfold wrap64; omega
        obtain ⟨⟨x0, hc⟩, hfz⟩ := HOI.out.cell i hlt
        have HST := hid (HOI.out.put i 49#8 (.int .u8 49) rfl)
        clear HOI
        go_wp2_with fail
        go_roundw
        case rel =>
          rw [r3]
          exact ⟨i + 1, hlt, by go_num, HST.out.1, HFI.out.trans (grown_fr HST.out.2) (fun x hx => .inl hx)⟩
        case measure =>
          rw [r3]
          show M - ((i : Int) + 1).toNat < M - ((i : Int)).toNat
          omega
    · as_aux_lemma =>
        have hlt2 : ¬ (i : Int) < (M : Int) := by omega
        have HA48 := hid (HA47.out.fr HFI.out (fun gx o e => HGG.out gx o (.inl e)))
        have HA58 := hid (HA57.out.fr HFI.out (fun gx o e => HGG.out gx o (.inr e)))
        go_wp2_with (go_at_call 12; refine (psame_yes HA48.out HNN.out HA58.out HNN.out).mono ?_; rintro e w' ⟨rfl, rfl⟩)
        go_ret
        exact ⟨rfl, HW7.out.trans (HFI.out.below (fun x hx => by have := HG1.out; omega) HW7.out.size)⟩
end Go.Proofs.Ytkhogbnoincbeaa
