import Derived.Test.YtnohammflhadpaaSb9
namespace Go.Proofs.Ytnohammflhadpaa
open Go.RowKit Go.Maps Go.Sort
set_option maxRecDepth 100000

theorem frozen_row {w : World} {g : Nat} {arr : Array Value} {t : TypeId} (hg : w.heap[g]? = some (.cells arr t (0, 0))) (j : Nat) : w.frozen? ⟨g, j, none⟩ = false := by simp [World.frozen?, hg]
theorem SbW.fro {w : World} {p : Nat} {F : Sb} {g o cap : Nat} (h : SbW w p F (some ⟨g, o, none⟩) cap) {k : Nat} (hk : k < F.L.length) (j : Nat) : w.frozen? ⟨g, j, none⟩ = false := by
  obtain ⟨g', o', arr, e, hg, _⟩ := h.blk hk
  cases e
  exact frozen_row hg j
set_option maxHeartbeats 2000000 in
theorem sent_none {w : World} {p : Nat} {F : Sb} {a : Option Addr} {cap : Nat} (h : SbR w p F a cap) (x off : Int) (hn : ∀ k, ¬ F.find off k) :
    Calls Try.prog 17 #[.pointer (some ⟨p, 0, none⟩), .int .i64 x, .int .u64 off] w fun e w' => e = .returned (.bool false) ∧ Below w.heap.size w w' := by
  have HA := hid (at_none h off hn)
  have HO := fun w => hid (only_any w x)
  clear h hn
  go_enter Try.func17, Try.ntmps17
  go_wp2_with (first | (go_at_call 40; refine HA.out.mono ?_; rintro e w1 ⟨rfl, hb1⟩; have HB1 := hid hb1; clear hb1) | (go_at_call 41; refine (HO _).out.mono ?_; rintro e w2 ⟨rfl, rfl⟩))
  go_ret
  exact ⟨rfl, HB1.out⟩
set_option maxHeartbeats 2000000 in
theorem sent_off {w : World} {p : Nat} {F : Sb} {g o cap : Nat} (h : SbR w p F (some ⟨g, o, none⟩) cap) (x : Int) {off : Int} {k : Nat} (hk : k < F.L.length) (he : F.L[k].off = off) (hz : F.mayOn F.L[k] (bit x) = false) :
    Calls Try.prog 17 #[.pointer (some ⟨p, 0, none⟩), .int .i64 x, .int .u64 off] w fun e w' => e = .returned (.bool false) ∧ Below w.heap.size w w' := by
  have HA := hid (at_some h ⟨hk, he⟩)
  have HO := fun w => hid (only_any w x)
  have HM : Hid (∀ w1, Below w.heap.size w w1 → Calls Try.prog 42 #[.pointer (some ⟨p, 0, none⟩), .pointer (some ⟨g, o + k * 6, none⟩), .int .u8 (bit x)] w1 fun e w' => e = .returned (.bool false) ∧ Below w1.heap.size w1 w') := fun w1 hb => by rw [← hz]; exact mayOn_any (h.kept hb) hk rfl (bit x)
  clear h he hz
  go_enter Try.func17, Try.ntmps17
  go_wp2_with (first | (go_at_call 40; refine HA.out.mono ?_; rintro e w1 ⟨rfl, hb1⟩; have HM1 := hid (HM.out w1 hb1); have HB1 := hid hb1; clear hb1) | (go_at_call 41; refine (HO _).out.mono ?_; rintro e w2 ⟨rfl, rfl⟩) | (go_at_call 42; refine HM1.out.mono ?_; rintro e w3 ⟨rfl, hb3⟩; have HB3 := hid hb3; clear hb3))
  go_ret
  exact ⟨rfl, HB1.out.trans (HB3.out.mono HB1.out.size)⟩
/-- A field of the buffer is another one; the chunks stay. -/
theorem SbW.field {w : World} {p : Nat} {F G : Sb} {a : Option Addr} {cap : Nat} (h : SbW w p F a cap) {j : Nat} {v : Value} (hL : G.L = F.L) (hc : G.cells (.slice a F.L.length cap) = (F.cells (.slice a F.L.length cap)).set j v) (ok : G.Ok) :
    SbW (w.setCell ⟨p, j, none⟩ v) p G a cap ∧ Fr (fun x => x = p) w (w.setCell ⟨p, j, none⟩ v) := by
  have hfr : Fr (fun x => x = p) w (w.setCell ⟨p, j, none⟩ v) := ⟨rfl, rfl, rfl, by simp [World.setCell], fun x hx hn => Below.heap_setCell w _ v x hn⟩
  have hne : ∀ g o, a = some ⟨g, o, none⟩ → F.L ≠ [] → g ≠ p := fun g o e hn => by
    obtain ⟨g', o', arr, e', hg, _, hp⟩ := h.blk (k := 0) (List.length_pos_iff.2 hn)
    rw [e] at e'
    cases e'
    exact hp
  refine ⟨⟨⟨?_, ?_, ?_, ok, by rw [hL]; exact h.r.lc, h.r.cm⟩, ?_, by rw [hL]; exact h.ap⟩, hfr⟩
  · rw [hL, hc]
    exact h.r.row.set j v
  · rw [hL]
    intro k hk
    obtain ⟨g, o, e, q⟩ := h.r.ck k hk
    exact ⟨g, o, e, fun i u hu => hfr.cell (q i u hu) (fun e2 => hne g o e (fun e3 => by rw [e3] at hk; simp at hk) e2)⟩
  · rw [hL]
    intro c hc' i hi
    obtain ⟨g, o, e, q⟩ := h.r.by_ c hc' i hi
    exact ⟨g, o, e, hfr.cell q (fun e2 => (h.ap c hc' g o e).1 e2)⟩
  · rcases h.own with e | ⟨g, o, arr, e, hg, hs⟩
    · exact .inl e
    · refine .inr ⟨g, o, arr, e, ?_, hs⟩
      rw [hfr.block g (Array.getElem?_eq_some_iff.1 hg).1 (fun e2 => ?_)]
      · exact hg
      · subst e2
        have := h.r.row.at_.symm.trans hg
        simp at this
/-- A chunk that goes out. -/
def Ck.on1 (c : Ck) (b : Int) : Ck := { c with on := bits BinOp.or IntKind.u8 c.on b }
def Ck.go (c : Ck) (b : Int) : Ck := { c.on1 b with out := true }
def Sb.sent (F : Sb) (k : Nat) (c : Ck) (b : Int) : Sb := { F.put k (c.go b) with high := max F.high (c.off + c.bs.length) }
set_option maxHeartbeats 4000000 in
theorem sent_on {w : World} {p : Nat} {F : Sb} {g o cap : Nat} (h : SbW w p F (some ⟨g, o, none⟩) cap) (x : Int) {off : Int} {k : Nat} (hk : k < F.L.length) (he : F.L[k].off = off) (hz : F.mayOn F.L[k] (bit x) = true) :
    Calls Try.prog 17 #[.pointer (some ⟨p, 0, none⟩), .int .i64 x, .int .u64 off] w fun e w' => e = .returned (.bool true) ∧ SbW w' p (F.sent k F.L[k] (bit x)) (some ⟨g, o, none⟩) cap ∧ Fr (fun y => y = g ∨ y = p) w w' := by
  have HA := hid (at_some h.r ⟨hk, he⟩)
  have HO := fun w => hid (only_any w x)
  have HM : Hid (∀ w1, Below w.heap.size w w1 → Calls Try.prog 42 #[.pointer (some ⟨p, 0, none⟩), .pointer (some ⟨g, o + k * 6, none⟩), .int .u8 (bit x)] w1 fun e w' => e = .returned (.bool true) ∧ Below w1.heap.size w1 w') := fun w1 hb => by rw [← hz]; exact mayOn_any (h.r.kept hb) hk rfl (bit x)
  have H := hid h
  have HC := hid (h.r.ok.ck _ (List.getElem_mem hk))
  have hh1 := h.r.ok.h1
  have hh0 := h.r.ok.h0
  have he1 := h.r.ok.e1
  clear h he hz
  go_enter Try.func17, Try.ntmps17
  go_upto_region 4 with (first | (go_at_call 40; refine HA.out.mono ?_; rintro e w1 ⟨rfl, hb1⟩; have HM1 := hid (HM.out w1 hb1); have HB1 := hid hb1; clear hb1) | (go_at_call 41; refine (HO _).out.mono ?_; rintro e w2 ⟨rfl, rfl⟩) | (go_at_call 42; refine HM1.out.mono ?_; rintro e w3 ⟨rfl, hb3⟩; have HB3 := hid hb3; clear hb3))
  have HB4 : Hid (Below w.heap.size w w3) := HB1.out.trans (HB3.out.mono HB1.out.size)
  have H3 : Hid (SbW w3 p F (some ⟨g, o, none⟩) cap) := H.out.kept HB4.out
  have a3 := (SbW.ckc H3.out.r hk).q3
  have f3 := H3.out.fro hk (o + k * 6 + 3)
  go_upto_region 5 with fail
  refine wp_world fun w5 HW => ?_
  have H5 : Hid (SbW w5 p (F.put k (F.L[k].on1 (bit x))) (some ⟨g, o, none⟩) cap ∧ Fr (fun y => y = g) w3 w5) := by
    show _ ∧ _
    rw [HW.out]
    exact H3.out.put hk (by decide) rfl ⟨rfl, rfl⟩ (Sb.put_ok H3.out.r.ok hk ⟨rfl, rfl, rfl, rfl⟩ (bits_u8 BinOp.or F.L[k].on (bit x)).1 (bits_u8 BinOp.or F.L[k].on (bit x)).2)
  obtain ⟨hk5, e5⟩ := Sb.put_at (c := F.L[k].on1 (bit x)) hk
  have a4 := (SbW.ckc H5.out.1.r hk5).q4
  have f4 := H5.out.1.fro hk5 (o + k * 6 + 4)
  clear HW a3 f3
  go_upto_region 6 with fail
  refine wp_world fun w6 HW => ?_
  have H6 : Hid (SbW w6 p (F.put k (F.L[k].go (bit x))) (some ⟨g, o, none⟩) cap ∧ Fr (fun y => y = g) w5 w6) := by
    show _ ∧ _
    rw [HW.out]
    have := H5.out.1.put hk5 (c := F.L[k].go (bit x)) (j := 4) (v := .bool true) (by decide) (by rw [e5]; rfl) (by rw [e5]; exact ⟨rfl, rfl⟩) (Sb.put_ok H5.out.1.r.ok hk5 (by rw [e5]; exact ⟨rfl, rfl, rfl, rfl⟩) (bits_u8 BinOp.or F.L[k].on (bit x)).1 (bits_u8 BinOp.or F.L[k].on (bit x)).2)
    rw [Sb.put_put] at this
    exact this
  clear HW a4 f4
  have hbq : Below w6.heap.size w6 { w6 with drawn := w6.drawn + 1 } := below_drawn (Below.refl _ _) _
  have H7 : Hid (SbW { w6 with drawn := w6.drawn + 1 } p (F.put k (F.L[k].go (bit x))) (some ⟨g, o, none⟩) cap ∧ Fr (fun y => y = g) w5 { w6 with drawn := w6.drawn + 1 }) := ⟨H6.out.1.kept hbq, H6.out.2.trans (Fr.of_below hbq (Nat.le_refl _)) (fun x hx => .inl hx)⟩
  clear hbq H6
  refine wp_region_still_tail 17 (by kernel_rfl) (by decide +kernel) ?_
  generalize ({ w6 with drawn := w6.drawn + 1 } : World) = wq at *
  obtain ⟨hk6, e6⟩ := Sb.put_at (c := F.L[k].go (bit x)) hk
  have hC6 := SbW.ckc H7.out.1.r hk6
  rw [e6] at hC6
  have b0 : wq.cell? ⟨g, o + k * 6, none⟩ = some (.int .u64 F.L[k].off) := hC6.q0
  have b1 : wq.cell? ⟨g, o + k * 6 + 1, none⟩ = some (.slice F.L[k].a F.L[k].bs.length F.L[k].cap) := hC6.q1
  have b3 : wq.cell? ⟨p, 3, none⟩ = some (.int .u64 F.high) := H7.out.1.r.row.cell 3 _ rfl
  have bf := H7.out.1.r.row.frozen 3
  have o0 := HC.out.o0
  have ol := HC.out.ol
  clear hC6
  simp only [List.take_succ_cons, List.take_zero, List.drop_succ_cons, List.drop_zero]
  iterate 17 still_step
  refine wpStill_nil ?_
  go_wp2_with fail
  go_ret
  have h8 := H7.out.1.field (G := F.sent k F.L[k] (bit x)) (j := 3) (v := .int .u64 (max F.high (F.L[k].off + (F.L[k].bs.length : Int)))) rfl rfl (by
    have k1 := H7.out.1.r.ok
    refine ⟨k1.r0, k1.r1, k1.m0, k1.m1, k1.a0, k1.a1, ?_, ?_, k1.e1, k1.fr, k1.g0, k1.g1, fun c hc => ?_, k1.so, k1.nl, k1.cl, k1.ak, k1.ch, k1.la⟩
    · show 0 ≤ max F.high (F.L[k].off + (F.L[k].bs.length : Int)); omega
    · show max F.high (F.L[k].off + (F.L[k].bs.length : Int)) ≤ F.end_; omega
    · have := k1.ck c hc
      exact ⟨this.o0, this.ol, this.on0, this.on1, this.cap, this.capm, this.fin, this.few⟩)
  refine ⟨rfl, h8.1, ?_⟩
  have f1 : Fr (fun y => y = g ∨ y = p) w w3 := Fr.of_below HB4.out (Nat.le_refl _)
  have f2 := f1.trans H5.out.2 (fun x hx => .inl (.inl hx))
  have f3 := f2.trans H7.out.2 (fun x hx => .inl (.inl hx))
  exact f3.trans h8.2 (fun x hx => .inl (.inr hx))
end Go.Proofs.Ytnohammflhadpaa
