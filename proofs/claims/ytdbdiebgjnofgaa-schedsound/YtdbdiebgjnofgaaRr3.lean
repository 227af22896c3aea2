import Derived.Test.YtdbdiebgjnofgaaRr2
namespace Go.Proofs.Ytdbdiebgjnofgaa
open Go.RowKit Go.Maps Go.Sort
set_option maxRecDepth 100000

theorem stay_bd {T : Pv → Bool} {L : List Pv} {t l : Int} (h : stay T L t l = true) : t < L.length ∧ 0 < l ∧ T (pth L t.toNat) = true := by
  unfold stay at h
  simp only [Bool.and_eq_true, decide_eq_true_eq] at h
  exact ⟨h.1.1, h.1.2, h.2⟩
theorem nxt_bd {n : Nat} {t : Int} (h0 : 0 ≤ t) (hn : 0 < n) : 0 ≤ nxt n t ∧ nxt n t < n := by unfold nxt; split <;> omega
def RRAns (w : World) (ws : List Int) (L : List Pv) (want : Cu) (t l : Int) (r B : Nat) (wa : Option Addr) (wc : Nat) (e : Ending) (w' : World) : Prop := ∃ t' l', Turns ws (rdy L) L t l t' l' ∧ e = .returned (pkv (some ⟨t', want.off, want.len⟩)) ∧ Fr (fun k => k = r) w w' ∧ RRAt w' r B ws wa wc t' (l' - 1)
set_option maxHeartbeats 4000000 in
theorem rrnext_yes {w : World} {r B : Nat} {ws : List Int} {wa : Option Addr} {wc : Nat} {t l : Int} (h : RRAt w r B ws wa wc t l) (hg : ∀ g, (Value.slice wa ws.length wc).ownBlock = some g → g < w.heap.size) {V : Vw} (hV : VwAt w V) (hna : ∀ g o, V.a = some ⟨g, o, none⟩ → g ≠ r) (hh : V.has = true) (hr : V.L.any (rdy V.L) = true) :
    Calls Try.prog 57 #[.pointer (some ⟨r, 0, none⟩), V.val] w fun e w' => RRAns w ws V.L V.want t l r B wa wc e w' := by
  obtain ⟨a, cap, L, has, want, edge, mss⟩ := V
  obtain ⟨hA, hF⟩ := hV
  simp only [Vw.val, Vw.cells] at hA hF hh hr hna ⊢
  subst hh
  obtain ⟨n, hn⟩ : ∃ n, L.length = n := ⟨_, rfl⟩
  rw [hn] at hF ⊢
  obtain ⟨i0, hi0, hT0⟩ : ∃ i, i < L.length ∧ rdy L (pth L i) = true := by
    obtain ⟨p, hp, hq⟩ := List.any_eq_true.1 hr
    obtain ⟨i, hi, rfl⟩ := List.getElem_of_mem hp
    exact ⟨i, hi, by rw [pth_eq hi]; exact hq⟩
  have HG := hid hg
  have HN := hid hn
  have HF := hid hF
  have HI := hid hi0
  have HT0 := hid hT0
  have HR := hid hr
  have hrl := h.row.lt
  have hni : (n : Int) ≤ 1466015503701 := by omega
  have HH := hid h
  have HA := hid hA
  have HNA := hid hna
  clear hA hn hF hg hi0 hT0 hr h hna
  go_enter Try.func57, Try.ntmps57
  go_upto_region 1 with fail
  refine wp_world fun W HW => ?_
  obtain ⟨x, hx⟩ : ∃ x, x = w.heap.size := ⟨_, rfl⟩
  obtain ⟨y, hy⟩ : ∃ y, y = w.heap.size + 1 := ⟨_, rfl⟩
  have HY : Hid (w.heap.size ≤ y) := by show _ ≤ _; omega
  have HS : Hid (SR w x y r B [.slice a n cap, .bool true, .int .u64 want.off, .int .i64 want.len, .bool want.fin, .slice want.on.a want.on.n want.on.c, .bool want.held, .int .u64 edge, .int .i64 mss] a L ws wa wc t l W) := by
    have hb : Below w.heap.size w W := by rw [HW.out]; exact ((Below.refl _ _).alloc (Nat.le_refl _) _).alloc (by simp) _
    refine ⟨fr0 hb, ?_, ?_, HA.out.kept hb, HH.out.kept hb, by omega, by omega, HNA.out⟩
    · rw [HW.out, hx]; exact (Row.new _ _ _).alloc _
    · rw [HW.out, hy]; exact Row.new' _ _ _ _ _ (by simp) rfl
  have n1 : ¬ x = y := by omega
  have n2 : ¬ y = x := by omega
  have n3 : ¬ r = y := by omega
  have n4 : ¬ y = r := by omega
  have n5 : ¬ r = x := by omega
  have n6 : ¬ x = r := by omega
  rw [← hy, ← hx]
  have HWB : Hid (w.heap.size ≤ W.heap.size) := HS.out.f.size
  have HRL : Hid (r < W.heap.size) := by show _ < _; have := HWB.out; omega
  clear HW hx hy HA HH HNA hrl
  obtain ⟨b0, b1, b2, b3, b4, b5, b6, b7, b8⟩ := HS.out.cells
  go_upto_region 2 with (go_at_call 47; refine (ready2_any HS.out.at_ n cap HN.out (by have := HF.out; omega)).mono ?_; rintro e w1 ⟨hb1, c, d, rfl, hT, hcc, hdd⟩; have HT := hid hT; have HNC : Hid (c ≠ r ∧ d ≠ r) := (by have := HRL.out; exact ⟨by omega, by omega⟩); replace HS := hid (HS.out.kept hb1); clear hT hb1 hcc hdd b0 b1 b2 b3 b4 b5 b6 b7 b8; obtain ⟨b0, b1, b2, b3, b4, b5, b6, b7, b8⟩ := HS.out.cells)
  have HCO := hid (contains_one HS.out.at_ n cap HN.out (by have := HF.out; omega) HT.out.isT eg51)
  rw [HR.out] at HCO
  go_upto_region 4 with (go_at_call 53; refine HCO.out.mono ?_; rintro e w2 ⟨rfl, hb2⟩; replace HS := hid (HS.out.kept hb2); replace HT := hid (HT.out.kept hb2); clear hb2 HCO b0 b1 b2 b3 b4 b5 b6 b7 b8)
  go_loopg [26] (L.length + 2) (fun kx _ wr => ∃ tc lc : Int, Hid (SR w x y r B [.slice a n cap, .bool true, .int .u64 want.off, .int .i64 want.len, .bool want.fin, .slice want.on.a want.on.n want.on.c, .bool want.held, .int .u64 edge, .int .i64 mss] a L ws wa wc tc lc wr) ∧ Hid (Tst wr L c d) ∧ Hid (dist L i0 tc lc ≤ kx) ∧ Hid (∀ t' l', Turns ws (rdy L) L tc lc t' l' → Turns ws (rdy L) L t l t' l'))
  case atStart => exact ⟨t, l, HS, HT, hid (by unfold dist; have := HI.out; split <;> (try split) <;> omega), hid (fun _ _ e => e)⟩
  case round =>
    obtain ⟨tc, lc, HSr, HTr, HD, HTU⟩ := hrel
    obtain ⟨b0, b1, b2, b3, b4, b5, b6, b7, b8⟩ := HSr.out.cells
    have HT00 := hid HSr.out.rr.t0
    have HST := hid (stays_any HSr.out.rr HSr.out.at_ n cap HN.out HF.out HTr.out.isT eg51)
    cases hst : stay (rdy L) L tc lc with
    | false =>
      rw [hst] at HST
      have HSF := hid hst
      clear hst
      go_upto_region 5 with (go_at_call 58; refine HST.out.mono ?_; rintro e w3 ⟨rfl, hb3⟩; replace HSr := hid (HSr.out.kept hb3); replace HTr := hid (HTr.out.kept hb3); clear hb3 HST b0 b1 b2 b3 b4 b5 b6 b7 b8)
      obtain ⟨b0, b1, b2, b3, b4, b5, b6, b7, b8⟩ := HSr.out.cells
      have r1 := HSr.out.rr.row.cell 1 _ rfl
      refine wp_region_still_tail 9 (by kernel_rfl) (by kernel_rfl) ?_
      replace HSr := hid (HSr.out.drawn (w3.drawn + 1))
      replace HTr := hid (HTr.out.kept (below_drawn (Below.refl _ _) (w3.drawn + 1)))
      replace b0 := cell_drawn (w3.drawn + 1) b0
      replace r1 := cell_drawn (w3.drawn + 1) r1
      generalize ({ w3 with drawn := w3.drawn + 1 } : World) = w4 at *
      simp only [List.take_succ_cons, List.take_zero, List.drop_succ_cons, List.drop_zero]
      have HBE := hid (fun w => behind_any w tc n HSr.out.rr.t0 HSr.out.rr.t1)
      iterate 8 still_step
      still_call (HBE.out _)
      refine wpStill_nil ?_
      have HNB : Hid (0 ≤ nxt n tc ∧ nxt n tc < n) := nxt_bd HSr.out.rr.t0 (by have := HI.out; have := HN.out; omega)
      have hps := pass_any HSr.out.rr (nxt n tc) HNB.out.1 (by have := HNB.out.2; have := HF.out; omega)
      have HPS := hid hps
      clear hps b0 b1 b2 b3 b4 b5 b6 b7 b8 r1
      go_wp2_with (go_at_call 25; refine HPS.out.mono ?_; rintro e w5 ⟨rfl, hf5, hr5⟩; replace HTr := hid (HTr.out.fr hf5 HNC.out.1 HNC.out.2); replace HSr := hid (HSr.out.fr hf5 hr5); clear hf5 hr5 HPS)
      go_roundg (dist L i0 (nxt n tc) (wgt ws (nxt n tc)))
      case measure =>
        have h1 := dist_lt (ws := ws) HI.out HT0.out HT00.out HSF.out
        rw [HN.out] at h1
        have := HD.out
        omega
      case rel =>
        refine ⟨nxt n tc, wgt ws (nxt n tc), HSr, HTr, hid (Nat.le_refl _), hid (fun t' l' e => HTU.out t' l' ?_)⟩
        refine .step HSF.out ?_
        rw [HN.out]
        exact e
    | true =>
      rw [hst] at HST
      have HSF := hid hst
      clear hst
      go_upto_region 6 with (go_at_call 58; refine HST.out.mono ?_; rintro e w3 ⟨rfl, hb3⟩; replace HSr := hid (HSr.out.kept hb3); clear hb3 HST HTr b0 b1 b2 b3 b4 b5 b6 b7 b8)
      have r2 := HSr.out.rr.row.cell 2 _ rfl
      have g2 := HSr.out.rr.row.frozen 2
      have hl := stay_bd HSF.out
      obtain ⟨hl1, hl2, _⟩ := hl
      have hl3 := HSr.out.rr.l1
      go_upto_region 7 with fail
      have hfr : Fr (fun k => k = r) w3 (w3.setCell ⟨r, 2, none⟩ (.int .i64 (lc - 1))) := Fr.setIn (S := fun k => k = r) (B := r) (Fr.refl _ w3) rfl 2 _
      have hrr : RRAt (w3.setCell ⟨r, 2, none⟩ (.int .i64 (lc - 1))) r B ws wa wc tc (lc - 1) := ⟨HSr.out.rr.row.set 2 _, HSr.out.rr.at_.fr hfr (fun g hk e => (HSr.out.rr.ne g hk).1 e), HSr.out.rr.ne, HSr.out.rr.few, HSr.out.rr.t0, HSr.out.rr.t1, by omega, by omega⟩
      replace HSr := hid (HSr.out.fr hfr hrr)
      clear hfr hrr r2 g2
      generalize (w3.setCell ⟨r, 2, none⟩ (.int .i64 (lc - 1))) = w4 at *
      obtain ⟨b0, b1, b2, b3, b4, b5, b6, b7, b8⟩ := HSr.out.cells
      have r1 := HSr.out.rr.row.cell 1 _ rfl
      have HSN := hid (fun w => send_yes w want tc (by have := HSr.out.rr.t0; omega))
      simp only [Cu.val, Cu.cells] at HSN
      replace HSr := hid (HSr.out.drawn (w4.drawn + 1))
      go_region_held3 (fun w' => w'.cell? ⟨r, 1, none⟩ = some (.int .i64 tc) ∧ w'.cell? ⟨x, 2, none⟩ = some (.int .u64 want.off) ∧ w'.cell? ⟨x, 3, none⟩ = some (.int .i64 want.len) ∧ w'.cell? ⟨x, 4, none⟩ = some (.bool want.fin) ∧ w'.cell? ⟨x, 5, none⟩ = some (.slice want.on.a want.on.n want.on.c) ∧ w'.cell? ⟨x, 6, none⟩ = some (.bool want.held)) (go_keep)
        (first
          | (go_at_call 45; refine (HSN.out _).mono ?_; rintro e w6 ⟨rfl, hb6⟩; replace HSr := hid (HSr.out.kept hb6); clear hb6 b0 b1 b2 b3 b4 b5 b6 b7 b8 r1; obtain ⟨b0, b1, b2, b3, b4, b5, b6, b7, b8⟩ := HSr.out.cells; have r1 := HSr.out.rr.row.cell 1 _ rfl; obtain ⟨⟨y0, y1, y2⟩, z0, z1, z2⟩ := HSr.out.res))
      go_wp2
      have hres := HSr.out.setRes HY.out ⟨tc, want.off, want.len⟩
      refine bodyPost_ret (Row.result2 hres.1 Try.results57 _ rfl _ Try.underlying36 rfl i36) rfl ⟨tc, lc, HTU.out _ _ (.stop HSF.out), rfl, hres.2.1, hres.2.2 HG.out⟩
end Go.Proofs.Ytdbdiebgjnofgaa
