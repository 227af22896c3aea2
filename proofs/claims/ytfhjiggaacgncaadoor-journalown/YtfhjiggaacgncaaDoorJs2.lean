import Derived.Test.YtfhjiggaacgncaaDoorJs1
import Derived.Lib.SlBytesConst
namespace Go.Proofs.YtfhjiggaacgncaaDoor
open Go.RowKit Go.Maps Go.Sort
set_option maxRecDepth 100000

theorem Tn.bel {w w' : World} {M' : Nat → Prop} (h : Tn w w' (fun _ => False) M') : Below w.heap.size w w' := h.fr.below (fun _ e => e.elim) (Nat.le_refl _)
theorem Row2.left_first {P : List (BitVec 8 × List (BitVec 8))} {s n : Nat} {D : Dk} (h : Row2 P s n D) (hs : s < P.length) (torn : Int) (ht : torn < 18 + P[s].2.length) : Left P s n (D.left 0 torn) := by
  have hw := h.wl
  have hfit := h.fit
  have h0 : clip 0 D.W.length = 0 := by unfold clip; omega
  have hj : 0 < D.W.length := by omega
  obtain ⟨a1, a2⟩ := h.wa 0 hj (by omega)
  simp only [Nat.add_zero] at a1 a2
  have hsu := enc_take_succ P s hs
  have hl := enc_take_le P (s + 1)
  rw [hsu, List.length_append] at hl
  unfold Dk.left
  rw [h0, List.getElem?_eq_getElem hj, List.take_zero]
  simp only
  rw [a1, a2]
  have hS : layAll D.S [] = cont n (enc 0 (P.take s)) := h.dS
  rw [hS]
  have hct : clip torn (recL s P[s].1 P[s].2).length < 18 + P[s].2.length := by unfold clip; rw [recL_len]; omega
  have hcl := clip_le torn (recL s P[s].1 P[s].2).length
  generalize clip torn (recL s P[s].1 P[s].2).length = t at *
  rw [lay_cont (by rw [List.length_take]; omega)]
  exact ⟨h.le, _, rfl, by rw [List.length_append, List.length_take]; omega, fun i m => rightP_torn i s _ _ (h.fine _ (List.getElem_mem hs)).2 t m hct⟩
theorem st_crash_first {w : World} {M : Nat → Prop} {p q n s : Nat} {P : List (BitVec 8 × List (BitVec 8))} (h : St w M p q n P s) (h1n : 1 ≤ n) (hn : n ≤ 16777216) (hs : s < P.length) (torn : Int) (ht : torn < 18 + P[s].2.length) :
    Calls Tryd.prog 23 #[pt p 0, .int .i64 0, .int .i64 torn] w fun e w' => e = .returned (.tuple #[]) ∧ Dead w' M p q n P s ∧ Tn w w' M M := by
  obtain ⟨D, G, hj, rfl, h2, h3, h4, h5, h6, h7⟩ := h
  have hg := h2.good h1n hn
  refine (crash_any hj.dk hg.ok hg.pos (by have := hg.few; omega) 0 torn).mono ?_
  rintro e w' ⟨rfl, hD, hF⟩
  have hL0 := h2.left_first hs torn ht
  have hf : (D.crash 0 torn).N = D.left 0 torn := h2.forget (Nat.le_refl _) hL0
  have hL : Left P s n (D.crash 0 torn).N := by rw [hf]; exact hL0
  have hS : (D.crash 0 torn).S = (D.crash 0 torn).N := by rw [hf]; rfl
  have hsub : ∀ x, (D.crash 0 torn).Mem G.p x → D.Mem G.p x := by
    rintro x (rfl | rfl | rfl | e | ⟨y, hy, _⟩)
    · exact .inl rfl
    · exact .inr (.inl rfl)
    · exact .inr (.inr (.inl rfl))
    · simp [Dk.crash, Dk.calm, Value.ownBlock] at e
    · cases hy
  have hF2 : Fr (D.Mem G.p) w w' := hF.wider (fun x e => by rcases e with rfl | rfl | rfl; exact .inl rfl; exact .inr (.inl rfl); exact .inr (.inr (.inl rfl)))
  have hNl : (D.crash 0 torn).N.length = n := by
    obtain ⟨_, B, hB, hBl, _⟩ := hL
    rw [hB]
    exact cont_len (Nat.le_trans hBl h2.fit)
  refine ⟨rfl, ⟨_, G, ⟨hD, hj.lg.fr hF2 (fun x hx => hj.ap x hx), fun x hx e => hj.ap x hx (hsub x e)⟩, rfl, hL, hS, rfl, hNl, by rw [h4]; exact h2.fit, h5, ?_, fun x hx => h7 x (hx.imp (hsub x) id)⟩, ⟨hF2.wider (fun x e => h7 x (.inl e)), fun x e => .inl e⟩⟩
  rw [h6]
  exact nx_ne D.lives
def abL : List (BitVec 8) := [97#8, 98#8]
theorem bsl2 (w : World) : (Instr.buildSlice 30 2 #[(0, .int .u8 97), (1, .int .u8 98)]).run Tryd.prog w = .ok (.slice (some ⟨w.heap.size, 0, none⟩) 2 2) (w.alloc (.cells #[.int .u8 97, .int .u8 98] 5)) := by kernel_rfl
set_option maxHeartbeats 4000000 in
theorem awake_any {w : World} (hT : CrcTab w) : Calls Tryd.prog 13 #[] w fun e w' => e = .returned (.bool true) ∧ Below w.heap.size w w' := by
  have HT := hid hT
  have HN := hid (newDisk_ok w 60 (by omega) (by omega))
  have hb2 := bsl2
  clear hT
  go_enter Tryd.func13, Tryd.ntmps13
  go_upto_region 4 with (go_at_call 8; refine HN.out.mono ?_; rintro e w1 ⟨p, D, rfl, hD, hb, hmem, hS, hN, hW, -⟩; have HO := hid (new_open hD hS hN hW (by omega) (by omega) (HT.out.kept hb)); have HT1 : Hid (Tn w w1 (fun _ => False) (D.Mem p)) := ⟨Fr.of_below hb (Nat.le_refl _), fun x hx => .inr (hmem x hx)⟩; clear hD hb hmem hS hN hW)
  clear HN
  go_upto_region 7 with (go_at_call 9; refine HO.out.mono ?_; rintro e w2 ⟨q, M2, rfl, hS2, hT2⟩; have HS2 := hid hS2; have HT2 := hid (HT1.out.trans hT2); clear hS2 hT2)
  clear HO HT1
  have hcx := Lib.run_convert_bytes_const (P := Tryd.prog) w2 30 5 #[.int .u8 97, .int .u8 98] 2 2 Tryd.underlying30 Tryd.underlying5
  have hbx := below_new w2 (.cells #[.int .u8 97, .int .u8 98] 5 (2, 3))
  have hby : BytesAt (w2.alloc (.cells #[.int .u8 97, .int .u8 98] 5 (2, 3))) (some ⟨w2.heap.size, 0, none⟩) abL := fun k hk => by
    refine ⟨w2.heap.size, 0, rfl, ?_⟩
    rw [Nat.zero_add, cell_of_row _ w2.heap.size k _ 5 (2, 3) (heap_alloc_last w2 _)]
    have hk2 : k < 2 := hk
    rcases (show k = 0 ∨ k = 1 by omega) with rfl | rfl <;> rfl
  have HA := hid (st_append_ok (cp := 2) (k := 1#8) (m := 2) (HS2.out.kept hbx) (by omega) (by omega) hby rfl (HT.out.kept (below_two HT2.out.bel hbx (Nat.le_refl _))) (by unfold mayE; rw [if_neg (by decide), if_neg (by omega), if_neg]; simp [enc]; omega))
  have HT3 := hid (HT2.out.trans (Tn.below hbx))
  clear hbx hby HS2 HT2
  have hu1 : ub 1#8 = 1 := by decide
  rw [hu1] at HA
  go_upto_region 8 with (go_at_call 19; refine HA.out.mono ?_; rintro e w4 ⟨rfl, M4, hS4, hT4⟩; have HS4 := hid hS4; have HT4 := hid (HT3.out.trans hT4); clear hS4 hT4)
  clear HA HT3
  have HY := hid (st_sync HS4.out (by omega) (by omega))
  clear HS4
  go_upto_region 9 with (go_at_call 22; refine HY.out.mono ?_; rintro e w5 ⟨rfl, M5, hS5, hT5⟩; have HS5 := hid hS5; have HT5 := hid (HT4.out.trans hT5); clear hS5 hT5)
  clear HY HT4
  have HA2 := hid (st_append_ok (cp := 0) (a := none) (k := 2#8) (m := 0) (b := []) HS5.out (by omega) (by omega) (BytesAt_nil _ _) rfl (HT.out.kept HT5.out.bel) (by unfold mayE; rw [if_neg (by decide), if_neg (by omega), if_neg]; simp [enc, recL_len, abL]; omega))
  have hu2 : ub 2#8 = 2 := by decide
  rw [hu2] at HA2
  clear HS5
  go_upto_region 10 with (go_at_call 19; refine HA2.out.mono ?_; rintro e w6 ⟨rfl, M6, hS6, hT6⟩; have HS6 := hid hS6; have HT6 := hid (HT5.out.trans hT6); clear hS6 hT6)
  clear HA2 HT5
  have HC := hid (st_crash_first HS6.out (by omega) (by omega) (by simp) 17 (by simp))
  clear HS6
  go_upto_region 11 with (go_at_call 23; refine HC.out.mono ?_; rintro e w7 ⟨rfl, hS7, hT7⟩; have HS7 := hid hS7; have HT7 := hid (HT6.out.trans hT7); clear hS7 hT7)
  clear HC HT6
  have HP := hid (dead_open HS7.out (by intro x hx; simp at hx; rcases hx with rfl | rfl; exact ⟨by decide, by decide⟩; exact ⟨by decide, by decide⟩) (by simp [enc, recL_len, abL]) (by omega) (by omega) (HT.out.kept HT7.out.bel))
  clear HS7
  go_upto_region 12 with (go_at_call 9; refine HP.out.mono ?_; rintro e w8 ⟨q8, M8, rfl, hS8, hT8⟩; have HS8 := hid hS8; have HT8 := hid (HT7.out.trans hT8); clear hS8 hT8)
  clear HP HT7
  have HLn := hid (st_len HS8.out)
  have HRc := hid (st_records HS8.out (by omega))
  have HSTR : Hid (∀ w9 v, RecV w9 w8.heap.size v [((1#8 : BitVec 8), abL)] → ∃ g cap a n c, v = .slice (some ⟨g, 0, none⟩) 1 cap ∧ w9.cell? ⟨g, 2, none⟩ = some (.slice a n c) ∧ (convert 30 9 (.slice a n c)).run Tryd.prog w9 = .ok (.string { data := #[97, 98] }) w9) := by
    rintro w9 v ⟨R, hR, hO, hB⟩
    obtain ⟨x, rfl⟩ : ∃ x, R = [x] := by
      cases R with
      | nil => cases hR
      | cons x r =>
        cases r with
        | nil => exact ⟨x, rfl⟩
        | cons y r => simp at hR
    simp at hR
    have hx := hB x (by simp)
    rw [hR.2] at hx
    obtain ⟨a, c, ex, hBy, _⟩ := ownBy_shape hx
    obtain ⟨_, ⟨_, hz⟩ | ⟨g, cap, cur, e', hgb, hg, hnc, hcm, hcs, htk⟩⟩ := hO
    · simp at hz
    · refine ⟨g, cap, a, 2, c, e', ?_, convert_any hBy rfl⟩
      have h2 := flatR_at [x] 0 0 2 (by simp) (by omega)
      rw [← htk, List.getElem?_take, if_pos (by simp), Array.getElem?_toList] at h2
      rw [cell_of_row w9 g _ _ _ _ hg]
      refine Eq.trans h2 ?_
      show some x.v = _
      rw [ex]
      rfl
  clear HS8
  go_wp2_with (first | (go_at_call 15; refine HLn.out.mono ?_; rintro e w9 ⟨rfl, rfl⟩) | (go_at_call 17; refine HRc.out.mono ?_; rintro e w10 ⟨v, rfl, hR, hb10⟩; obtain ⟨g, cap, a, n, c, rfl, hc2, hcv⟩ := HSTR.out w10 v hR; have HB10 := hid hb10; clear hR hb10))
  go_ret
  exact ⟨by first | rfl | simp, below_two HT8.out.bel HB10.out (Nat.le_refl _)⟩
end Go.Proofs.YtfhjiggaacgncaaDoor
