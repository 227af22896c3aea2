import Derived.Test.YtimiokbnhneggaaS2b
import Derived.Deep.CutRange
namespace Go.Proofs.Ytimiokbnhneggaa
open Go.RowKit Go.Maps Go.Sort
set_option maxRecDepth 100000

theorem fld474 (w : World) (x0 x3 x4 x6 : Int) (x1 x2 : Int) (g n : Nat) (e : Bool) : (Instr.field 47 (.agg #[.int .u64 x0, .int .i64 x1, .int .i64 x2, .int .u64 x3, .int .u64 x4, .slice (some ⟨g, 0, none⟩) n n, .int .u64 x6, .bool e]) 4).run Try.prog w = .ok (.int .u64 x4) w := by kernel_rfl
/-- The loop's state, with the piece's box. -/
structure LoopB (w wr : World) (p : Nat) (s : List (BitVec 8)) (base C : Int) (F : Bf) (f : Int → BitVec 8) (S : Nat → Prop) (v : Value) (k : Nat) (fin : Bool) (bx : Nat) (c : List Value) : Prop where
  i : LoopI w wr p s base C F f S v k fin
  row : Row wr bx c 31
  no : ¬ S bx
section
variable {w wr w' : World} {p : Nat} {s : List (BitVec 8)} {base C : Int} {F F' : Bf} {f f' : Int → BitVec 8} {S S' : Nat → Prop} {v : Value} {k : Nat} {fin fin' : Bool} {bx : Nat} {c : List Value}
theorem LoopB.kept (h : LoopB w wr p s base C F f S v k fin bx c) (hb : Below wr.heap.size wr w') : LoopB w w' p s base C F f S v k fin bx c := ⟨h.i.kept hb, h.row.kept hb h.row.lt, h.no⟩
theorem LoopB.turn (h : LoopB w wr p s base C F f S v k fin bx c) (hB : Buf w' p F' f' S') (hf : Fr S wr w') (hS : ∀ x, S' x → S x ∨ wr.heap.size ≤ x) (hst : StrI s base F' f' k fin') (hr : F'.room = C) : LoopB w w' p s base C F' f' (fun x => S' x ∧ x < w'.heap.size) v k fin' bx c :=
  ⟨h.i.turn hB hf hS hst hr, hf.row h.row h.no, fun e => by rcases hS _ e.1 with e | e; exact h.no e; have := h.row.lt; omega⟩
end
set_option maxHeartbeats 40000000 in
theorem stream_any {w : World} {a : Option Addr} {cap : Nat} {s : List (BitVec 8)} (hB : BytesAt w a s) (N : Nat) (hN : s.length = N) (hc : N ≤ cap) (hcm : cap ≤ maxLen) (hN2 : N ≤ 140737488351232) (hab : N ≠ 0 → ∀ g o, a = some ⟨g, o, none⟩ → g < w.heap.size) (x cp gp : Int) (hx : 0 ≤ x) {ap : Option Addr} {capp : Nat} (P : List Pc) (hP : PcsAt w ap P) (M : Nat) (hM : P.length = M) (hM2 : M ≤ 140737488351232)
    (hPn : ∀ o ∈ P, o.n ≤ 9223372036854775807) :
    Calls Try.prog 7 #[.slice a N cap, .int .u64 x, .int .i64 cp, .int .i64 gp, .slice ap M capp] w fun e w' => e = .returned (.bool true) ∧ Below w.heap.size w w' := by
  obtain ⟨base, hbase⟩ : ∃ b, x % 4611686018427387905 = b := ⟨_, rfl⟩
  have hb0 : 0 ≤ base := by omega
  have hb1 : base ≤ 4611686018427387904 := by omega
  obtain ⟨C, hC⟩ : ∃ b, IntKind.u64.wrap cp % 1048576 = b := ⟨_, rfl⟩
  obtain ⟨G, hG⟩ : ∃ b, IntKind.u64.wrap gp % 64 = b := ⟨_, rfl⟩
  have hC0 : 0 ≤ C ∧ C < 1048576 := by have := wrap_u64_nn cp; omega
  have hG0 : 0 ≤ G ∧ G < 64 := by have := wrap_u64_nn gp; omega
  obtain ⟨c0, c1⟩ := hC0
  obtain ⟨g0, g1⟩ := hG0
  have wc0 := (wrap_u64_nn cp).1
  have wg0 := (wrap_u64_nn gp).1
  have hBa := based_any w x hx
  rw [hbase] at hBa
  have hNew := bnew_ok w hb0 hb1 (room := 1 + C) (by omega) (by omega) (gaps := 1 + G) (by omega) (by omega) (fun _ => 0#8)
  have HB := hid hB
  have HP := hid hP
  have HN := hid hN
  have HM := hid hM
  have HAB := hid hab
  have HPN := hid hPn
  have hNi : (N : Int) ≤ 140737488351232 := by omega
  have hMi : (M : Int) ≤ 140737488351232 := by omega
  clear hB hP hN hab hPn hbase
  go_enter Try.func7, Try.ntmps7
  go_upto_region 5 with (first | (go_at_call 20; refine hBa.mono ?_; rintro e w1 ⟨rfl, rfl⟩) | (go_at_call 9; refine hNew.mono ?_; rintro e w2 ⟨p, b, rfl, hBu, hbu, hfo⟩; have HNW := hid (And.intro hBu (And.intro hbu hfo)); clear hBu hbu hfo))
  have HI0 : Hid (LoopI w1 w2 p s base (1 + C) (Bf.zero base (1 + C) (1 + G)) (fun _ => 0#8) (fun x => Foot p (.slice none 0 0) b (.map []) x) (.slice none 0 0) 0 false) :=
    ⟨⟨_, _, _, _, HNW.out.1, fun _ h => h⟩, ⟨Nat.zero_le _, rfl, by simp [Bf.zero], fun y hy => by obtain ⟨r, hr, _⟩ := hy; simp [Bf.zero] at hr, rfl, fun e => by cases e⟩, rfl, (show w2.ownsRow 0 5 1 (.slice none 0 0) 0 [] from World.ownsRow_nil _ 0 5 1), fun y hy => ⟨HNW.out.2.2 y hy, HNW.out.1.foot_lt hy⟩, fun g hg => by simp [Value.ownBlock] at hg, HNW.out.2.1⟩
  clear HNW hNew hBa hC hG wc0 wg0
  go_wp2_with fail
  go_loopw [13, 14, 15] (fun s13 s14 s15 wr => ∃ (i k : Nat) (F : Bf) (f : Int → BitVec 8) (S : Nat → Prop) (fin : Bool), i ≤ M ∧ s15 = .int .i64 i ∧ s14 = .bool fin ∧ LoopI w1 wr p s base (1 + C) F f S s13 k fin) (fun _ _ s15 _ => M - (intOf s15).toNat)
  case atStart => exact ⟨0, 0, _, _, _, false, Nat.zero_le _, rfl, rfl, HI0.out⟩
  case round =>
    obtain ⟨i, k, F, f, S, fin, hi, rfl, rfl, hI⟩ := hrel
    have HI := hid hI
    clear hI HI0
    by_cases hlt : i < M
    · obtain ⟨gq, oq, rfl, hcl⟩ := (HP.out.kept HI.out.bel) i (by rw [HM.out]; exact hlt)
      have q0 : wr.cell? ⟨gq, oq + i * 4, none⟩ = some (.int .i64 (P[i]'(by rw [HM.out]; exact hlt)).x) := hcl 0 _ rfl
      have q1 := hcl 1 _ rfl
      have q2 := hcl 2 _ rfl
      have q3 := hcl 3 _ rfl
      have hpn := HPN.out P[i] (List.getElem_mem _)
      generalize P[i]'(by rw [HM.out]; exact hlt) = pc at *
      obtain ⟨px, py, pf, pn⟩ := pc
      simp only at q0 q1 q2 q3 hpn
      have hki : (i : Int) < (M : Int) := by omega
      clear hcl
      obtain ⟨z, hz⟩ : ∃ z : Int, pf = decide (z = 1) := ⟨if pf then 1 else 0, by cases pf <;> simp⟩
      subst hz
      go_upto_if 63 with fail
      refine wp_world fun wb HW => ?_
      have HXb : Hid (Row wb wr.heap.size [.int .i64 px, .int .i64 py, .bool (decide (z = 1)), .int .i64 pn] 31) := by show Row _ _ _ _; rw [HW.out]; exact Row.new' _ _ _ _ _ rfl rfl
      have HBb : Hid (Below wr.heap.size wr wb) := by show Below _ _ _; rw [HW.out]; exact (Below.refl _ _).alloc (Nat.le_refl _) _
      have HIb : Hid (LoopB w1 wb p s base (1 + C) F f S u13 k fin wr.heap.size [.int .i64 px, .int .i64 py, .bool (decide (z = 1)), .int .i64 pn]) := ⟨HI.out.kept HBb.out, HXb.out, fun e => Nat.lt_irrefl _ (HI.out.sb _ e).2⟩
      clear HW HI q0 q1 q2 q3
      obtain ⟨bx, hbx⟩ : ∃ bx, bx = wr.heap.size := ⟨_, rfl⟩
      have HBX := hid hbx
      rw [← hbx] at HXb HIb ⊢
      clear hbx
      go_cut [14, 17, 18, 19, 20, 21, 22, 23, 24, 25, 26] from 52 to 206 (fun s14 _ _ _ _ _ _ _ _ _ _ wc => ∃ (F' : Bf) (f' : Int → BitVec 8) (S' : Nat → Prop) (fin' : Bool), s14 = .bool fin' ∧ LoopB w1 wc p s base (1 + C) F' f' S' u13 k fin' bx [.int .i64 px, .int .i64 py, .bool (decide (z = 1)), .int .i64 pn])
      case first =>
        as_aux_lemma =>
          have e0 := HIb.out.i.buf.ok
          have HED : Hid (∀ W F' f' S', Buf W p F' f' S' → Calls Try.prog 17 #[.pointer (some ⟨p, 0, none⟩)] W fun e w' => e = .returned (.int .u64 F'.edge) ∧ ∃ q, w' = W.drewN q) := fun W F' f' S' hB => by obtain ⟨v', b', hR⟩ := hB.r; exact edge_any hR
          have hed0 : 0 ≤ F.edge ∧ F.edge ≤ 9223372036854775807 := by have h1 := e0.rd; have h2 := e0.b0; have h3 := e0.r0; have h4 := e0.rm2; have h5 := e0.b1; have h6 := e0.r1; unfold Bf.edge; omega
          obtain ⟨ed0, ed1⟩ := hed0
          by_cases hz : z = 1
          · as_aux_lemma =>
              have HFN := hid (finB_any HIb.out.i.buf (base + N) (by omega))
              have hst := HIb.out.i.st.fin e0
              rw [HN.out] at hst
              have her := end_room F (base + N)
              have HTN : Hid (∀ w' fin', Buf w' p (F.endAt (base + N)) f S → Fr S wb w' → StrI s base (F.endAt (base + N)) f k fin' → LoopB w1 w' p s base (1 + C) (F.endAt (base + N)) f (fun x => S x ∧ x < w'.heap.size) u13 k fin' bx [.int .i64 px, .int .i64 py, .bool (decide (z = 1)), .int .i64 pn]) := fun w' fin' h1 h2 h3 => HIb.out.turn h1 h2 (fun x hx => .inl hx) h3 (her.2.trans HIb.out.i.rm)
              rcases hst with ⟨f1, f2, f3⟩ | ⟨f1, f2, f3⟩
              · rw [f1] at HFN
                have HST := hid f3
                have HER := hid her.1
                have hbe : ¬ F.edge < base + N := by omega
                clear f1 f3 her e0
                cases fin with
                | false =>
                  go_wp2_with (first | (go_at_call 18; refine HFN.out.mono ?_; rintro e w3 ⟨rfl, hb3, hf3⟩; have HL3 := hid (HTN.out _ _ hb3 hf3 HST.out); have HE3 := HED.out _ _ _ _ hb3; rw [HER.out] at HE3; clear hb3 hf3) | (go_at_call 17; refine HE3.mono ?_; rintro e w4 ⟨rfl, q4, rfl⟩))
                  go_meet
                  exact ⟨_, _, _, true, rfl, HL3.out.kept (below_drewN (Below.refl _ _) q4)⟩
                | true =>
                  go_wp2_with (first | (go_at_call 18; refine HFN.out.mono ?_; rintro e w3 ⟨rfl, hb3, hf3⟩; have HL3 := hid (HTN.out _ _ hb3 hf3 HST.out); have HE3 := HED.out _ _ _ _ hb3; rw [HER.out] at HE3; clear hb3 hf3) | (go_at_call 17; refine HE3.mono ?_; rintro e w4 ⟨rfl, q4, rfl⟩))
                  go_meet
                  exact ⟨_, _, _, true, rfl, HL3.out.kept (below_drewN (Below.refl _ _) q4)⟩
              · rw [f1] at HFN
                have HST : Hid (StrI s base (F.endAt (base + N)) f k fin) := by show StrI _ _ _ _ _ _; rw [f3]; exact HIb.out.i.st
                have HER := hid her.1
                have hbe : F.edge < base + N := f2
                clear f1 f3 her e0
                cases fin with
                | false =>
                  go_wp2_with (first | (go_at_call 18; refine HFN.out.mono ?_; rintro e w3 ⟨rfl, hb3, hf3⟩; have HL3 := hid (HTN.out _ _ hb3 hf3 HST.out); have HE3 := HED.out _ _ _ _ hb3; rw [HER.out] at HE3; clear hb3 hf3) | (go_at_call 17; refine HE3.mono ?_; rintro e w4 ⟨rfl, q4, rfl⟩))
                  go_meet
                  exact ⟨_, _, _, false, rfl, HL3.out.kept (below_drewN (Below.refl _ _) q4)⟩
                | true =>
                  go_wp2_with (first | (go_at_call 18; refine HFN.out.mono ?_; rintro e w3 ⟨rfl, hb3, hf3⟩; have HL3 := hid (HTN.out _ _ hb3 hf3 HST.out); have HE3 := HED.out _ _ _ _ hb3; rw [HER.out] at HE3; clear hb3 hf3) | (go_at_call 17; refine HE3.mono ?_; rintro e w4 ⟨rfl, q4, rfl⟩))
                  go_meet
                  exact ⟨_, _, _, true, rfl, HL3.out.kept (below_drewN (Below.refl _ _) q4)⟩
          · obtain ⟨fr, hfr⟩ : ∃ fr, cutF px N = fr := ⟨_, rfl⟩
            obtain ⟨ln, hln⟩ : ∃ ln, cutL px py N = ln := ⟨_, rfl⟩
            have hfl : fr + ln ≤ N := by have := (cutL_le px py N).1; omega
            have HCUT := hid (cut_any (HB.out.kept HIb.out.i.bel) N HN.out hc hcm (by omega) px py pn (decide (z = 1)))
            rw [hfr, hln, show decide (z = 1) = false by simp [hz]] at HCUT
            obtain ⟨t1, t2⟩ := HIb.out.i.st.take e0 (fr := fr) (ln := ln) (by rw [HN.out]; exact hfl)
            have HTE := hid (tk_edge F (base + fr) ln).1
            have HNX : Hid (∀ w3 aj, BytesAt w3 aj ((s.drop fr).take ln) → (∀ g o, aj = some ⟨g, o, none⟩ → ∃ o', a = some ⟨g, o', none⟩) → Below wb.heap.size wb w3 →
                (Calls Try.prog 16 #[.pointer (some ⟨p, 0, none⟩)] w3 fun e w' => ∃ sv, e = .returned (StV F sv) ∧ RgAt w3.heap.size F.L sv w' ∧ Below w3.heap.size w3 w') ∧
                ∀ w4, Below w3.heap.size w3 w4 → Calls Try.prog 11 #[.pointer (some ⟨p, 0, none⟩), .int .u64 (base + fr), .slice aj ln (cap - fr)] w4 fun e w' => e = .returned (.tuple #[.int .i64 (F.tkn (base + fr) ln), .int .i64 (F.refuses (base + fr) ln)]) ∧
                  ∃ S5, Buf w' p (F.tk (base + fr) ln) (F.tkf f (base + fr) ((s.drop fr).take ln)) S5 ∧ LoopB w1 w' p s base (1 + C) (F.tk (base + fr) ln) (F.tkf f (base + fr) ((s.drop fr).take ln)) (fun x => S5 x ∧ x < w'.heap.size) u13 k fin bx [.int .i64 px, .int .i64 py, .bool (decide (z = 1)), .int .i64 pn]) := fun w3 aj hbj haj hb3 => by
              have h3 := HIb.out.kept hb3
              refine ⟨by obtain ⟨v', b', hR⟩ := h3.i.buf.r; exact state_any hR, fun w4 hb4 => ?_⟩
              have h4 := h3.kept hb4
              refine (take_any2 h4.i.buf (off := base + fr) (by omega) (by omega) (d := (s.drop fr).take ln) (cap := cap - fr) (by simp; omega) (by omega) (hbj.kept hb4) ln (by have := HN.out; simp; omega) (fun hne g o e hs => ?_)).mono ?_
              · obtain ⟨o', e'⟩ := haj g o e
                have h5 := HAB.out (by omega) g o' e'
                have h6 := (h4.i.sb g hs).1
                omega
              · rintro e w' ⟨rfl, S5, r1, r2, r3⟩
                exact ⟨rfl, S5, r1, h4.turn r1 r2 r3 t1 ((tk_edge F (base + fr) ln).2.trans h4.i.rm)⟩
            clear t1 hfr hln
            have hfd := fld474
            have x0 := HXb.out.cell 0 _ rfl
            have x1 := HXb.out.cell 1 _ rfl
            have x2 := HXb.out.cell 2 _ rfl
            have x3 := HXb.out.cell 3 _ rfl
            have hfi : (fr : Int) + ln ≤ N := by omega
            have gp0 := gap_edge e0
            obtain ⟨gp1, gp2, _⟩ := gp0
            have hgp : 0 ≤ F.gap ∧ F.gap ≤ 9223372036854775807 := by have := e0.rd; have := e0.b0; have := e0.rm; unfold Bf.edge at ed1; omega
            rcases t2 with ⟨t3, t4, t5⟩ | ⟨t3, t4⟩ | ⟨t3, t4⟩ | ⟨t3, t4, t5⟩
            · as_aux_lemma =>
                rw [t3] at HNX
                have hbe : ¬ F.edge < base + ((fr : Int) + ln) := by omega
                have hln : ¬ (ln : Int) = 0 := by omega
                generalize F.tkn (base + fr) ln = tn at *
                clear t3 t4 t5 e0 gp1 gp2
                go_wp2_with (first | (go_at_call 10; refine HCUT.out.mono ?_; rintro e w3 ⟨aj, rfl, hbj, haj, hb3⟩; have HX3 := hid (HNX.out w3 aj hbj haj hb3); clear hbj haj hb3) | (go_at_call 16; refine HX3.out.1.mono ?_; rintro e w4 ⟨sv, rfl, ⟨gg, rfl, hgg1, hgg2⟩, hb4⟩; clear hgg1 hgg2; have HX4 := hid (HX3.out.2 w4 hb4); clear hb4; unfold StV) | (go_at_call 11; refine HX4.out.mono ?_; rintro e w5 ⟨rfl, S5, hB5, hL5⟩; have HL5 := hid hL5; have HE5 := HED.out _ _ _ _ hB5; rw [HTE.out] at HE5; clear hB5 hL5) | (go_at_call 17; refine HE5.mono ?_; rintro e w6 ⟨rfl, q6, rfl⟩))
                all_goals first | (exfalso; rename_i hh; rcases hh with hh | hh <;> first | omega | (simp at hh; omega)) | (exfalso; rename_i hh; first | omega | (simp at hh; omega)) | (go_meet; exact ⟨_, _, _, _, rfl, HL5.out.kept (below_drewN (Below.refl _ _) q6)⟩)
            · as_aux_lemma =>
                rw [t3] at HNX
                subst t4
                generalize F.tkn (base + fr) ((0 : Nat) : Int) = tn at *
                clear t3 e0 gp1 gp2
                go_wp2_with (first | (go_at_call 10; refine HCUT.out.mono ?_; rintro e w3 ⟨aj, rfl, hbj, haj, hb3⟩; have HX3 := hid (HNX.out w3 aj hbj haj hb3); clear hbj haj hb3) | (go_at_call 16; refine HX3.out.1.mono ?_; rintro e w4 ⟨sv, rfl, ⟨gg, rfl, hgg1, hgg2⟩, hb4⟩; clear hgg1 hgg2; have HX4 := hid (HX3.out.2 w4 hb4); clear hb4; unfold StV) | (go_at_call 11; refine HX4.out.mono ?_; rintro e w5 ⟨rfl, S5, hB5, hL5⟩; have HL5 := hid hL5; have HE5 := HED.out _ _ _ _ hB5; rw [HTE.out] at HE5; clear hB5 hL5) | (go_at_call 17; refine HE5.mono ?_; rintro e w6 ⟨rfl, q6, rfl⟩))
                all_goals first | (exfalso; rename_i hh; rcases hh with hh | hh <;> first | omega | (simp at hh; omega)) | (exfalso; rename_i hh; first | omega | (simp at hh; omega)) | (go_meet; exact ⟨_, _, _, _, rfl, HL5.out.kept (below_drewN (Below.refl _ _) q6)⟩)
            · as_aux_lemma =>
                rw [t3] at HNX
                have hbe : F.edge < base + ((fr : Int) + ln) := by omega
                generalize F.tkn (base + fr) ln = tn at *
                clear t3 t4 e0 gp1 gp2
                go_wp2_with (first | (go_at_call 10; refine HCUT.out.mono ?_; rintro e w3 ⟨aj, rfl, hbj, haj, hb3⟩; have HX3 := hid (HNX.out w3 aj hbj haj hb3); clear hbj haj hb3) | (go_at_call 16; refine HX3.out.1.mono ?_; rintro e w4 ⟨sv, rfl, ⟨gg, rfl, hgg1, hgg2⟩, hb4⟩; clear hgg1 hgg2; have HX4 := hid (HX3.out.2 w4 hb4); clear hb4; unfold StV) | (go_at_call 11; refine HX4.out.mono ?_; rintro e w5 ⟨rfl, S5, hB5, hL5⟩; have HL5 := hid hL5; have HE5 := HED.out _ _ _ _ hB5; rw [HTE.out] at HE5; clear hB5 hL5) | (go_at_call 17; refine HE5.mono ?_; rintro e w6 ⟨rfl, q6, rfl⟩))
                all_goals first | (exfalso; rename_i hh; rcases hh with hh | hh <;> first | omega | (simp at hh; omega)) | (exfalso; rename_i hh; first | omega | (simp at hh; omega)) | (go_meet; exact ⟨_, _, _, _, rfl, HL5.out.kept (below_drewN (Below.refl _ _) q6)⟩)
            · as_aux_lemma =>
                rw [t3] at HNX
                have hbe : ¬ F.edge < base + ((fr : Int) + ln) := by omega
                have hgg : ¬ base + (fr : Int) ≤ F.gap := by omega
                generalize F.tkn (base + fr) ln = tn at *
                clear t3 t4 t5 e0 gp1 gp2
                go_wp2_with (first | (go_at_call 10; refine HCUT.out.mono ?_; rintro e w3 ⟨aj, rfl, hbj, haj, hb3⟩; have HX3 := hid (HNX.out w3 aj hbj haj hb3); clear hbj haj hb3) | (go_at_call 16; refine HX3.out.1.mono ?_; rintro e w4 ⟨sv, rfl, ⟨gg, rfl, hgg1, hgg2⟩, hb4⟩; clear hgg1 hgg2; have HX4 := hid (HX3.out.2 w4 hb4); clear hb4; unfold StV) | (go_at_call 11; refine HX4.out.mono ?_; rintro e w5 ⟨rfl, S5, hB5, hL5⟩; have HL5 := hid hL5; have HE5 := HED.out _ _ _ _ hB5; rw [HTE.out] at HE5; clear hB5 hL5) | (go_at_call 17; refine HE5.mono ?_; rintro e w6 ⟨rfl, q6, rfl⟩))
                all_goals first | (exfalso; rename_i hh; rcases hh with hh | hh <;> first | omega | (simp at hh; omega)) | (exfalso; rename_i hh; first | omega | (simp at hh; omega)) | (go_meet; exact ⟨_, _, _, _, rfl, HL5.out.kept (below_drewN (Below.refl _ _) q6)⟩)
      case rest =>
        as_aux_lemma =>
          obtain ⟨F', f', S', fin', rfl, hL⟩ := hcut
          have x3 := hL.row.cell 3 _ rfl
          have HL := hid hL
          obtain ⟨m, hm⟩ : ∃ m, max pn 0 = m := ⟨_, rfl⟩
          have hm0 : 0 ≤ m := by omega
          have hm1 : m ≤ 9223372036854775807 := by omega
          obtain ⟨r1, r2, r3, r4⟩ := hL.i.st.read hL.i.buf.ok hm0
          have hRD := read_any hL.i.buf m hm0 hm1 (by have := hL.i.rm; have := hL.i.st.rd; have := hL.i.st.kl; have := hL.i.st.bs; have := HN.out; omega)
          rw [r4] at hRD
          have hk1 := r1.kl
          rw [HN.out] at hk1 hRD
          obtain ⟨B, hBB⟩ : ∃ B, F'.rdB f' m = B := ⟨_, rfl⟩
          obtain ⟨n, hn⟩ : ∃ n, B.length = n := ⟨_, rfl⟩
          rw [hBB] at r1 r2 r3 hRD hk1
          rw [hn] at r1 r2 r3 hRD hk1
          obtain ⟨en, hen⟩ : ∃ en, (fin' && decide (k + n = N) && decide (n = 0)) = en := ⟨_, rfl⟩
          rw [hen] at hRD
          have HRD := hid hRD
          have HR1 := hid r1
          have HR2 := hid r2
          have HNN := hid hn
          have HEN := hid hen
          have hrr := (rd_room F' m).trans hL.i.rm
          have HRR := hid hrr
          clear hL HIb HXb HBb hRD r1 r2 r4 hBB hn hen hrr
          go_upto_region 37 with (go_at_call 12; refine HRD.out.mono ?_; rintro e w3 ⟨ax, rfl, hb3, hn3, S3, hB3, hf3, hs3, hx3⟩; have HB3 := hid (And.intro hB3 (And.intro hf3 hs3)); have HY3 := hid hb3; have HN3 := hid (And.intro hn3 hx3); clear hB3 hf3 hs3 hb3 hn3 hx3)
          have HO3 : Hid (OwnBy w3 u13 (s.take k)) := ownBy_kept HL.out.i.own HB3.out.2.1 (fun g hg => (HL.out.i.ap g hg).2)
          have HAP : Hid (∀ g o, ax = some ⟨g, o, none⟩ → u13.ownBlock ≠ some g) := fun g o e e' => by
            have h1 := ownBy_lt HL.out.i.own e'
            have h2 := (HN3.out.1 g o e).1
            omega
          have hle : (s.take k).length = k := by have := HN.out; simp; omega
          have HLE := hid hle
          go_upto_region 38 with (at_builtin; refine wpAppendB rfl _ _ rfl rfl HO3.out rfl HNN.out HY3.out (by rw [HLE.out, HNN.out]; omega) ?_; intro v4 w4 h4 g4 n4; have HA4 := hid (And.intro h4 (And.intro g4 n4)); clear h4 g4 n4)
          obtain ⟨L, hLL⟩ : ∃ L, k + n = L := ⟨_, rfl⟩
          have htk : s.take k ++ B = s.take L := by rw [HR2.out, ← hLL, List.take_add]
          rw [htk] at HA4
          have HI4 : Hid (LoopI w1 w4 p s base (1 + C) (F'.rdOn m) f' (fun x => S3 x ∧ x < w3.heap.size) v4 L fin') := by
            show LoopI _ _ _ _ _ _ _ _ _ _ _ _
            have := HL.out.i.read (n := n) HB3.out.1 HB3.out.2.1 HB3.out.2.2 HR1.out HRR.out (hLL ▸ HA4.out.1) HA4.out.2.1 HA4.out.2.2
            rw [hLL] at this
            exact this
          have hx4 : Row w4 bx [.int .i64 px, .int .i64 py, .bool (decide (z = 1)), .int .i64 pn] 31 := (Fr.of_grown (S := fun x => u13.ownBlock = some x) HA4.out.2.1 (fun k hk => .inl hk)).row (HB3.out.2.1.row HL.out.row HL.out.no) (own_not_row HO3.out (HB3.out.2.1.row HL.out.row HL.out.no))
          obtain ⟨a4, c4, rfl, hb4⟩ := ownBy_shape HA4.out.1
          have hLe : (s.take L).length = L := by have := HN.out; simp; omega
          rw [hLe] at HI4 ⊢
          have y3 : ∀ q, (w4.drewN q).cell? ⟨bx, 3, none⟩ = some (.int .i64 pn) := fun q => cell_drewN (hx4.cell 3 _ rfl)
          have hcv1 : ∀ q, (convert 22 9 (.slice a4 L c4)).run Try.prog (w4.drewN q) = .ok (.string (strOf (s.take L))) (w4.drewN q) := fun q => convert_any (fun k hk => by obtain ⟨g, o, e, c⟩ := hb4 k hk; exact ⟨g, o, e, cell_drewN c⟩) hLe
          have hcv2 : ∀ q, (convert 22 9 (.slice a L cap)).run Try.prog (w4.drewN q) = .ok (.string (strOf (s.take L))) (w4.drewN q) := fun q => convert_any (fun k hk => by obtain ⟨g, o, e, c⟩ := bytes_take (HB.out.kept HI4.out.bel) L k hk; exact ⟨g, o, e, cell_drewN c⟩) hLe
          have HLL := hid hLL
          rw [HLL.out] at HEN hk1
          have hk2 : (L : Int) ≤ N := by omega
          have hk3 : ¬ m < n := by omega
          generalize strOf (s.take L) = str at hcv1 hcv2
          clear HA4 hb4 hLe htk hLL hx4 HO3 HAP HLE hle HR1 HR2 HRD HB3 HY3 HN3 x3
          have hLc : L ≤ cap := by omega
          refine wp_region_quiet_lit (by kernel_rfl) (by kernel_rfl) ?_
          iterate 27 (quiet_step (fail))
          refine wpQuiet_nil ?_
          intro w5 hw5
          obtain ⟨nq, rfl⟩ := hw5
          clear hcv1 hcv2 y3 hm0 hm1 hm r3 hk3 hLc hpn hc hcm hN2 hx hb0 hb1 c0 c1 g0 g1
          go_upto_region 40 with fail
          cases fin' with
            | false =>
              as_aux_lemma =>
                obtain rfl : en = false := by have := HEN.out; simpa using this.symm
                clear HEN
                go_wp2_with fail
                go_roundw
                case rel => exact ⟨i + 1, L, _, _, _, _, hlt, by go_num, rfl, HI4.out.kept (below_drewN (Below.refl _ _) nq)⟩
                case measure => simp [intOf]; omega
            | true =>
              by_cases hLN : L = N
              · subst hLN
                by_cases hn0 : n = 0
                · as_aux_lemma =>
                    subst hn0
                    obtain rfl : en = true := by have := HEN.out; simpa using this.symm
                    clear HEN
                    go_wp2_with fail
                    go_roundw
                    case rel => exact ⟨i + 1, L, _, _, _, _, hlt, by go_num, rfl, HI4.out.kept (below_drewN (Below.refl _ _) nq)⟩
                    case measure => simp [intOf]; omega
                · as_aux_lemma =>
                    obtain rfl : en = false := by have := HEN.out; simpa [hn0] using this.symm
                    have hn1 : ¬ (n : Int) = 0 := by omega
                    clear HEN
                    go_wp2_with fail
                    go_roundw
                    case rel => exact ⟨i + 1, L, _, _, _, _, hlt, by go_num, rfl, HI4.out.kept (below_drewN (Below.refl _ _) nq)⟩
                    case measure => simp [intOf]; omega
              · as_aux_lemma =>
                  obtain rfl : en = false := by have := HEN.out; simpa [hLN] using this.symm
                  have hn1 : ¬ (L : Int) = N := by omega
                  clear HEN
                  go_wp2_with fail
                  go_roundw
                  case rel => exact ⟨i + 1, L, _, _, _, _, hlt, by go_num, rfl, HI4.out.kept (below_drewN (Below.refl _ _) nq)⟩
                  case measure => simp [intOf]; omega
    · as_aux_lemma =>
        obtain rfl : i = M := by omega
        have hki : ¬ (i : Int) < (i : Int) := by omega
        obtain ⟨a4, c4, rfl, hb4⟩ := ownBy_shape HI.out.own
        have hLe : (s.take k).length = k := by have := HN.out; have := HI.out.st.kl; simp; omega
        rw [hLe] at HI ⊢
        have hkN : (k : Int) ≤ N := by have := HN.out; have := HI.out.st.kl; omega
        have hAl := alive_any wr
        have HST : Hid (∀ w3, Below wr.heap.size wr w3 → Calls Try.prog 16 #[.pointer (some ⟨p, 0, none⟩)] w3 fun e w' => ∃ sv, e = .returned (StV F sv) ∧ RgAt w3.heap.size F.L sv w' ∧ Below w3.heap.size w3 w') := fun w3 hb => by obtain ⟨v', b', hR⟩ := HI.out.buf.r; exact state_any (hR.kept hb)
        have hrd := HI.out.st.rd
        have hfd := fld473
        have hbel := hid HI.out.bel
        clear hLe hb4
        go_wp2_with (first | (go_at_call 13; refine hAl.mono ?_; rintro e w3 ⟨rfl, hb3⟩; have HX3 := HST.out w3 hb3; have HB3 := hid hb3; clear hb3) | (go_at_call 16; refine HX3.mono ?_; rintro e w4 ⟨sv, rfl, ⟨gg, rfl, hgg1, hgg2⟩, hb4⟩; clear hgg1 hgg2; have HB4 := hid hb4; clear hb4; unfold StV; rw [hrd]))
        go_ret
        exact ⟨rfl, hbel.out.trans ((HB3.out.trans (HB4.out.mono HB3.out.size)).mono hbel.out.size)⟩
end Go.Proofs.Ytimiokbnhneggaa
