import Derived.Test.YtimiokbnhneggaaTk0
namespace Go.Proofs.Ytimiokbnhneggaa
open Go.RowKit Go.Maps Go.Sort
set_option maxRecDepth 100000

theorem below_drop {q : Nat} {w w' : World} (h : Below (w.drewN q).heap.size (w.drewN q) w') : Below w.heap.size w w' := ⟨h.os, h.tape, h.output, h.size, h.block⟩
theorem own_shape' {w : World} {base : Nat} {v : Value} {n : Nat} {xs : List Value} (h : w.ownsRow base 50 2 v n xs) : ∃ a cap, v = .slice a n cap := by
  obtain ⟨rfl, rfl⟩ | ⟨g, cap, cur, rfl, _⟩ := h.2
  · exact ⟨none, 0, rfl⟩
  · exact ⟨_, _, rfl⟩
theorem miss_cells {w : World} {base : Nat} {am : Option Addr} {cm : Nat} {M : List Rg} (h : w.ownsRow base 50 2 (.slice am M.length cm) M.length (flat M)) (k : Nat) (hk : k < M.length) :
    ∃ gm cur, am = some ⟨gm, 0, none⟩ ∧ w.heap[gm]? = some (.cells cur 50 (0, 0)) ∧ w.cell? ⟨gm, k * 2, none⟩ = some (.int .u64 M[k].1) ∧ w.cell? ⟨gm, k * 2 + 1, none⟩ = some (.int .u64 M[k].2) := by
  obtain ⟨_, ⟨_, hn⟩ | ⟨g, cap, cur, hv, _, hg, hnc, hcm, hcs, htk⟩⟩ := h
  · omega
  · injection hv with hv1 hv2
    refine ⟨g, cur, hv1, hg, ?_, ?_⟩
    · rw [cell_of_row w g _ _ _ _ hg, ← (flat_get M k hk).1, ← htk, List.getElem?_take, if_pos (by omega), Array.getElem?_toList]
    · rw [cell_of_row w g _ _ _ _ hg, ← (flat_get M k hk).2, ← htk, List.getElem?_take, if_pos (by omega), Array.getElem?_toList]
/-- What stands when a chunk is taken. -/
theorem take_done {w wc wr w5 : World} {p b n n' : Nat} {v v' : Value} {D D' : DM} {F : Bf} {f : Int → BitVec 8} {off : Int} {d : List (BitVec 8)} {N : Nat} {rl rh : Int} (H : BufAt w p v b n D F f) (hb : Below w.heap.size w wc) (hN : d.length = N) (hR : F.rg off N = (rl, rh)) (hl0 : 0 ≤ rl) (hl1 : rl ≤ 18446744073709551615) (hh1 : rh ≤ 18446744073709551615)
    (L : LayAt wc wr b n D D' (missL F.L (rl, rh)) off d (missL F.L (rl, rh)).length n') (hok : (F.took off N).Ok) (S : BvAt w5 p v' (F.cells b) (addL F.L (rl, rh))) (T : Turned wr w5 p v v') :
    BufAt w5 p v' b n' D' (F.took off N) (F.new f off d) ∧ Fr (Foot p v b D) w w5 ∧ ∀ k, Foot p v' b D' k → Foot p v b D k ∨ w.heap.size ≤ k := by
  have hs4 := H.sto.kept_below hb
  have hr4 := H.r.kept hb
  have hrr := hr4.fr hs4 L.fr
  have hTF : Fr (fun k => k = p ∨ v.ownBlock = some k) wr w5 := ⟨T.os, T.tape, T.output, T.size, fun k hk hn => T.block k hk (fun e => hn (.inl e)) (fun e => hn (.inr e.symm))⟩
  have hnS : ∀ k, SB b D' k → ¬ (k = p ∨ v.ownBlock = some k) := by
    rintro k hk (e | e)
    · subst e; exact L.sto.not_of_cells hrr.set.hp (by decide) hk
    · rcases hrr.set.own.2 with ⟨rfl, _⟩ | ⟨g, c, cur, rfl, _, hg, _⟩
      · simp [Value.ownBlock] at e
      · simp only [Value.ownBlock, Option.some.injEq] at e
        subst e
        exact L.sto.not_of_cells hg (by decide) hk
  have ha : F.took off N = { F with L := addL F.L (rl, rh) } := by unfold Bf.took; rw [hR]
  have hmm := missL_mem H.r.ok.fit (rl, rh) hl1
  have hrl : rl = max off F.read := by unfold Bf.rg at hR; exact (congrArg Prod.fst hR).symm
  have hrh : rh = off + N := by unfold Bf.rg at hR; exact (congrArg Prod.snd hR).symm
  refine ⟨⟨⟨?_, hok⟩, L.sto.kept hTF hnS, ?_, ?_⟩, ?_, ?_⟩
  · rw [ha]; exact S
  · intro x hx
    rw [ha] at hx
    have hx' := (addL_mem H.r.ok.fit (rl, rh) x).1 hx
    refine At.kept (S := fun k => k = p ∨ v.ownBlock = some k) (b := b) ?_ hTF hnS
    unfold Bf.new
    by_cases hm : mem F.L x
    · rw [if_pos ((gap_iff H.r.ok.fit x).2 hm)]
      exact L.old x _ ((H.byt x hm).kept_below hb) (fun e => ((hmm x).1 e).2 hm)
    · rw [if_neg (fun e => hm ((gap_iff H.r.ok.fit x).1 e))]
      rcases hx' with e | e
      · exact absurd e hm
      · simp only at e
        have hlt : (x - off).toNat < d.length := by omega
        refine L.new x ?_ _ ?_
        · rw [List.take_length]; exact (hmm x).2 ⟨e, hm⟩
        · rw [List.getElem?_eq_getElem hlt]; rfl
  · have h1 := L.few
    have h2 := H.few
    have h3 := missL_total H.r.ok.fit (rl, rh) hl0 hl1 hh1
    have h4 := addL_total H.r.ok.fit (rl, rh) hl0 hh1
    rw [List.take_length] at h1
    rw [ha]
    simp only
    omega
  · have f1 : Fr (Foot p v b D) w wc := Fr.of_below hb (Nat.le_refl _)
    have f2 : Fr (Foot p v b D) w wr := f1.trans L.fr (fun x e => .inl (.inr (.inr e)))
    exact f2.trans hTF (fun x e => .inl (by rcases e with e | e; exact .inl e; exact .inr (.inl e)))
  · intro k hk
    rcases hk with e | e | e
    · exact .inl (.inl e)
    · rcases T.row with t | ⟨g, t, hg⟩
      · rw [t] at e; exact .inl (.inr (.inl e))
      · rw [t] at e
        simp only [Option.some.injEq] at e
        subst e
        exact .inr (Nat.le_trans (Nat.le_trans hb.size L.fr.size) hg)
    · rcases L.sub k e with e | e
      · exact .inl (.inr (.inr e))
      · exact .inr (Nat.le_trans hb.size e)
set_option maxHeartbeats 8000000 in
theorem take_some {w : World} {p b n : Nat} {v : Value} {D : DM} {F : Bf} {f : Int → BitVec 8} (H : BufAt w p v b n D F f) {off : Int} (h0 : 0 ≤ off) {d : List (BitVec 8)} {a : Option Addr} {cap : Nat} (hcap : d.length ≤ cap) (hcm : cap ≤ maxLen) (hB : BytesAt w a d)
    (hS : ∀ g o, a = some ⟨g, o, none⟩ → ¬ SB b D g) (N : Nat) (hN : d.length = N) (hr : F.refuses off N = 0) (rl rh : Int) (hR : F.rg off N = (rl, rh)) :
    Calls Try.prog 11 #[.pointer (some ⟨p, 0, none⟩), .int .u64 off, .slice a N cap] w fun e w' => e = .returned (.tuple #[.int .i64 (freshOf F.L (rl, rh)), .int .i64 0]) ∧
      ∃ v' n' D', BufAt w' p v' b n' D' (F.took off N) (F.new f off d) ∧ Fr (Foot p v b D) w w' ∧ ∀ k, Foot p v' b D' k → Foot p v b D k ∨ w.heap.size ≤ k := by
  obtain ⟨r1, r2, r3, r4, r5⟩ := refuses_ok hr
  have hok := took_ok H.r.ok h0 (by omega) hr
  have hsum : off + N ≤ 9223372038000000000 := by have := H.r.ok.rm; have := H.r.ok.r1; unfold Bf.edge at r3; omega
  have hpos : 0 < d.length := by omega
  obtain ⟨gs, os, rfl, hx0⟩ := hB 0 hpos
  clear hx0
  have HRF : Hid (Calls Try.prog 22 #[.pointer (some ⟨p, 0, none⟩), .int .u64 off, .int .u64 N] w fun e w' => e = .returned (.int .i64 0) ∧ Below w.heap.size w w') := by
    have := refuses_any H.r off N h0 (by omega) (by omega) (by omega)
    rw [hr] at this
    exact this
  have hRl : rl = max off F.read := by unfold Bf.rg at hR; exact (congrArg Prod.fst hR).symm
  have hRh : rh = off + N := by unfold Bf.rg at hR; exact (congrArg Prod.snd hR).symm
  have hrd : 0 ≤ F.read := by have := H.r.ok.rd; have := H.r.ok.b0; omega
  have hrm := H.r.ok.rm
  have hl0 : 0 ≤ rl := by omega
  have hl1 : rl ≤ 18446744073709551615 := by omega
  have hh1 : rh ≤ 18446744073709551615 := by omega
  have HUN : Hid (∀ W, Below w.heap.size w W → Calls Try.prog 23 #[.pointer (some ⟨p, 0, none⟩), .int .u64 off, .int .u64 N] W fun e w' => e = .returned (.agg #[.int .u64 rl, .int .u64 rh]) ∧ Below W.heap.size W w') := fun W hb => by
    rw [hRl, hRh]
    exact unread_any (H.r.kept hb) off N h0 (by omega) (by omega)
  have HMI : Hid (∀ W, Below w.heap.size w W → Calls Try.prog 24 #[.pointer (some ⟨p, 0, none⟩), .agg #[.int .u64 rl, .int .u64 rh]] W fun e w' => ∃ am cm, e = .returned (.slice am (missL F.L (rl, rh)).length cm) ∧ w'.ownsRow (W.heap.size + 1) 50 2 (.slice am (missL F.L (rl, rh)).length cm) (missL F.L (rl, rh)).length (flat (missL F.L (rl, rh))) ∧ Below W.heap.size W w') := fun W hb => by
    obtain ⟨av, cv, rfl, V⟩ := (H.r.kept hb).view
    refine (missing_any (rl, rh) hl0 hl1 (by have := H.r.ok.len; omega) V H.r.ok.fit).mono ?_
    rintro e w' ⟨mv, rfl, hrow, hb'⟩
    obtain ⟨am, cm, rfl⟩ := own_shape' hrow
    exact ⟨am, cm, rfl, hrow, hb'⟩
  have HOK := hid hok
  have H0 := hid H
  have HB := hid hB
  have HS := hid hS
  have HN := hid hN
  have HRL := hid hRl
  have HRH := hid hRh
  have HE := hid r3
  have HRG := hid hR
  have hNi : (N : Int) ≤ 9223372036854775807 := by unfold maxLen at hcm; omega
  have hNn : ¬ N = 0 := by omega
  clear H hB hS hok r1 r2 r3 r4 r5 hr hpos hR hRl hRh hN
  go_enter Try.func11, Try.ntmps11
  go_upto_region 5 with (first | (go_at_call 22; refine HRF.out.mono ?_; rintro e w1 ⟨rfl, hb1⟩; have HB1 := hid hb1; clear hb1) | (go_at_call 23; refine (HUN.out _ HB1.out).mono ?_; rintro e w2 ⟨rfl, hb2⟩; have HB2 := hid hb2; clear hb2))
  refine wp_world fun W3 HW => ?_
  have HX3 : Hid (Row W3 w2.heap.size [.int .u64 rl, .int .u64 rh] 50) := by show Row _ _ _ _; rw [HW.out]; exact Row.new' _ _ _ _ _ rfl rfl
  have HB3 : Hid (Below w.heap.size w W3) := by show Below _ _ _; rw [HW.out]; exact HB1.out.trans ((HB2.out.alloc HB2.out.size _).mono HB1.out.size)
  have HXB : Hid (w.heap.size ≤ w2.heap.size) := Nat.le_trans HB1.out.size HB2.out.size
  obtain ⟨bx, hbx⟩ : ∃ bx, bx = w2.heap.size := ⟨_, rfl⟩
  rw [← hbx] at HX3 HXB ⊢
  clear HW HB1 HB2 HRF HUN hbx
  have x0 := HX3.out.cell 0 _ rfl
  have x1 := HX3.out.cell 1 _ rfl
  have HM3 := hid (HMI.out (World.drewN W3 1) (below_drewN HB3.out 1))
  go_cut [31, 32, 33] from 12 (fun s31 s32 s33 wc => ∃ am cm, s31 = .slice am (missL F.L (rl, rh)).length cm ∧ s32 = .int .i64 (missL F.L (rl, rh)).length ∧ s33 = .int .i64 0 ∧ wc.ownsRow (W3.heap.size + 1) 50 2 (.slice am (missL F.L (rl, rh)).length cm) (missL F.L (rl, rh)).length (flat (missL F.L (rl, rh))) ∧ Below W3.heap.size W3 wc)
  case first =>
    clear HMI H0 HOK HB HS
    go_region_with (go_at_call 24; refine HM3.out.mono ?_; rintro e w4 ⟨am, cm, rfl, hrow, hb4⟩; have HH4 := hid (And.intro hrow hb4); clear hrow hb4)
    all_goals (go_wp2_with fail; go_meet; exact ⟨_, _, rfl, rfl, rfl, HH4.out.1, below_drop HH4.out.2⟩)
  case rest =>
    obtain ⟨am, cm, rfl, rfl, rfl, hrow, hb4⟩ := hcut
    clear HM3 HMI x0 x1
    have hME := missL_each H0.out.r.ok.fit (rl, rh) hl1
    have HB4 : Hid (Below w.heap.size w wc) := HB3.out.trans (hb4.mono HB3.out.size)
    have HX4 : Hid (Row wc bx [.int .u64 rl, .int .u64 rh] 50) := HX3.out.kept hb4 HX3.out.lt
    have HRW : Hid (∀ k (hk : k < (missL F.L (rl, rh)).length), ∃ gm cur, am = some ⟨gm, 0, none⟩ ∧ wc.heap[gm]? = some (.cells cur 50 (0, 0)) ∧ wc.cell? ⟨gm, k * 2, none⟩ = some (.int .u64 (missL F.L (rl, rh))[k].1) ∧ wc.cell? ⟨gm, k * 2 + 1, none⟩ = some (.int .u64 (missL F.L (rl, rh))[k].2)) := fun k hk => miss_cells hrow k hk
    have HST : Hid (LayAt wc wc b n D D (missL F.L (rl, rh)) off d 0 n) := LayAt.start (H0.out.sto.kept_below HB4.out) _ _ _
    have HR4 : Hid (BufR wc p v b F) := H0.out.r.kept HB4.out
    have HBY : Hid (BytesAt wc (some ⟨gs, os, none⟩) d) := HB.out.kept HB4.out
    have HSS : Hid (¬ SB b D gs) := HS.out _ _ rfl
    have HST4 : Hid (Sto wc b n D) := H0.out.sto.kept_below HB4.out
    have HMEM := hid (missL_mem H0.out.r.ok.fit (rl, rh) hl1)
    have HTOT := hid (missL_total H0.out.r.ok.fit (rl, rh) hl0 hl1 hh1)
    have HE1 : Hid (∀ m ∈ missL F.L (rl, rh), off ≤ m.1 ∧ m.1 < m.2 ∧ m.2 ≤ off + d.length) := fun m hm => by
      have := hME.1 m hm
      have h1 := HRL.out
      have h2 := HRH.out
      have h3 := HN.out
      simp only at this
      omega
    have HPW := hid hME.2.1
    have hMl : (missL F.L (rl, rh)).length ≤ 66 := by have := hME.2.2; have := H0.out.r.ok.len; omega
    have HNM : Hid ((n : Int) + total (missL F.L (rl, rh)) ≤ 2305843010300000000) := by
      show _ ≤ _
      have h1 := H0.out.few
      have h2 := HTOT.out
      have h3 := HOK.out.tot
      have h4 := addL_total H0.out.r.ok.fit (rl, rh) hl0 hh1
      have h5 := H0.out.r.ok.rm2
      have h6 := H0.out.r.ok.r1
      have h7 : total (addL F.L (rl, rh)) ≤ F.room := by rw [← HRG.out]; exact h3
      omega
    clear hrow hb4 HB3 HX3 HB HS hME
    obtain ⟨M, hM⟩ : ∃ M, M = missL F.L (rl, rh) := ⟨_, rfl⟩
    have HME := hid hM
    rw [← hM] at HRW HST HMEM HTOT HE1 HPW hMl HNM ⊢
    clear hM
    go_wp2_with fail
    go_loopw [33] (fun s33 wr => ∃ (k n' : Nat) (D' : DM), k ≤ M.length ∧ s33 = .int .i64 k ∧ LayAt wc wr b n D D' M off d k n') (fun s _ => M.length - (intOf s).toNat)
    case atStart => exact ⟨0, n, D, Nat.zero_le _, rfl, HST.out⟩
    case round =>
      obtain ⟨k, n', D', hk, rfl, hL⟩ := hrel
      have HL := hid hL
      clear hL HST
      by_cases hlt : k < M.length
      · obtain ⟨gm, cur, rfl, hgm, c0, c1⟩ := HRW.out k hlt
        have hgn : ¬ SB b D gm := HST4.out.not_of_cells hgm (by decide)
        have d0 := HL.out.fr.cell c0 hgn
        have d1 := HL.out.fr.cell c1 hgn
        obtain ⟨e1, e2, e3⟩ := HE1.out M[k] (List.getElem_mem hlt)
        clear hgm c0 c1 hgn
        have HNX := hid (fun wb w2 D2 n2 (hb : Below wr.heap.size wr wb) P => LayAt.next (w2 := w2) (D2 := D2) (n2 := n2) HL.out hlt hb HPW.out HE1.out P)
        obtain ⟨ml, hml⟩ : ∃ x, x = M[k].1 := ⟨_, rfl⟩
        obtain ⟨mh, hmh⟩ : ∃ x, x = M[k].2 := ⟨_, rfl⟩
        rw [← hml, ← hmh] at HNX
        rw [← hml] at e1 e2 d0
        rw [← hmh] at e2 e3 d1
        have hmlE := hid hml
        have hmhE := hid hmh
        clear hml hmh
        have hki : (k : Int) < (M.length : Int) := by omega
        have q1 := (HR4.out.fr HST4.out HL.out.fr).row.cell 1 _ rfl
        have HQ1 := hid q1
        clear q1
        rw [HN.out] at e3
        go_upto_region 8 with fail
        refine wp_world fun wb HW => ?_
        have HXb : Hid (Row wb wr.heap.size [.int .u64 ml, .int .u64 mh] 50) := by show Row _ _ _ _; rw [HW.out]; exact Row.new' _ _ _ _ _ rfl rfl
        have HBb : Hid (Below wr.heap.size wr wb) := by show Below _ _ _; rw [HW.out]; exact (Below.refl _ _).alloc (Nat.le_refl _) _
        clear HW d0 d1
        have HXq := hid (HXb.out.drawn (wb.drawn + 1))
        have HBq : Hid (Below wr.heap.size wr { wb with drawn := wb.drawn + 1 }) := ⟨HBb.out.os, HBb.out.tape, HBb.out.output, HBb.out.size, HBb.out.block⟩
        clear HXb HBb
        refine wp_region_still_tail 16 (by kernel_rfl) (by decide +kernel) ?_
        generalize ({ wb with drawn := wb.drawn + 1 } : World) = wq at *
        have q1 := cell_kept HBq.out HQ1.out
        have x0 := HXq.out.cell 0 _ rfl
        have x1 := HXq.out.cell 1 _ rfl
        obtain ⟨A0, hA0⟩ : ∃ A0 : Nat, (A0 : Int) = ml - off := ⟨(ml - off).toNat, by omega⟩
        obtain ⟨A1, hA1⟩ : ∃ A1 : Nat, (A1 : Int) = mh - off := ⟨(mh - off).toNat, by omega⟩
        have s0 : IntKind.u64.wrap (ml - off) = (A0 : Int) := by rw [IntKind.wrap_u64]; omega
        have s1 : IntKind.u64.wrap (mh - off) = (A1 : Int) := by rw [IntKind.wrap_u64]; omega
        have s2 : A0 ≤ A1 := by omega
        have s3 : A1 ≤ cap := by have := HN.out; omega
        have s4 : ¬ cap = A0 := by have := HN.out; omega
        have HA := hid (And.intro hA0 hA1)
        clear hA0 hA1
        clear HQ1 HXq
        simp only [List.take_succ_cons, List.take_zero, List.drop_succ_cons, List.drop_zero]
        have HSQ := hid (HL.out.sto.kept_below HBq.out)
        have hgl : gs < wc.heap.size := by obtain ⟨g', o', e', c'⟩ := HBY.out 0 (by have := HN.out; omega); cases e'; exact World.block_lt_of_cell? _ _ c'
        have hpl : ((d.drop A0).take (A1 - A0)).length = A1 - A0 := by have := HN.out; have := HA.out; simp; omega
        have hBQ : BytesAt wq (some ⟨gs, os + A0, none⟩) ((d.drop A0).take (A1 - A0)) := fun i hi => by
          refine ⟨gs, os + A0, rfl, ?_⟩
          rw [hpl] at hi
          have hn := HN.out
          have ha := HA.out
          obtain ⟨g', o', e', c'⟩ := HBY.out (A0 + i) (by omega)
          cases e'
          have c2 := cell_kept HBq.out (HL.out.fr.cell c' HSS.out)
          rw [List.getElem_take, List.getElem_drop, Nat.add_assoc]
          exact c2
        have hPut := put_any HSQ.out (x := ml) (by omega) (d := (d.drop A0).take (A1 - A0)) (by rw [hpl]; have := HA.out; omega)
          (by
            rw [hpl]
            have h1 := HL.out.few
            have h2 := HNM.out
            have h3 := total_take_le (M := M) (fun r hr => (HE1.out r hr).2.1) (k + 1)
            have h4 : total (M.take (k + 1)) = total (M.take k) + (mh - ml) := by rw [List.take_add_one, List.getElem?_eq_getElem hlt, total_append]; simp only [Option.toList_some, total]; rw [← hmlE.out, ← hmhE.out]; omega
            have h5 := HA.out
            omega)
          (a := some ⟨gs, os + A0, none⟩) (cap := cap - A0) (by rw [hpl]; omega) (by omega) hBQ (fun g o e => by
            cases e
            intro hsb
            rcases HL.out.sub _ hsb with e | e
            · exact HSS.out e
            · omega)
        rw [hpl] at hPut
        have HNX2 : Hid (∀ w2 D2 n2, PutAt wq w2 b n' D' D2 ml ((d.drop A0).take (A1 - A0)) (A1 - A0) n2 → LayAt wc w2 b n D D2 M off d (k + 1) n2) := fun w2 D2 n2 P => by
          refine HNX.out wq w2 D2 n2 HBq.out ?_
          rw [show (ml - off).toNat = A0 by have := HA.out; omega, show (mh - ml).toNat = A1 - A0 by have := HA.out; omega, hpl]
          exact P
        clear hBQ hpl HSQ hgl HNX HA HBq hmlE hmhE HL
        iterate 16 still_step
        refine wpStill_nil ?_
        go_wp2_with (go_at_call 25; refine hPut.mono ?_; rintro e w2 ⟨rfl, n2, D2, hP⟩; have HL2 := hid (HNX2.out _ _ _ hP); clear hP hPut HNX2)
        refine ⟨⟨k + 1, n2, D2, hlt, by first | go_num | rfl, HL2.out⟩, ?_⟩
        simp [intOf]
        omega
      · obtain rfl : k = M.length := by omega
        have hki : ¬ (M.length : Int) < (M.length : Int) := by omega
        have hBX : ¬ SB b D bx := HST4.out.not_of_cells HX4.out.at_ (by decide)
        have HXr := hid (HL.out.fr.row HX4.out hBX)
        have HRr := hid (HR4.out.fr HST4.out HL.out.fr)
        have HFR : Hid (0 ≤ freshOf F.L (rl, rh) ∧ freshOf F.L (rl, rh) ≤ 2305843010300000000) := by
          show _ ∧ _
          have h1 := HTOT.out
          have h2 := HNM.out
          have h3 := (total_zero (L := M) (fun r hr => (HE1.out r hr).2.1)).1
          omega
        have HDN : Hid (∀ w5 v', BvAt w5 p v' (F.cells b) (addL F.L (rl, rh)) → Turned wr w5 p v v' → ∃ v' n' D', BufAt w5 p v' b n' D' (F.took off N) (F.new f off d) ∧ Fr (Foot p v b D) w w5 ∧ ∀ k, Foot p v' b D' k → Foot p v b D k ∨ w.heap.size ≤ k) := fun w5 v' hS hT =>
          ⟨v', n', D', take_done H0.out HB4.out HN.out HRG.out hl0 hl1 hh1 (by rw [← HME.out]; exact HL.out) HOK.out hS hT⟩
        clear HL HX4 HR4 HST4 hBX HE1 HTOT HMEM HPW HNM HBY HSS HRW HB4
        go_upto_region 10 with fail
        have HXq := hid (HXr.out.drawn (wr.drawn + 1))
        have HRq : Hid (BufR { wr with drawn := wr.drawn + 1 } p v b F) := HRr.out.kept ⟨rfl, rfl, rfl, Nat.le_refl _, fun _ _ => rfl⟩
        have HDQ : Hid (∀ w5 v', BvAt w5 p v' (F.cells b) (addL F.L (rl, rh)) → Turned { wr with drawn := wr.drawn + 1 } w5 p v v' → ∃ v' n' D', BufAt w5 p v' b n' D' (F.took off N) (F.new f off d) ∧ Fr (Foot p v b D) w w5 ∧ ∀ k, Foot p v' b D' k → Foot p v b D k ∨ w.heap.size ≤ k) := fun w5 v' hS hT => HDN.out w5 v' hS ⟨hT.os, hT.tape, hT.output, hT.size, hT.block, hT.row⟩
        refine wp_region_still_tail 4 (by kernel_rfl) (by decide +kernel) ?_
        generalize ({ wr with drawn := wr.drawn + 1 } : World) = wq at *
        have hA := bv_add_any HRq.out.set HRq.out.ok.fit (by have := HRq.out.ok.len; omega) (rl, rh) hl0 hh1
        simp only at hA
        have x0 := HXq.out.cell 0 _ rfl
        have x1 := HXq.out.cell 1 _ rfl
        have y0 := HFR.out.1
        have y1 := HFR.out.2
        obtain ⟨fo, hfo⟩ : ∃ fo, freshOf F.L (rl, rh) = fo := ⟨_, rfl⟩
        rw [hfo] at hA y0 y1
        have HFO := hid hfo
        clear hfo
        clear HXr HRr HDN HXq HRq HFR
        simp only [List.take_succ_cons, List.take_zero, List.drop_succ_cons, List.drop_zero]
        iterate 4 still_step
        refine wpStill_nil ?_
        go_wp2_with (go_at_call 26; refine hA.mono ?_; rintro e w5 ⟨rfl, v5, hS5, hT5⟩; have HF := hid (HDQ.out _ _ hS5 hT5); clear hS5 hT5 hA HDQ)
        go_ret2
        rw [HFO.out]
        exact ⟨rfl, HF.out⟩
set_option maxHeartbeats 2000000 in
theorem take_no {w : World} {p b : Nat} {v : Value} {F : Bf} (H : BufR w p v b F) {off : Int} (h0 : 0 ≤ off) (hx : off ≤ 18446744073709551615) {a : Option Addr} {cap : Nat} (N : Nat) (hN : N ≤ cap) (hcm : cap ≤ maxLen) (hr : F.refuses off N ≠ 0) :
    Calls Try.prog 11 #[.pointer (some ⟨p, 0, none⟩), .int .u64 off, .slice a N cap] w fun e w' => e = .returned (.tuple #[.int .i64 0, .int .i64 (F.refuses off N)]) ∧ Below w.heap.size w w' := by
  have hNi : (N : Int) ≤ 9223372036854775807 := by unfold maxLen at hcm; omega
  have hR := refuses_any H off N h0 (by omega) hx (by omega)
  clear H
  generalize F.refuses off N = e at *
  go_enter Try.func11, Try.ntmps11
  go_wp2_with (go_at_call 22; refine hR.mono ?_; rintro e w1 ⟨rfl, hb1⟩; have HB1 := hid hb1; clear hb1)
  go_ret2
  exact ⟨rfl, HB1.out⟩
end Go.Proofs.Ytimiokbnhneggaa
