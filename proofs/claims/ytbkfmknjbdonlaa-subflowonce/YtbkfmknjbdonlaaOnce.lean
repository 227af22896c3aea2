import Derived.Test.YtbkfmknjbdonlaaOnce0
namespace Go.Proofs.Ytbkfmknjbdonlaa
open Go.RowKit Go.Maps
set_option maxRecDepth 100000

theorem drop_cons {α : Type} (l : List α) (j : Nat) (h : j < l.length) : l.drop j = l[j] :: l.drop (j + 1) := List.drop_eq_getElem_cons h
theorem i67 : (Try.prog.info? 67).map (·.size) = some 7 := by kernel_rfl
theorem info4 : (Try.prog.info? 4).map (fun i => (i.zero, i.size, i.bytes)) = some (some (.bool false), 1, 1) := by kernel_rfl
def newIt (T : List It) (im of_ nn nw : Int) : It := ⟨(T.length : Int), im, of_, nn, nw⟩
theorem rows_apart {w : World} {b1 b2 n m : Nat} {v u : Value} {xs ys : List Value} (h : w.ownsRow b1 60 5 v n xs) (k : w.ownsRow b2 4 1 u m ys) {y : Nat} (e1 : v.ownBlock = some y) (e2 : u.ownBlock = some y) : False := by
  rcases h.2 with ⟨rfl, _⟩ | ⟨gg, _, _, rfl, _, h2, _⟩
  · simp [Value.ownBlock] at e1
  · rcases k.2 with ⟨rfl, _⟩ | ⟨gk, _, _, rfl, _, k2, _⟩
    · simp [Value.ownBlock] at e2
    · simp only [Value.ownBlock, Option.some.injEq] at e1 e2
      rw [e1] at h2
      rw [e2, h2] at k2
      simp at k2
theorem flow_keptB {w w' : World} {p b g B : Nat} {F : Fl} (h : FlowAt w p b g F) (hb : Below B w w') (hl : p < B ∧ b < B ∧ g < B) : FlowAt w' p b g F := ⟨h.row.kept hb hl.1, h.map.block (hb.block b hl.2.1), Row.kept h.est hb hl.2.2⟩
theorem frozen_below {w w' : World} (hb : Below w.heap.size w w') {a : Addr} (h : a.block < w.heap.size) : w'.frozen? a = w.frozen? a := by
  simp [World.frozen?, hb.block _ h]
theorem tick_idle {w : World} {p b g : Nat} {F : Fl} (h : FlowAt w p b g F) (ok : F.Ok) (now : Int) (hn1 : now ≤ 18446744073709551615) (hno : F.U.length = 0 ∨ now < F.mark ∨ now - F.mark < F.E.rto) :
    Calls Try.prog 22 #[.pointer (some ⟨p, 0, none⟩), .int .u64 now] w fun e w' => e = .returned (.tuple #[.slice none 0 0, .bool false]) ∧ Below w.heap.size w w' := by
  by_cases h0 : F.U.length = 0
  · exact tick_none h ok h0 now
  · by_cases h1 : now < F.mark
    · exact tick_ahead h ok h0 now h1
    · exact tick_soon h ok h0 now hn1 h1 (by omega)
theorem heard_split (F : Fl) (now : Int) (Q : List Rg) : ∀ x, x ∈ F.U ↔ x ∈ (F.heard now Q).U ∨ x ∈ F.ackd Q ++ F.lost Q := fun x => by
  unfold Fl.heard Fl.ackd Fl.lost
  simp only [List.mem_append, List.mem_filter]
  cases tb Q x <;> cases lb (lastHi Q) x <;> simp
theorem heard_apart (F : Fl) (now : Int) (Q : List Rg) : ∀ x ∈ F.ackd Q ++ F.lost Q, x ∉ (F.heard now Q).U := fun x hx hy => by
  unfold Fl.heard at hy
  unfold Fl.ackd Fl.lost at hx
  simp only [List.mem_append, List.mem_filter] at hx hy
  rcases hx with h | h
  · rw [h.2] at hy; simp at hy
  · rw [h.2] at hy; simp at hy
theorem heard_nodup {F : Fl} (ok : F.Ok) (Q : List Rg) : (F.ackd Q ++ F.lost Q).Nodup := by
  have hU : F.U.Nodup := List.Pairwise.imp (fun h e => by subst e; omega) ok.rise
  rw [List.nodup_append]
  refine ⟨hU.filter _, (hU.filter _).filter _, fun a ha b hb e => ?_⟩
  subst e
  unfold Fl.ackd at ha
  unfold Fl.lost at hb
  simp only [List.mem_filter] at ha hb
  rw [ha.2] at hb
  simp at hb
set_option maxHeartbeats 8000000 in
theorem once_any {w : World} {a : Option Addr} {cap : Nat} {S : List OpV} (C : OpsAt w a S) (hS : ∀ o ∈ S, o.Ok) (hlen : S.length ≤ 1954687338268) (r : Int) :
    Calls Try.prog 8 #[.int .i64 r, .slice a S.length cap] w fun e w' => e = .returned (.bool true) ∧ Below w.heap.size w w' := by
  have HC := hid C
  have HS := hid hS
  clear C hS
  obtain ⟨i6, hi6, hz60, hz61, hz62⟩ := info_parts info60
  obtain ⟨i4, hi4, hz40, hz41, hz42⟩ := info_parts info4
  go_enter Try.func8, Try.ntmps8
  go_wp2_with (first | (go_at_call 17; refine (flownew_any w r).mono ?_; rintro e w1 ⟨p, b, g, rfl, hF, hp, hb, hg, hbl⟩; have H1 := hid hF; have HB1 := hid hbl; have HP := hid (And.intro hp (And.intro hb hg)); clear hF hbl hp hb hg) | (go_at_call 18; refine (awake_any _).mono ?_; rintro e w2 ⟨rfl, hb⟩; have H2 := hid (FlowAt.kept H1.out hb); have HB2 := hid (HB1.out.trans (hb.mono HB1.out.size)); clear hb))
  obtain ⟨w0, hw0⟩ : ∃ w0, w0 = w2 := ⟨_, rfl⟩
  rw [← hw0] at H2 HB2 ⊢
  clear hw0 H1 HB1
  have HLT := hid (show p < w0.heap.size ∧ b < w0.heap.size ∧ g < w0.heap.size from ⟨H2.out.row.lt, World.ownsMap.lt H2.out.map, Row.lt H2.out.est⟩)
  have HW0 := hid (show w.heap.size ≤ w0.heap.size from HB2.out.size)
  have HK0 : Hid (MkAt w w0 w0.heap.size p b g (Fl.new r) [] [] [] (.slice none 0 0) (.slice none 0 0) []) := ⟨H2.out, Fl.new_ok r, HB2.out, (fun i h => by simp at h), (by simp), rfl, rfl, (fun x => by simp), List.nodup_nil, (by simp), ⟨rfl, .inl ⟨rfl, rfl⟩⟩, ⟨rfl, .inl ⟨rfl, rfl⟩⟩, HLT.out⟩
  clear H2 HB2
  go_loopw [6, 7, 30] (fun s6 s7 s30 wr => ∃ (k : Nat) (F : Fl) (T : List It) (G : List Bool), k ≤ S.length ∧ s30 = .int .i64 k ∧ T.length ≤ k ∧ 0 ≤ F.strikes ∧ F.strikes ≤ (k : Int) ∧ w0.heap.size ≤ wr.heap.size ∧ MkAt w wr w0.heap.size p b g F F.U T G s6 s7 []) (fun _ _ s _ => S.length - (intOf s).toNat)
  case atStart => exact ⟨0, Fl.new r, [], [], Nat.zero_le _, rfl, Nat.le_refl _, Int.le_refl _, Int.le_refl _, Nat.le_refl _, HK0.out⟩
  case round =>
    obtain ⟨k, F, T, G, hk, rfl, hTk, hst0, hst1, hwz, hM⟩ := hrel
    have HM := hid hM
    have HWZ := hid hwz
    clear hM HK0 hwz
    by_cases hlt : k < S.length
    · obtain ⟨ga, oa, rfl, hcs, hrg⟩ := HC.out k hlt
      have hob := HM.out.bel
      have c0 := rcell_kept hob (hcs 0 _ rfl)
      have c1 := rcell_kept hob (hcs 1 _ rfl)
      have c2 := rcell_kept hob (hcs 2 _ rfl)
      have c3 := rcell_kept hob (hcs 3 _ rfl)
      have c4 := rcell_kept hob (hcs 4 _ rfl)
      have c5 := rcell_kept hob (hcs 5 _ rfl)
      have c6 := rcell_kept hob (hcs 6 _ rfl)
      have HR := hid (RgsAt.kept hrg hob)
      have HRW0 := hid hrg
      have HOK := hid (HS.out S[k] (List.getElem_mem hlt))
      clear hcs hrg hob
      generalize S[k] = o at *
      obtain ⟨kd, ot, nw, im, of_, nn, ra, rc, RL⟩ := o
      simp only at c0 c1 c2 c3 c4 c5 c6 HR HRW0
      simp only [Nat.add_zero] at c0
      have hki : (k : Int) < (S.length : Int) := by omega
      obtain ⟨n0, n1, hrs, hrl⟩ := HOK.out
      simp only at n0 n1 hrs hrl
      have HRS := hid hrs
      clear hrs HOK
      have HBX := hid (below_grow (Below.refl wr.heap.size wr) (.cells #[.int .i64 kd, .bool ot, .int .u64 nw, .int .i64 im, .int .u64 of_, .int .i64 nn, .slice ra RL.length rc] 67))
      have RB := Row.new wr [.int .i64 kd, .bool ot, .int .u64 nw, .int .i64 im, .int .u64 of_, .int .i64 nn, .slice ra RL.length rc] 67
      have HRB := hid RB
      have HMX := hid (HM.out.kept HBX.out)
      have HRX := hid (HR.out.kept HBX.out)
      have HWX := hid (Nat.le_trans HWZ.out HBX.out.size)
      clear RB
      have HOUT := hid (And.intro hk (And.intro hTk (And.intro hst0 (And.intro hst1 hlt))))
      by_cases k1 : kd = 1
      · subst k1
        have hUl := HM.out.u_len
        have hnx := HM.out.nx
        obtain ⟨a6, d6, e6, _⟩ := own_view HMX.out.sent
        obtain ⟨a7, d7, e7, _⟩ := own_viewB HMX.out.gone
        subst e6 e7
        have hNx := fnext_any HMX.out.fl
        have hSd := send_any HMX.out.fl HMX.out.ok (by omega) (by omega) nw im of_ nn
        rw [hnx] at hNx hSd
        have ewT : IntKind.u64.wrap ((T.length : Nat) : Int) = ((T.length : Nat) : Int) := wrapu _ (by omega) (by omega)
        have b2 := HRB.out.cell 2 _ rfl
        have b3 := HRB.out.cell 3 _ rfl
        have b4 := HRB.out.cell 4 _ rfl
        have b5 := HRB.out.cell 5 _ rfl
        have HLT3 := HLT.out
        have HWZ3 := HWZ.out
        go_upto_region 15 with (first | (go_at_call 29; refine hNx.mono ?_; rintro e w4 ⟨rfl, rfl⟩) | (go_at_call 19; refine hSd.mono ?_; rintro e w3 ⟨rfl, hf3, ho3⟩; have HF3 := hid hf3; have HO3 := hid ho3; clear hf3 ho3 hSd))
        have HRB3 := HO3.out.row HRB.out (by simp; omega)
        have p2 := HRB3.cell 2 _ rfl
        have p3 := HRB3.cell 3 _ rfl
        have p4 := HRB3.cell 4 _ rfl
        have p5 := HRB3.cell 5 _ rfl
        have hnin : ∀ y, w0.heap.size ≤ y → y ∉ [p, b, g] := fun y hy hm => by
          simp only [List.mem_cons, List.not_mem_nil, or_false] at hm
          omega
        have HS3 := hid (own_only HMX.out.sent HO3.out (fun y e => hnin y (own_ge HMX.out.sent e)))
        have HG3 := hid (own_only HMX.out.gone HO3.out (fun y e => hnin y (own_ge HMX.out.gone e)))
        have HZ3 := hid (Nat.le_trans HWX.out HO3.out.size)
        have HGL := hid HMX.out.len
        clear HRB3 b2 b3 b4 b5 hnin hNx HLT3 HWZ3
        go_upto_region 16 with (at_builtin; refine wpList_append_own _ rfl _ _ 49 rfl w0.heap.size 60 i6 (.agg #[.int .u64 0, .int .i64 0, .int .u64 0, .int .i64 0, .int .u64 0]) 5 40 Try.underlying49 hi6 hz60 hz61 hz62 rfl (by decide) _ _ _ rfl (World.ownsRow.alloc HS3.out _) ⟨w3.heap.size, 0, none⟩ 1 1 [.int .u64 ((T.length : Nat) : Int), .int .i64 im, .int .u64 of_, .int .i64 nn, .int .u64 nw] rfl rfl (box_range w3 60 _) (flatI_one [newIt T im of_ nn nw]) (by unfold maxLen; omega) (by omega) (by have := HZ3.out; simp; omega) ?_; intro v6 w4 h6 g6 _; have H6' := hid h6; have HG6 := hid g6; clear h6 g6)
        have H6 := hid (show w4.ownsRow w0.heap.size 60 5 v6 (T ++ [newIt T im of_ nn nw]).length (flatI (T ++ [newIt T im of_ nn nw])) from by rw [List.length_append, flatI_append]; exact H6'.out)
        have hg3 := World.grownBy_alloc w3 (.cells #[.int .u64 ((T.length : Nat) : Int), .int .i64 im, .int .u64 of_, .int .i64 nn, .int .u64 nw] 60) none
        have HG4 := hid (own_kept (own_below HG3.out (grown_below hg3)) HG6.out (fun y e1 e2 => rows_apart (own_below HS3.out (grown_below hg3)) (own_below HG3.out (grown_below hg3)) e2 e1))
        have HB4 : Hid (Below w0.heap.size w3 w4) := ((grown_below hg3).mono HZ3.out).grown HG6.out (Nat.le_trans HZ3.out hg3.size) (fun y e => own_ge HS3.out e)
        have HZ4 := hid (Nat.le_trans HZ3.out HB4.out.size)
        go_upto_region 17 with (at_builtin; refine wpList_append_own _ rfl _ _ 23 rfl w0.heap.size 4 i4 (.bool false) 1 1 Try.underlying23 hi4 hz40 hz41 hz42 rfl (by decide) _ _ _ rfl (World.ownsRow.alloc HG4.out _) ⟨w4.heap.size, 0, none⟩ 1 1 [.bool false] rfl rfl (box_range w4 4 _) (by simp [Value.oneCell']) (by have := HGL.out; unfold maxLen; omega) (by have := HGL.out; omega) (by have := HZ4.out; simp; omega) ?_; intro v7 w5 h7 g7 _; have H7' := hid h7; have HG7 := hid g7; clear h7 g7)
        have H7 := hid (show w5.ownsRow w0.heap.size 4 1 v7 (G ++ [false]).length ((G ++ [false]).map Value.bool) from by rw [List.length_append, List.map_append]; exact H7'.out)
        have hg4 := World.grownBy_alloc w4 (.cells #[.bool false] 4) none
        have HS5 := hid (own_kept (own_below H6.out (grown_below hg4)) HG7.out (fun y e1 e2 => rows_apart (own_below H6.out (grown_below hg4)) (own_below HG4.out (grown_below hg4)) e1 e2))
        have HB5 : Hid (Below w0.heap.size w3 w5) := (HB4.out.trans ((grown_below hg4).mono HZ4.out)).grown HG7.out (Nat.le_trans HZ3.out (Nat.le_trans HB4.out.size hg4.size)) (fun y e => own_ge HG4.out e)
        have HM5 : Hid (MkAt w w5 w0.heap.size p b g (F.send nw im of_ nn) (F.send nw im of_ nn).U (T ++ [newIt T im of_ nn nw]) (G ++ [false]) v6 v7 []) := by
          have m := HMX.out
          refine ⟨flow_keptB HF3.out HB5.out HLT.out, m.ok.send n0 n1 im of_ nn, (Only.flow_below m.bel HO3.out HP.out.1 HP.out.2.1 HP.out.2.2).trans (HB5.out.mono HW0.out), fun i h => ?_, fun x hx => ?_, ?_, ?_, fun x => ?_, List.nodup_nil, (by simp), HS5.out, H7.out, m.lt⟩
          · by_cases hi : i < T.length
            · rw [List.getElem_append_left hi]; exact m.num i hi
            · rw [List.getElem_append_right (by omega)]
              simp only [List.length_append, List.length_cons, List.length_nil] at h
              simp only [List.getElem_singleton]
              show (T.length : Int) = _
              omega
          · rcases List.mem_append.1 hx with h | h
            · exact m.at0 x h
            · rw [List.mem_singleton.1 h]; exact n0
          · rw [List.length_append, List.length_append, m.len]; rfl
          · show F.next + 1 = _
            rw [m.nx, List.length_append]
            rfl
          · show (x ∈ F.U ++ [⟨F.next, im, of_, nn, nw⟩] ∨ x ∈ []) ↔ _
            rw [m.nx, List.mem_append, List.mem_singleton]
            have hu := m.un x
            simp only [List.not_mem_nil, or_false] at hu ⊢
            rw [hu]
            constructor
            · rintro (⟨i, hi, e, hg⟩ | rfl)
              · exact ⟨i, by rw [List.length_append]; omega, by rw [List.getElem_append_left hi]; exact e, by rw [List.getElem?_append_left (by rw [m.len]; exact hi)]; exact hg⟩
              · exact ⟨T.length, by simp, by simp [newIt], by rw [← m.len]; simp⟩
            · rintro ⟨i, hi, e, hg⟩
              by_cases hi2 : i < T.length
              · left
                rw [List.getElem_append_left hi2] at e
                rw [List.getElem?_append_left (by rw [m.len]; exact hi2)] at hg
                exact ⟨i, hi2, e, hg⟩
              · right
                rw [List.getElem_append_right (by omega)] at e
                simpa [newIt] using e.symm
        have HZ5 := hid (Nat.le_trans HZ3.out HB5.out.size)
        obtain ⟨a6', d6', e6', _⟩ := own_view HM5.out.sent
        rw [List.length_append, List.length_cons, List.length_nil, Nat.zero_add] at e6'
        subst e6'
        have ew1 : wrap64 ((((T.length + 1 : Nat)) : Int) - 1) = ((T.length : Nat) : Int) := by unfold wrap64; omega
        have ew2 : IntKind.i64.wrap ((((T.length + 1 : Nat)) : Int) - 1) = ((T.length : Nat) : Int) := by rw [IntKind.wrap_i64]; omega
        clear HF3 HO3 HS3 HG3 H6 HG6 HG4 HB4 H7 HG7 HS5 HB5 p2 p3 p4 p5 hg3 hg4
        go_wp2_with fail
        refine wp_loop_rounds 1 ?_
        rw [rounds_succ]
        go_wp2
        go_roundw
        case rel =>
          obtain ⟨hk, hTk, hst0, hst1, hlt⟩ := HOUT.out
          exact ⟨k + 1, F.send nw im of_ nn, T ++ [newIt T im of_ nn nw], G ++ [false], hlt, by first | go_num | (rw [Int.natCast_succ]), by simp; omega, by exact hst0, by show F.strikes ≤ _; omega, HZ5.out, HM5.out⟩
        case measure =>
          obtain ⟨hk, hTk, hst0, hst1, hlt⟩ := HOUT.out
          simp [intOf]
          omega
      by_cases k2 : kd = 2
      · subst k2
        clear k1
        have hUl := HM.out.u_len
        have hnx := HM.out.nx
        have hAk := acked_any (cap := rc) HMX.out.fl HMX.out.ok (RgsAt.cells HRX.out) hrl HRS.out (by omega) (by omega) HMX.out.u_at nw n0 n1
        have R2 := HRB.out
        have b2 := R2.cell 2 _ rfl
        have b6 := R2.cell 6 _ rfl
        clear R2
        go_upto_region 21 with (go_at_call 27; refine hAk.mono ?_; rintro e w3 ⟨v1, v2, Q, B1, hT, rfl, hr1, _, hB1, hr2, hf3, ho3⟩; have HT := hid hT; obtain ⟨a1, d1, rfl, _⟩ := own_view hr1; obtain ⟨a2, d2, rfl, _⟩ := own_view hr2; have HV1 := hid (own_mono hr1 (Nat.zero_le _)); have HV2 := hid (own_mono hr2 (Nat.zero_le _)); have HM3 := hid (HMX.out.turn (R := F.ackd Q ++ F.lost Q) ho3 hf3 (HMX.out.ok.heard n0 n1 Q) rfl HP.out (heard_nodup HMX.out.ok Q) (heard_apart F nw Q) (heard_split F nw Q)); have HB3 := hid (show Only [p, b, g] _ w3 from ho3); clear hT hr1 hr2 hf3 ho3 hAk hB1)
        have HLT3 := HLT.out
        have HWZ3 := HWZ.out
        have HRB3 := hid (HB3.out.row HRB.out (by simp; omega))
        have hAl : (F.ackd Q).length + (F.lost Q).length ≤ F.U.length := by
          have h1 := nodup_len (heard_nodup HMX.out.ok Q) (fun x hx => (heard_split F nw Q x).2 (.inr hx))
          rw [List.length_append] at h1
          exact h1
        have ht1 : ∀ x ∈ F.ackd Q, inB RL x.num = true := fun x hx => (inB_iff _ _).2 ((told_tb HT.out x).1 (List.mem_filter.1 hx).2).1
        have ht2 : ∀ x ∈ F.lost Q, inB RL x.num = false := fun x hx => by
          cases e : inB RL x.num with
          | false => rfl
          | true =>
            have h1 := (List.mem_filter.1 (List.mem_filter.1 hx).1)
            have h2 := (told_tb HT.out x).2 ⟨(inB_iff _ _).1 e, (HMX.out.ok.nums x h1.1).2⟩
            rw [h2] at h1
            simp at h1
        have HT1 := hid ht1
        have HT2 := hid ht2
        have HBZ := hid (below_grow (Below.refl w3.heap.size w3) (.cells #[.slice a1 (F.ackd Q).length d1, .slice a2 (F.lost Q).length d2, .bool (F.isCut Q)] 55))
        have HMZ := hid (HM3.out.kept HBZ.out)
        have HV1z := hid (own_below HV1.out HBZ.out)
        have HV2z := hid (own_below HV2.out HBZ.out)
        have HRBz := hid (HRB3.out.alloc (.cells #[.slice a1 (F.ackd Q).length d1, .slice a2 (F.lost Q).length d2, .bool (F.isCut Q)] 55))
        have HRXz := hid (RgsAt.kept HRW0.out HMZ.out.bel)
        have hb0 := box_cell w3 55 #[.slice a1 (F.ackd Q).length d1, .slice a2 (F.lost Q).length d2, .bool (F.isCut Q)] 0 _ rfl
        have hb1 := box_cell w3 55 #[.slice a1 (F.ackd Q).length d1, .slice a2 (F.lost Q).length d2, .bool (F.isCut Q)] 1 _ rfl
        have HZZ := hid (show w0.heap.size ≤ (w3.alloc (.cells #[.slice a1 (F.ackd Q).length d1, .slice a2 (F.lost Q).length d2, .bool (F.isCut Q)] 55)).heap.size from Nat.le_trans HWX.out (Nat.le_trans HB3.out.size HBZ.out.size))
        clear ht1 ht2 HM3 HV1 HV2 HRB3 HBZ b2 b6 HLT3 HWZ3
        obtain ⟨bh, hbh⟩ : ∃ bh, bh = w3.heap.size := ⟨_, rfl⟩
        obtain ⟨wz, hwz⟩ : ∃ wz, wz = w3.alloc (.cells #[.slice a1 (F.ackd Q).length d1, .slice a2 (F.lost Q).length d2, .bool (F.isCut Q)] 55) := ⟨_, rfl⟩
        rw [← hwz, ← hbh] at hb0 hb1
        rw [← hwz] at HMZ HV1z HV2z HRBz HRXz HZZ
        rw [← hwz, ← hbh]
        clear hwz hbh HB3
        go_upto_region 22 with (at_builtin; refine wpAppendI rfl _ _ rfl (base := wz.heap.size) (A := []) (B := F.ackd Q) rfl ⟨rfl, .inl ⟨rfl, rfl⟩⟩ rfl HV1z.out (by simp; omega) (Nat.le_refl _) ?_; intro v3 w4 h3 g3; have H3 := hid (show w4.ownsRow wz.heap.size 60 5 v3 (F.ackd Q).length (flatI (F.ackd Q)) from h3); have HB4 := hid (show Below wz.heap.size wz w4 from grown_below g3); clear h3 g3)
        have hb1' := rcell_kept HB4.out hb1
        have HV24 := hid (own_below HV2z.out HB4.out)
        have HSZ4 := hid HB4.out.size
        go_upto_region 23 with (at_builtin; refine wpAppendI rfl _ _ rfl (base := wz.heap.size) (A := F.ackd Q) (B := F.lost Q) rfl H3.out rfl HV24.out (by omega) HSZ4.out ?_; intro v4 w5 h4 g4; have H4 := hid h4; have HB5 := hid (HB4.out.grown g4 HB4.out.size (fun y e => own_ge H3.out e)); clear h4 g4)
        have e0 := rcell_kept HB5.out hb0
        have e1 := rcell_kept HB5.out hb1
        have e6 := (HRBz.out.kept HB5.out HRBz.out.lt).cell 6 _ rfl
        have hta := told_any (cap := rc) (own_below HV1z.out HB5.out) (RgsAt.kept HRXz.out HB5.out) true (by omega) (by omega) HT1.out
        have HTB := hid (fun (W : World) (hb : Below wz.heap.size wz W) => told_any (cap := rc) (own_below HV2z.out hb) (RgsAt.kept HRXz.out hb) false (by omega) (by omega) HT2.out)
        obtain ⟨RR, hRR⟩ : ∃ RR, RR = F.ackd Q ++ F.lost Q := ⟨_, rfl⟩
        have hRl : RR.length ≤ F.U.length := by rw [hRR, List.length_append]; exact hAl
        rw [← hRR] at H4 HMZ
        clear hRR
        obtain ⟨av, cv, rfl, _⟩ := own_view H4.out
        clear hb1' HV24 HSZ4 H3 HB4
        go_upto_region 24 with (first | (go_at_call 30; refine hta.mono ?_; rintro e w6 ⟨rfl, hb6⟩; have HB6 := hid (HB5.out.trans (hb6.mono HB5.out.size)); have H6 := hid (own_below H4.out hb6); have f1 := rcell_kept HB6.out hb1; have f6 := (HRBz.out.kept HB6.out HRBz.out.lt).cell 6 _ rfl; clear hta hb6) | (go_at_call 30; refine (HTB.out _ HB6.out).mono ?_; rintro e w7 ⟨rfl, hb7⟩; have HB7 := hid (HB6.out.trans (hb7.mono HB6.out.size)); have H7 := hid (own_below H6.out hb7); clear hb7))
        have HM7 := hid (HMZ.out.kept HB7.out)
        have HV7 := hid (own_mono H7.out (Nat.zero_le _))
        have HZQ := hid (Nat.le_trans HZZ.out HB7.out.size)
        clear H4 H6 H7 HB5 HB6 HB7 HMZ e0 e1 e6 f1 f6 HTB HV1z HV2z HRXz HRBz hb0 hb1
        obtain ⟨wq, hwq⟩ : ∃ wq, wq = w7 := ⟨_, rfl⟩
        rw [← hwq] at HM7 HV7 HZQ ⊢
        clear hwq
        go_loopw [121] (fun s wr => ∃ (j : Nat) (G : List Bool), j ≤ (RR).length ∧ s = .int .i64 j ∧ wr.ownsRow 0 60 5 (.slice av RR.length cv) (RR).length (flatI (RR)) ∧ w0.heap.size ≤ wr.heap.size ∧ MkAt w wr w0.heap.size p b g (F.heard nw Q) (F.heard nw Q).U (T) G u6 u7 ((RR).drop j)) (fun s _ => (RR).length - (intOf s).toNat)
        case atStart => exact ⟨0, G, Nat.zero_le _, rfl, HV7.out, HZQ.out, HM7.out⟩
        case round =>
          obtain ⟨j, G1, hj, rfl, hrow, hwz, hm⟩ := hrel
          have HM1 := hid hm
          have HRW := hid hrow
          have HWZ1 := hid hwz
          clear hm hrow hwz HM7 HV7 HZQ
          by_cases hjl : j < (RR).length
          · have hm2 := HM1.out
            rw [drop_cons _ j hjl] at hm2
            obtain ⟨i, hi, hxi, hTi, a7, c7, a6, c6, g7, g6, e7, e6, ea7, ea6, cg, fg, d0, d1, d2, d3, d4, hg7, hne, hstep⟩ := hm2.step HW0.out
            subst e7 e6 ea7 ea6
            obtain ⟨av, cv, ev, hvv⟩ := own_view HRW.out
            obtain ⟨gv, eav, _, x0, x1, x2, x3, x4⟩ := hvv j hjl
            have HNE := hid (hne 0 _ _ _ HRW.out)
            have HSTEP := hid hstep
            have HDR := hid (drop_cons (RR) j hjl)
            clear hvv hne hstep hm2 hTi
            generalize (RR)[j] = x at *
            obtain ⟨n, kk, oo, ll, tt⟩ := x
            simp only at hxi x0 x1 x2 x3 x4 d0 d1 d2 d3 d4
            subst hxi
            simp only [Value.slice.injEq, true_and] at ev; obtain ⟨rfl, rfl⟩ := ev; subst eav
            have HBW := hid (below_grow (Below.refl wr.heap.size wr) (.cells #[.int .u64 (i : Int), .int .i64 kk, .int .u64 oo, .int .i64 ll, .int .u64 tt] 60))
            have cg' := rcell_kept HBW.out cg
            have d0' := rcell_kept HBW.out d0
            have d1' := rcell_kept HBW.out d1
            have d2' := rcell_kept HBW.out d2
            have d3' := rcell_kept HBW.out d3
            have d4' := rcell_kept HBW.out d4
            have hjl' : (j : Int) < (((RR).length : Nat) : Int) := by omega
            have hiT : (i : Int) < (((T).length : Nat) : Int) := by omega
            have hiT2 : decide ((((T).length : Nat) : Int) ≤ (i : Int)) = false := decide_eq_false (by omega)
            have ewT : IntKind.u64.wrap (((T).length : Nat) : Int) = (((T).length : Nat) : Int) := wrapu _ (by omega) (by obtain ⟨hk, hTk, hst0, hst1, hlt⟩ := HOUT.out; omega)
            clear cg d0 d1 d2 d3 d4
            have fg' := (frozen_below HBW.out hg7).trans fg
            have b0 := box_cell wr 60 #[.int .u64 (i : Int), .int .i64 kk, .int .u64 oo, .int .i64 ll, .int .u64 tt] 0 _ rfl
            have b1 := box_cell wr 60 #[.int .u64 (i : Int), .int .i64 kk, .int .u64 oo, .int .i64 ll, .int .u64 tt] 1 _ rfl
            have b2 := box_cell wr 60 #[.int .u64 (i : Int), .int .i64 kk, .int .u64 oo, .int .i64 ll, .int .u64 tt] 2 _ rfl
            have b3 := box_cell wr 60 #[.int .u64 (i : Int), .int .i64 kk, .int .u64 oo, .int .i64 ll, .int .u64 tt] 3 _ rfl
            have b4 := box_cell wr 60 #[.int .u64 (i : Int), .int .i64 kk, .int .u64 oo, .int .i64 ll, .int .u64 tt] 4 _ rfl
            go_wp2_with fail
            obtain ⟨wu, hwu⟩ : ∃ wu, wu = wr.alloc (.cells #[.int .u64 (i : Int), .int .i64 kk, .int .u64 oo, .int .i64 ll, .int .u64 tt] 60) := ⟨_, rfl⟩
            rw [← hwu] at HBW cg' d0' d1' d2' d3' d4' fg' b0 b1 b2 b3 b4 ⊢
            clear hwu x0 x1 x2 x3 x4
            go_quiet (fail)
            go_wp2
            go_roundw
            case rel =>
              have hbq := below_drewN HBW.out nq
              have hmq := HSTEP.out (wu.drewN nq) hbq
              exact ⟨j + 1, _, hjl, by first | go_num | (rw [Int.natCast_succ]), own_only (own_below HRW.out hbq) ((Only.refl [g7] _).setCell g7 i (.bool true) (.inl (by simp))) (fun y e => by simpa using HNE.out y e), by simp [World.setCell]; exact Nat.le_trans HWZ1.out hbq.size, hmq⟩
            case measure => simp [intOf]; omega
          · have ej : j = (RR).length := by omega
            have hjl' : decide ((j : Int) < (((RR).length : Nat) : Int)) = false := decide_eq_false (by omega)
            have HME := HM1.out
            rw [ej, List.drop_length] at HME
            have HMF := hid HME
            clear HME
            go_wp2
            go_roundw
            case rel =>
              obtain ⟨hk, hTk, hst0, hst1, hlt⟩ := HOUT.out
              exact ⟨k + 1, F.heard nw Q, T, G1, hlt, by first | go_num | (rw [Int.natCast_succ]), by omega, by exact hst0, by show F.strikes ≤ _; omega, HWZ1.out, HMF.out⟩
            case measure =>
              obtain ⟨hk, hTk, hst0, hst1, hlt⟩ := HOUT.out
              simp [intOf]
              omega
      by_cases k3 : kd = 3
      · subst k3
        clear k1 k2
        have hTl := HM.out.u_len
        by_cases hno : F.U.length = 0 ∨ nw < F.mark ∨ nw - F.mark < F.E.rto
        · have hTi := tick_idle HMX.out.fl HMX.out.ok nw n1 hno
          go_wp2_with (go_at_call 22; refine hTi.mono ?_; rintro e w3 ⟨rfl, hb3⟩; have HM3 := hid (HMX.out.kept hb3); have HW3 := hid (Nat.le_trans HWX.out hb3.size); clear hb3 hTi)
          refine wp_loop_rounds 1 ?_
          rw [rounds_succ]
          go_wp2
          go_roundw
          case rel =>
            obtain ⟨hk, hTk, hst0, hst1, hlt⟩ := HOUT.out
            exact ⟨k + 1, F, T, G, hlt, by first | go_num | (rw [Int.natCast_succ]), by omega, by omega, by omega, HW3.out, HM3.out⟩
          case measure =>
            obtain ⟨hk, hTk, hst0, hst1, hlt⟩ := HOUT.out
            simp [intOf]
            omega
        · have hTi := tick_fires HMX.out.fl HMX.out.ok (by omega) (by omega) (by omega) (by omega) (by have := HMX.out.nx; omega) nw n1 (by omega) (by omega)
          have HUN := hid (show F.U.Nodup from List.Pairwise.imp (fun h e => by subst e; omega) HMX.out.ok.rise)
          go_wp2_with (go_at_call 22; refine hTi.mono ?_; rintro e w3 ⟨v, rfl, hr3, hf3, ho3⟩; have HM3 := hid (HMX.out.turn (R := F.U) ho3 hf3 HMX.out.ok.fire rfl HP.out HUN.out (by simp [Fl.fire]) (fun x => by simp [Fl.fire])); have HV3 := hid (own_mono hr3 (Nat.zero_le _)); have HZQ := hid (Nat.le_trans HWX.out ho3.size); obtain ⟨av, cv, rfl, _⟩ := own_view hr3; clear hf3 ho3 hTi hr3)
          obtain ⟨wq, hwq⟩ : ∃ wq, wq = w3 := ⟨_, rfl⟩
          rw [← hwq] at HM3 HV3 HZQ ⊢
          clear hwq
          go_loopw [121] (fun s wr => ∃ (j : Nat) (G : List Bool), j ≤ (F.U).length ∧ s = .int .i64 j ∧ wr.ownsRow 0 60 5 (.slice av F.U.length cv) (F.U).length (flatI (F.U)) ∧ w0.heap.size ≤ wr.heap.size ∧ MkAt w wr w0.heap.size p b g (F.fire) (F.fire).U (T) G u6 u7 ((F.U).drop j)) (fun s _ => (F.U).length - (intOf s).toNat)
          case atStart => exact ⟨0, G, Nat.zero_le _, rfl, HV3.out, HZQ.out, HM3.out⟩
          case round =>
            obtain ⟨j, G1, hj, rfl, hrow, hwz, hm⟩ := hrel
            have HM1 := hid hm
            have HRW := hid hrow
            have HWZ1 := hid hwz
            clear hm hrow hwz HM3 HV3 HZQ
            by_cases hjl : j < (F.U).length
            · have hm2 := HM1.out
              rw [drop_cons _ j hjl] at hm2
              obtain ⟨i, hi, hxi, hTi, a7, c7, a6, c6, g7, g6, e7, e6, ea7, ea6, cg, fg, d0, d1, d2, d3, d4, hg7, hne, hstep⟩ := hm2.step HW0.out
              subst e7 e6 ea7 ea6
              obtain ⟨av, cv, ev, hvv⟩ := own_view HRW.out
              obtain ⟨gv, eav, _, x0, x1, x2, x3, x4⟩ := hvv j hjl
              have HNE := hid (hne 0 _ _ _ HRW.out)
              have HSTEP := hid hstep
              have HDR := hid (drop_cons (F.U) j hjl)
              clear hvv hne hstep hm2 hTi
              generalize (F.U)[j] = x at *
              obtain ⟨n, kk, oo, ll, tt⟩ := x
              simp only at hxi x0 x1 x2 x3 x4 d0 d1 d2 d3 d4
              subst hxi
              simp only [Value.slice.injEq, true_and] at ev; obtain ⟨rfl, rfl⟩ := ev; subst eav
              have HBW := hid (below_grow (Below.refl wr.heap.size wr) (.cells #[.int .u64 (i : Int), .int .i64 kk, .int .u64 oo, .int .i64 ll, .int .u64 tt] 60))
              have cg' := rcell_kept HBW.out cg
              have d0' := rcell_kept HBW.out d0
              have d1' := rcell_kept HBW.out d1
              have d2' := rcell_kept HBW.out d2
              have d3' := rcell_kept HBW.out d3
              have d4' := rcell_kept HBW.out d4
              have hjl' : (j : Int) < (((F.U).length : Nat) : Int) := by omega
              have hiT : (i : Int) < (((T).length : Nat) : Int) := by omega
              have hiT2 : decide ((((T).length : Nat) : Int) ≤ (i : Int)) = false := decide_eq_false (by omega)
              have ewT : IntKind.u64.wrap (((T).length : Nat) : Int) = (((T).length : Nat) : Int) := wrapu _ (by omega) (by obtain ⟨hk, hTk, hst0, hst1, hlt⟩ := HOUT.out; omega)
              clear cg d0 d1 d2 d3 d4
              have fg' := (frozen_below HBW.out hg7).trans fg
              have b0 := box_cell wr 60 #[.int .u64 (i : Int), .int .i64 kk, .int .u64 oo, .int .i64 ll, .int .u64 tt] 0 _ rfl
              have b1 := box_cell wr 60 #[.int .u64 (i : Int), .int .i64 kk, .int .u64 oo, .int .i64 ll, .int .u64 tt] 1 _ rfl
              have b2 := box_cell wr 60 #[.int .u64 (i : Int), .int .i64 kk, .int .u64 oo, .int .i64 ll, .int .u64 tt] 2 _ rfl
              have b3 := box_cell wr 60 #[.int .u64 (i : Int), .int .i64 kk, .int .u64 oo, .int .i64 ll, .int .u64 tt] 3 _ rfl
              have b4 := box_cell wr 60 #[.int .u64 (i : Int), .int .i64 kk, .int .u64 oo, .int .i64 ll, .int .u64 tt] 4 _ rfl
              go_wp2_with fail
              obtain ⟨wu, hwu⟩ : ∃ wu, wu = wr.alloc (.cells #[.int .u64 (i : Int), .int .i64 kk, .int .u64 oo, .int .i64 ll, .int .u64 tt] 60) := ⟨_, rfl⟩
              rw [← hwu] at HBW cg' d0' d1' d2' d3' d4' fg' b0 b1 b2 b3 b4 ⊢
              clear hwu x0 x1 x2 x3 x4
              go_quiet (fail)
              go_wp2
              go_roundw
              case rel =>
                have hbq := below_drewN HBW.out nq
                have hmq := HSTEP.out (wu.drewN nq) hbq
                exact ⟨j + 1, _, hjl, by first | go_num | (rw [Int.natCast_succ]), own_only (own_below HRW.out hbq) ((Only.refl [g7] _).setCell g7 i (.bool true) (.inl (by simp))) (fun y e => by simpa using HNE.out y e), by simp [World.setCell]; exact Nat.le_trans HWZ1.out hbq.size, hmq⟩
              case measure => simp [intOf]; omega
            · have ej : j = (F.U).length := by omega
              have hjl' : decide ((j : Int) < (((F.U).length : Nat) : Int)) = false := decide_eq_false (by omega)
              have HME := HM1.out
              rw [ej, List.drop_length] at HME
              have HMF := hid HME
              clear HME
              go_wp2
              go_roundw
              case rel =>
                obtain ⟨hk, hTk, hst0, hst1, hlt⟩ := HOUT.out
                exact ⟨k + 1, F.fire, T, G1, hlt, by first | go_num | (rw [Int.natCast_succ]), by omega, by simp only [Fl.fire]; omega, by simp only [Fl.fire]; omega, HWZ1.out, HMF.out⟩
              case measure =>
                obtain ⟨hk, hTk, hst0, hst1, hlt⟩ := HOUT.out
                simp [intOf]
                omega
      by_cases k4 : kd = 4
      · subst k4
        clear k1 k2 k3
        have hWk := wake_any HMX.out.fl
        go_wp2_with (go_at_call 26; refine hWk.mono ?_; rintro e w3 ⟨rfl, hf3, ho3⟩; have HM3 := hid (HMX.out.turn (R := []) ho3 hf3 HMX.out.ok.wake rfl HP.out List.nodup_nil (by simp) (fun x => by simp [Fl.wake])); have HW3 := hid (Nat.le_trans HWX.out ho3.size); clear hf3 ho3 hWk)
        refine wp_loop_rounds 1 ?_
        rw [rounds_succ]
        go_wp2
        go_roundw
        case rel =>
          obtain ⟨hk, hTk, hst0, hst1, hlt⟩ := HOUT.out
          exact ⟨k + 1, F.wake, T, G, hlt, by first | go_num | (rw [Int.natCast_succ]), by omega, by simp [Fl.wake], by simp [Fl.wake]; omega, HW3.out, HM3.out⟩
        case measure =>
          obtain ⟨hk, hTk, hst0, hst1, hlt⟩ := HOUT.out
          simp [intOf]
          omega
      have q1 : (kd == 1) = false := beq_eq_false_iff_ne.2 k1
      have q2 : (kd == 2) = false := beq_eq_false_iff_ne.2 k2
      have q3 : (kd == 3) = false := beq_eq_false_iff_ne.2 k3
      have q4 : (kd == 4) = false := beq_eq_false_iff_ne.2 k4
      go_wp2_with fail
      refine wp_loop_rounds 1 ?_
      rw [rounds_succ]
      go_wp2
      go_roundw
      case rel =>
        obtain ⟨hk, hTk, hst0, hst1, hlt⟩ := HOUT.out
        exact ⟨k + 1, F, T, G, hlt, by first | go_num | (rw [Int.natCast_succ]), by omega, by omega, by omega, HWX.out, HMX.out⟩
      case measure =>
        obtain ⟨hk, hTk, hst0, hst1, hlt⟩ := HOUT.out
        simp [intOf]
        omega
    · have ek : k = S.length := by omega
      have hki : decide ((k : Int) < (S.length : Int)) = false := decide_eq_false (by omega)
      have hUl := HM.out.u_len
      have hIt := items_any sortI_any HM.out.fl HM.out.ok (by omega)
      have HUN := hid (show F.U.Nodup from List.Pairwise.imp (fun h e => by subst e; omega) HM.out.ok.rise)
      have HKT := hid (show F.U.length ≤ T.length ∧ T.length ≤ k ∧ k ≤ S.length from ⟨hUl, hTk, hk⟩)
      go_wp2_with (go_at_call 31; refine hIt.mono ?_; rintro e w3 ⟨v, rfl, hr3, hb3⟩; have HM3 := hid (HM.out.kept hb3); have HV3 := hid (own_mono hr3 (Nat.zero_le _)); have HZQ := hid (Nat.le_trans HWZ.out hb3.size); obtain ⟨av, cv, rfl, _⟩ := own_view hr3; clear hb3 hIt hr3)
      have HMV : Hid (MkAt w w3 w0.heap.size p b g F [] T G u6 u7 F.U) := ⟨HM3.out.fl, HM3.out.ok, HM3.out.bel, HM3.out.num, HM3.out.at0, HM3.out.len, HM3.out.nx, (fun x => by have := HM3.out.un x; simpa using this), HUN.out, (by simp), HM3.out.sent, HM3.out.gone, HM3.out.lt⟩
      clear HM3 HM
      obtain ⟨wq, hwq⟩ : ∃ wq, wq = w3 := ⟨_, rfl⟩
      rw [← hwq] at HMV HV3 HZQ ⊢
      clear hwq
      go_loopw [15, 156] (fun s15 s wr => ∃ (j : Nat) (G : List Bool), j ≤ F.U.length ∧ s = .int .i64 j ∧ s15 = .int .i64 j ∧ wr.ownsRow 0 60 5 (.slice av F.U.length cv) F.U.length (flatI F.U) ∧ w0.heap.size ≤ wr.heap.size ∧ MkAt w wr w0.heap.size p b g F [] T G u6 u7 (F.U.drop j)) (fun _ s _ => F.U.length - (intOf s).toNat)
      case atStart => exact ⟨0, G, Nat.zero_le _, rfl, rfl, HV3.out, HZQ.out, HMV.out⟩
      case round =>
        obtain ⟨j, G1, hj, rfl, rfl, hrow, hwz, hm⟩ := hrel
        have HM1 := hid hm
        have HRW := hid hrow
        have HWZ1 := hid hwz
        clear hm hrow hwz HMV HV3 HZQ
        by_cases hjl : j < F.U.length
        · have hm2 := HM1.out
          rw [drop_cons _ j hjl] at hm2
          obtain ⟨i, hi, hxi, hTi, a7, c7, a6, c6, g7, g6, e7, e6, ea7, ea6, cg, fg, d0, d1, d2, d3, d4, hg7, hne, hstep⟩ := hm2.step HW0.out
          subst e7 e6 ea7 ea6
          obtain ⟨av, cv, ev, hvv⟩ := own_view HRW.out
          obtain ⟨gv, eav, _, x0, x1, x2, x3, x4⟩ := hvv j hjl
          have HNE := hid (hne 0 _ _ _ HRW.out)
          have HSTEP := hid hstep
          have HDR := hid (drop_cons (F.U) j hjl)
          clear hvv hne hstep hm2 hTi
          generalize (F.U)[j] = x at *
          obtain ⟨n, kk, oo, ll, tt⟩ := x
          simp only at hxi x0 x1 x2 x3 x4 d0 d1 d2 d3 d4
          subst hxi
          simp only [Value.slice.injEq, true_and] at ev; obtain ⟨rfl, rfl⟩ := ev; subst eav
          have HBW := hid (below_grow (Below.refl wr.heap.size wr) (.cells #[.int .u64 (i : Int), .int .i64 kk, .int .u64 oo, .int .i64 ll, .int .u64 tt] 60))
          have cg' := rcell_kept HBW.out cg
          have d0' := rcell_kept HBW.out d0
          have d1' := rcell_kept HBW.out d1
          have d2' := rcell_kept HBW.out d2
          have d3' := rcell_kept HBW.out d3
          have d4' := rcell_kept HBW.out d4
          have hjl' : (j : Int) < (((F.U).length : Nat) : Int) := by omega
          have hiT : (i : Int) < (((T).length : Nat) : Int) := by omega
          have hiT2 : decide ((((T).length : Nat) : Int) ≤ (i : Int)) = false := decide_eq_false (by omega)
          have ewT : IntKind.u64.wrap (((T).length : Nat) : Int) = (((T).length : Nat) : Int) := wrapu _ (by omega) (by have := HKT.out; omega)
          clear cg d0 d1 d2 d3 d4
          have fg' := (frozen_below HBW.out hg7).trans fg
          have b0 := box_cell wr 60 #[.int .u64 (i : Int), .int .i64 kk, .int .u64 oo, .int .i64 ll, .int .u64 tt] 0 _ rfl
          have b1 := box_cell wr 60 #[.int .u64 (i : Int), .int .i64 kk, .int .u64 oo, .int .i64 ll, .int .u64 tt] 1 _ rfl
          have b2 := box_cell wr 60 #[.int .u64 (i : Int), .int .i64 kk, .int .u64 oo, .int .i64 ll, .int .u64 tt] 2 _ rfl
          have b3 := box_cell wr 60 #[.int .u64 (i : Int), .int .i64 kk, .int .u64 oo, .int .i64 ll, .int .u64 tt] 3 _ rfl
          have b4 := box_cell wr 60 #[.int .u64 (i : Int), .int .i64 kk, .int .u64 oo, .int .i64 ll, .int .u64 tt] 4 _ rfl
          go_wp2_with fail
          obtain ⟨wu, hwu⟩ : ∃ wu, wu = wr.alloc (.cells #[.int .u64 (i : Int), .int .i64 kk, .int .u64 oo, .int .i64 ll, .int .u64 tt] 60) := ⟨_, rfl⟩
          rw [← hwu] at HBW cg' d0' d1' d2' d3' d4' fg' b0 b1 b2 b3 b4 ⊢
          clear hwu x0 x1 x2 x3 x4
          go_quiet (fail)
          go_wp2
          go_roundw
          case rel =>
            have hbq := below_drewN HBW.out nq
            have hmq := HSTEP.out (wu.drewN nq) hbq
            exact ⟨j + 1, _, hjl, by first | go_num | (rw [Int.natCast_succ]), by first | go_num | (rw [Int.natCast_succ]), own_only (own_below HRW.out hbq) ((Only.refl [g7] _).setCell g7 i (.bool true) (.inl (by simp))) (fun y e => by simpa using HNE.out y e), by simp [World.setCell]; exact Nat.le_trans HWZ1.out hbq.size, hmq⟩
          case measure => simp [intOf]; omega
        · have ej : j = F.U.length := by omega
          have hjl' : decide ((j : Int) < ((F.U.length : Nat) : Int)) = false := decide_eq_false (by omega)
          have HME := HM1.out
          rw [ej, List.drop_length] at HME
          have HALL : Hid (∀ i (h : i < G1.length), G1[i] = true) := fun i h => by
            cases e : G1[i] with
            | true => rfl
            | false =>
              have hi : i < T.length := by rw [← HME.len]; exact h
              have := (HME.un T[i]).2 ⟨i, hi, rfl, by rw [List.getElem?_eq_getElem h, e]⟩
              simp at this
          have HMF := hid HME
          have hGl : G1.length = T.length := HME.len
          clear HME HM1
          obtain ⟨a7, c7, e7, h7⟩ := own_viewB HMF.out.gone
          have H7 := hid h7
          subst e7
          clear h7
          go_wp2_with fail
          obtain ⟨wg, hwg⟩ : ∃ wg, wg = wr := ⟨_, rfl⟩
          rw [← hwg] at HMF H7 ⊢
          clear hwg
          go_loopw [191] (fun s wr => ∃ (i : Nat), i ≤ G1.length ∧ s = .int .i64 i ∧ wr = wg) (fun s _ => G1.length - (intOf s).toNat)
          case atStart => exact ⟨0, Nat.zero_le _, rfl, rfl⟩
          case round =>
            obtain ⟨i, hi, rfl, rfl⟩ := hrel
            by_cases hil : i < G1.length
            · obtain ⟨g7, rfl, _, cg, _⟩ := H7.out i hil
              rw [HALL.out i hil] at cg
              have hil' : (i : Int) < (G1.length : Int) := by omega
              have hgb : G1.length ≤ 1954687338268 := by have := HKT.out; omega
              go_wp2
              go_roundw
              case rel => exact ⟨i + 1, hil, by first | go_num | (rw [Int.natCast_succ]), by first | rfl | trivial⟩
              case measure => simp [intOf]; omega
            · have hil' : decide ((i : Int) < (G1.length : Int)) = false := decide_eq_false (by omega)
              have hI := inflight_any HMF.out.fl
              have HBF := hid HMF.out.bel
              go_wp2_with (go_at_call 28; refine hI.mono ?_; rintro e w5 ⟨rfl, rfl⟩)
              go_ret
              exact ⟨rfl, HBF.out⟩
end Go.Proofs.Ytbkfmknjbdonlaa
