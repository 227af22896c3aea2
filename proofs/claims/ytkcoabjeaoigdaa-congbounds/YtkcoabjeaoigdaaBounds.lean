import Derived.Test.YtkcoabjeaoigdaaBd0
import Derived.Test.YtkcoabjeaoigdaaNo0
namespace Go.Proofs.Ytkcoabjeaoigdaa
open Go.RowKit Go.Sort
set_option maxRecDepth 100000

theorem info3 : ∃ i : TypeInfo, Try.prog.info? 3 = some i ∧ i.zero = some (.int .i64 0) ∧ i.size = 1 ∧ i.bytes = 8 := by
  have h : (Try.prog.info? 3).map (fun i => (i.zero, i.size, i.bytes)) = some (some (.int .i64 0), 1, 8) := by kernel_rfl
  cases hq : Try.prog.info? 3 with
  | none => rw [hq] at h; cases h
  | some i => rw [hq] at h; simp at h; exact ⟨i, rfl, h.1, h.2.1, h.2.2⟩
theorem append_i {base m : Nat} {w : World} {v : Value} {xs : List Value} (h : w.ownsRow base 3 1 v m xs) (hm : m ≤ 64) (hbase : base ≤ w.heap.size) (x : Int) (ty : TypeId) :
    ∃ v' w', (Builtin.append_ #[37, 37] ty #[v, .slice (some ⟨w.heap.size, 0, none⟩) 1 1]).run Try.prog (w.alloc (.cells #[.int .i64 x] 3)) = .ok v' w' ∧ w'.ownsRow base 3 1 v' (m + 1) (xs ++ [.int .i64 x]) ∧ Below base w w' := by
  obtain ⟨i, i1, i2, i3, i4⟩ := info3
  have hal := below_grow (Below.refl w.heap.size w) (.cells #[.int .i64 x] 3)
  have h' : (w.alloc (.cells #[.int .i64 x] 3)).ownsRow base 3 1 v m xs := h.alloc _
  obtain ⟨v', w', hr, ho, hg, _⟩ := run_append_own (P := Try.prog) (w.alloc (.cells #[.int .i64 x] 3)) base 37 ty 3 i (.int .i64 0) 1 8 Try.underlying37 i1 i2 i3 i4 rfl (by decide) v m xs h' ⟨w.heap.size, 0, none⟩ 1 1 [.int .i64 x] rfl (fun j u hu => by
    match j, hu with
    | 0, hu => simp at hu; subst hu; rw [Addr.add_mid]; exact (Row.new w [Value.int .i64 x] 3).cell 0 _ rfl) (by simp [Value.oneCell']) (by unfold maxLen; omega) (by omega) (Nat.le_trans hbase hal.size)
  refine ⟨v', w', hr, ho, (hal.mono hbase).trans ⟨hg.os, hg.tape, hg.output, hg.size, fun k hk => hg.block k (by have := hal.size; omega) (fun e => ?_)⟩⟩
  obtain ⟨_, ⟨rfl, _⟩ | ⟨g, cap, cur, rfl, hbb, _⟩⟩ := h
  · cases e
  · simp only [Value.ownBlock, Option.some.injEq] at e
    omega
theorem wp_append_by {P : Program} {w : World} {o : Oper} {a : Act} {K : Act → World → Prop} {Q : Exit → Act → World → Prop} (s x : Operand) (t : TypeId)
    (ho : o.op = .call { callee := .builtin .append, args := #[s, x], argTypes := #[t, t] }) {v u v' : Value} {w' : World} (hs : a.eval s = v) (hx : a.eval x = u)
    (hr : (Builtin.append_ #[t, t] o.type #[v, u]).run P w = .ok v' w') (h : K (a.put o.dst v') w') : o.wp P a w K Q := by
  unfold Oper.wp execOp
  simp only [ho, resolve, invoke, builtin, Sem.run_bind, Sem.run_pure, Result.andThen_ok, List.map_toArray, List.map_cons, List.map_nil, hs, hx, hr]
  exact h
theorem wpList_append_by {P : Program} {w : World} {ops : Array Oper} {rest : List Oper} {o : Oper} {a : Act} {Q : Exit → Act → World → Prop} (hgd : o.guard = none) (s x : Operand) (t : TypeId)
    (ho : o.op = .call { callee := .builtin .append, args := #[s, x], argTypes := #[t, t] }) {v u v' : Value} {w' : World} (hs : a.eval s = v) (hx : a.eval x = u)
    (hr : (Builtin.append_ #[t, t] o.type #[v, u]).run P w = .ok v' w') (h : wpList P ops Q rest (a.put o.dst v') w') : wpList P ops Q (o :: rest) a w :=
  wpList_plain hgd fun _ hK => wp_append_by s x t ho hs hx hr (hK _ _ h)
theorem owns_kept {w w' : World} {base m : Nat} {v : Value} {xs : List Value} (h : w.ownsRow base 3 1 v m xs) (hb : Below w.heap.size w w') : w'.ownsRow base 3 1 v m xs := by
  obtain ⟨h1, h | ⟨g, cap, cur, h2, h3, h4, h5⟩⟩ := h
  · exact ⟨h1, .inl h⟩
  · exact ⟨h1, .inr ⟨g, cap, cur, h2, h3, (hb.block g (Array.getElem?_eq_some_iff.1 h4).1).trans h4, h5⟩⟩
/-- The windows that were: a slice with room of its own. -/
def Was (w : World) (v : Value) (D : Nat → Ln) (k : Nat) : Prop := ∃ a cap, v = .slice a k cap ∧ ∀ j, j < k → ∃ q, a = some ⟨q, 0, none⟩ ∧ w.cell? ⟨q, j, none⟩ = some (.int .i64 (D j).c) ∧ ∃ c, Row w q c 3
def wasL (D : Nat → Ln) (k : Nat) : List Value := (List.range k).map (fun j => .int .i64 (D j).c)
theorem wasL_succ (D : Nat → Ln) (k : Nat) : wasL D (k + 1) = wasL D k ++ [.int .i64 (D k).c] := by unfold wasL; rw [List.range_succ, List.map_append]; rfl
theorem was_of {base k : Nat} {w : World} {v : Value} {D : Nat → Ln} (h : w.ownsRow base 3 1 v k (wasL D k)) : Was w v D k := by
  obtain ⟨h1, ⟨rfl, rfl⟩ | ⟨g, cap, cur, rfl, hb, hh, hc, _, hs, ht⟩⟩ := h
  · exact ⟨none, 0, rfl, fun j hj => by omega⟩
  · refine ⟨_, _, rfl, fun j hj => ⟨g, rfl, ?_, cur.toList, ⟨by simpa using hh⟩⟩⟩
    rw [cell_of_row w g j cur 3 (0, 0) hh]
    have hjl : j < (wasL D k).length := by rw [h1]; omega
    have e : (wasL D k)[j]? = cur.toList[j]? := by rw [← ht, Nat.mul_one, List.getElem?_take_of_lt hj]
    rw [List.getElem?_eq_getElem hjl] at e
    have e2 : (wasL D k)[j] = .int .i64 (D j).c := by simp [wasL]
    rw [e2] at e
    simpa using e.symm
theorem Was.kept {w w' : World} {v : Value} {D : Nat → Ln} {k : Nat} (h : Was w v D k) (hb : Below w.heap.size w w') : Was w' v D k := by
  obtain ⟨a, cap, rfl, h⟩ := h
  refine ⟨a, cap, rfl, fun j hj => ?_⟩
  obtain ⟨q, rfl, hc, c, hr⟩ := h j hj
  exact ⟨q, rfl, cell_kept hb hc, c, hr.kept hb hr.lt⟩
theorem Was.only {w w' : World} {v : Value} {D E : Nat → Ln} {k g n : Nat} (h : Was w v D k) (hg : GAt w g n E) (ho : Only [g] w w') : Was w' v D k := by
  obtain ⟨a, cap, rfl, h⟩ := h
  refine ⟨a, cap, rfl, fun j hj => ?_⟩
  obtain ⟨q, rfl, hc, c, hr⟩ := h j hj
  have hne : q ∉ [g] := by simpa using hg.ne hr (by decide)
  exact ⟨q, rfl, ho.cell hc hne, c, ho.row hr hne⟩
/-- What the last loop keeps. -/
structure BSt (W w : World) (g n b : Nat) (o : OpV) (v : Value) (D E : Nat → Ln) : Prop where
  own : Own1 W w g n E
  box : Row w b [.int .i64 o.kind, .bool o.sec, .int .i64 o.path, .int .i64 o.n, .bool o.on, .int .u64 o.ms] 36
  was : Was w v D n
theorem BSt.kept {W w w' : World} {g n b : Nat} {o : OpV} {v : Value} {D E : Nat → Ln} (h : BSt W w g n b o v D E) (hb : Below w.heap.size w w') : BSt W w' g n b o v D E := ⟨h.own.kept hb, h.box.kept hb h.box.lt, h.was.kept hb⟩
set_option maxHeartbeats 4000000 in
theorem bounds_any {w : World} {x : Int} {a : Option Addr} {ln cap : Nat} {S : List OpV} (hC : OpsAt w a S) (hn : S.length = ln) (hm : ln ≤ 140737488355328) :
    Calls Try.prog 4 #[.int .i64 x, .slice a ln cap] w fun e w' => e = .returned (.bool true) ∧ Below w.heap.size w w' := by
  have HC := hid hC
  have HN := hid hn
  have HA := hid (alive_any w)
  obtain ⟨n, n1, n8, en⟩ := paths_of x
  clear hC hn
  go_enter Try.func4, Try.ntmps4
  go_upto_region 4 with (go_at_call 15; refine HA.out.mono ?_; clear HA; rintro e w1 ⟨rfl, hb⟩; have HB1 := hid hb; clear hb)
  rw [en]
  clear en
  have HNW := hid (own_new HB1.out n1 n8)
  have H1 := hid n1
  have H8 := hid n8
  clear n1 n8 HB1
  go_upto_region 5 with (go_at_call 9; refine HNW.out.mono ?_; clear HNW; rintro e w2 ⟨rfl, h1, _⟩; have HO := hid h1; clear h1)
  obtain ⟨g, hg⟩ : ∃ g, g = w1.heap.size := ⟨_, rfl⟩
  rw [← hg] at HO
  rw [← hg]
  clear hg
  go_wp2
  go_loopw [6] (fun i wr => ∃ (k : Nat) (D : Nat → Ln), k ≤ ln ∧ i = .int .i64 k ∧ Own1 w wr g n D) (fun i _ => ln - (intOf i).toNat)
  case atStart => exact ⟨0, _, Nat.zero_le _, rfl, HO.out⟩
  case round =>
    obtain ⟨k, D, hk, rfl, ho⟩ := hrel
    have HO' := hid ho
    clear ho HO
    by_cases hlt : k < ln
    · have hkc : k < S.length := by rw [HN.out]; exact hlt
      obtain ⟨ga, oa, rfl, c0, c1, c2, c3, c4, c5⟩ := HC.out.at_ k hkc
      have HOK := hid (HC.out.ok S[k] (List.getElem_mem hkc))
      have l1 : (k : Int) < (ln : Int) := by omega
      generalize S[k] = o at *
      have d0 := cell_kept HO'.out.bel c0
      have d1 := cell_kept HO'.out.bel c1
      have d2 := cell_kept HO'.out.bel c2
      have d3 := cell_kept HO'.out.bel c3
      have d4 := cell_kept HO'.out.bel c4
      have d5 := cell_kept HO'.out.bel c5
      have HK := hid hlt
      have hk2 : (k : Int) ≤ 140737488355328 := by omega
      clear c0 c1 c2 c3 c4 c5 hk hlt hkc
      go_upto_region 11 with (fail)
      refine wp_world fun wb HW => ?_
      obtain ⟨b, hb⟩ : ∃ b, b = wr.heap.size := ⟨_, rfl⟩
      have HRb : Hid (Row wb b [.int .i64 o.kind, .bool o.sec, .int .i64 o.path, .int .i64 o.n, .bool o.on, .int .u64 o.ms] 36) := by show Row _ _ _ _; rw [HW.out, hb]; exact Row.new _ _ _
      have HOb : Hid (Own1 w wb g n D) := by show Own1 _ _ _ _ _; rw [HW.out]; exact HO'.out.kept (below_grow (Below.refl _ _) _)
      rw [← hb]
      clear hb HW HO' d0 d1 d2 d3 d4 d5
      go_wp2
      go_loopw [8, 9] (fun v i wr => ∃ (j : Nat) (vv : Value), j ≤ n ∧ i = .int .i64 j ∧ vv = v ∧ wr.ownsRow wb.heap.size 3 1 vv j (wasL D j) ∧ Below wb.heap.size wb wr) (fun _ i _ => n - (intOf i).toNat)
      case atStart => exact ⟨0, _, Nat.zero_le _, rfl, rfl, ⟨rfl, .inl ⟨rfl, rfl⟩⟩, Below.refl _ _⟩
      case round =>
        obtain ⟨j, vv, hj, rfl, rfl, how, hbb⟩ := hrel
        have HO2 := hid how
        have HB2 := hid hbb
        clear how hbb
        by_cases hlt : j < n
        · have l2 : (j : Int) < (n : Int) := by omega
          have HJ := hid hlt
          have hj2 : (j : Int) ≤ 8 := by have := H8.out; omega
          have HWI := hid (window_any (HOb.out.at_.kept HB2.out) j)
          rw [winD_in hlt] at HWI
          simp only at HWI
          have HSU := hid (wasL_succ D j)
          have hfd := fld0 (D j).c (D j).t
          clear hj hlt
          generalize hcc : (D j).c = c at *
          generalize htt : (D j).t = t at *
          go_wp2_with (first
            | (go_at_call 13; refine HWI.out.mono ?_; clear HWI; rintro e w3 ⟨rfl, hb⟩; have HB3 := hid (HB2.out.trans (hb.mono HB2.out.size)); have HO3 := hid (owns_kept HO2.out hb); have HRR := hid (append_i HO3.out (by have := HJ.out; have := H8.out; omega) HB3.out.size c 37); clear hb)
            | (obtain ⟨v', w4, hr, ho4, hb4⟩ := HRR.out; have HR := hid hr; have HO4 := hid ho4; have HB4 := hid (HB3.out.trans hb4); clear hr ho4 hb4 HRR; at_builtin; refine wpList_append_by rfl _ _ _ rfl rfl rfl HR.out ?_))
          go_roundw
          case rel => exact ⟨j + 1, _, HJ.out, by first | go_num | (rw [Int.natCast_succ]), rfl, by rw [HSU.out]; exact HO4.out, HB4.out⟩
          case measure =>
            simp [intOf]
            have := HJ.out
            omega
        · have e1 : decide ((j : Int) < (n : Int)) = false := decide_eq_false (by omega)
          have e2 : decide (j < n) = false := decide_eq_false hlt
          have HJN : Hid (j = n) := by show _ = _; omega
          clear hlt hj
          have how := HO2.out
          rw [HJN.out] at how
          obtain ⟨aw, cw, hvv, hwas⟩ := was_of how
          obtain ⟨qw, rfl, _⟩ := hwas 0 H1.out
          have HWS : Hid (Was wr vv D n) := ⟨_, cw, hvv, hwas⟩
          clear how hwas
          subst hvv
          have HOr := hid (HOb.out.kept HB2.out)
          have HRr := hid (HRb.out.kept HB2.out HRb.out.lt)
          have x0 := HRr.out.cell 0 _ rfl
          have x1 := HRr.out.cell 1 _ rfl
          have x2 := HRr.out.cell 2 _ rfl
          have x3 := HRr.out.cell 3 _ rfl
          have x4 := HRr.out.cell 4 _ rfl
          have x5 := HRr.out.cell 5 _ rfl
          have HA := hid (act_any HOr.out.at_ HOK.out)
          have HMV := hid (fun (j : Nat) (hj : j < n) => act_moves HOr.out.at_.ok o hj)
          go_upto_region 17 with (go_at_call 16; refine HA.out.mono ?_; clear HA x0 x1 x2 x3 x4 x5; rintro e w5 ⟨rfl, h1, h2⟩; have HB5 := hid (BSt.mk (HOr.out.to h1 h2) (h2.row HRr.out (by simpa using HOr.out.at_.ne HRr.out (by decide))) (HWS.out.only HOr.out.at_ h2)); clear h1 h2)
          clear HOr HRr HWS HO2 HB2 HOb HRb e1 e2 HJN
          obtain ⟨E, hE⟩ : ∃ E, E = actD D n o := ⟨_, rfl⟩
          rw [← hE] at HB5 HMV
          clear hE
          go_wp2
          go_loopw [10] (fun i wr => ∃ (j : Nat), j ≤ n ∧ i = .int .i64 j ∧ BSt w wr g n b o (.slice (some ⟨qw, 0, none⟩) n cw) D E) (fun i _ => n - (intOf i).toNat)
          case atStart => exact ⟨0, Nat.zero_le _, rfl, HB5.out⟩
          case round =>
            obtain ⟨i, hi, rfl, hst⟩ := hrel
            have HS6 := hid hst
            clear hst HB5
            by_cases hlt : i < n
            · have l3 : (i : Int) < (n : Int) := by omega
              have HI := hid hlt
              have hi2 : (i : Int) ≤ 8 := by have := H8.out; omega
              have HWI := hid (window_any HS6.out.own.at_ i)
              rw [winD_in hlt] at HWI
              simp only at HWI
              have hwn : (winD E n i).1 = (E i).c := by rw [winD_in hlt]
              have ok := HS6.out.own.at_.ok i hlt
              obtain ⟨k0, k1, k2, k3, _, _⟩ := ok
              obtain ⟨m1, m2, m3⟩ := HMV.out i hlt
              have HM1 := hid m1
              have HM2 := hid m2
              have HM3 := hid m3
              clear hi hlt m1 m2 m3
              have HFR : Hid (∀ w' : World, GAt w' g n E → Calls Try.prog 17 #[.pointer (some ⟨g, 0, none⟩), .int .i64 i] w' fun e w'' => e = .returned (.int .i64 ((E i).c / 1024)) ∧ Below w'.heap.size w' w'') := fun w' h => by
                have := frames_any h i
                rwa [hwn] at this
              clear hwn
              generalize (E i).c = c at *
              generalize (E i).t = t at *
              go_upto_region 21 with (go_at_call 13; refine HWI.out.mono ?_; clear HWI; rintro e w7 ⟨rfl, hb⟩; have HS7 := hid (HS6.out.kept hb); clear hb)
              clear HS6
              refine wp_world fun wc HW => ?_
              obtain ⟨y, hy⟩ : ∃ y, y = w7.heap.size := ⟨_, rfl⟩
              have HYc : Hid (Row wc y [.int .i64 c, .int .i64 t] 29) := by show Row _ _ _ _; rw [HW.out, hy]; exact Row.new _ _ _
              have HSc : Hid (BSt w wc g n b o (.slice (some ⟨qw, 0, none⟩) n cw) D E) := by show BSt _ _ _ _ _ _ _ _ _; rw [HW.out]; exact HS7.out.kept (below_grow (Below.refl _ _) _)
              rw [← hy]
              clear hy HW HS7
              have K1 : Hid (∀ d os, Calls Try.prog 17 #[.pointer (some ⟨g, 0, none⟩), .int .i64 i] (grow (redrawn wc d) os) fun e w'' => e = .returned (.int .i64 (c / 1024)) ∧ ∃ q : Regrown, w'' = grow (redrawn wc q.d) q.os) :=
                fun d os => Calls.regrown_of (HFR.out _ (HSc.out.own.at_.kept (below_regrown _ d os)))
              have y0 := cell_regrown (HYc.out.cell 0 _ rfl)
              have y1 := cell_regrown (HYc.out.cell 1 _ rfl)
              have t1 : decide (c < 1024) = false := decide_eq_false (by omega)
              have t2 : decide (262144 < c) = false := decide_eq_false (by omega)
              have t3 : decide (t < 2048) = false := decide_eq_false (by omega)
              have t4 : decide (262144 < t) = false := decide_eq_false (by omega)
              have ed : c.tdiv 1024 = c / 1024 := Int.tdiv_eq_ediv_of_nonneg (by omega)
              have ew : wrap64 (c / 1024) = c / 1024 := by unfold wrap64; omega
              have iw : IntKind.i64.wrap (c / 1024) = c / 1024 := (iw64 _).trans ew
              clear k0 k1 k2 k3
              generalize c / 1024 = cf at *
              refine wp_region_quiet_below (by kernel_rfl) (by decide +kernel) ?_
              repeat (quiet_step (first | (go_at_call 17; exact K1.out _ _)))
              refine wpQuiet_nil ?_
              intro _ hw'
              obtain ⟨⟨dq, osq⟩, hw''⟩ := hw'
              subst hw''
              have HSd := hid (HSc.out.kept (below_regrown wc dq osq))
              have HYd := hid (HYc.out.kept (below_regrown wc dq osq) HYc.out.lt)
              clear y0 y1 K1 t1 t2 t3 t4 ed ew iw HSc HYc HFR
              generalize grow (redrawn wc (Regrown.mk dq osq).d) (Regrown.mk dq osq).os = wd at *
              obtain ⟨_, _, hvs, hwas⟩ := HSd.out.was
              obtain ⟨qq, hqq, wcell, _⟩ := hwas i HI.out
              simp only [Value.slice.injEq] at hvs
              obtain ⟨rfl, _, rfl⟩ := hvs
              simp only [Option.some.injEq, Addr.mk.injEq] at hqq
              obtain ⟨rfl, _⟩ := hqq
              clear hwas
              generalize (D i).c = dc at *
              have x0 := HSd.out.box.cell 0 _ rfl
              have x2 := HSd.out.box.cell 2 _ rfl
              have y0 := HYd.out.cell 0 _ rfl
              by_cases k3 : o.kind = 3
              · skip
                by_cases hp : o.path = i
                · skip
                  have tq : decide (c < dc) = false := decide_eq_false (by have := HM2.out k3; omega)
                  clear HM1 HM2 HM3
                  go_wp2
                  go_region
                  go_wp2
                  go_region
                  go_wp2
                  go_roundw
                  case rel => exact ⟨i + 1, HI.out, by first | go_num | (rw [Int.natCast_succ]), HSd.out.kept (below_drawn (Below.refl _ _) _)⟩
                  case measure =>
                    simp [intOf]
                    have := HI.out
                    omega
                · skip
                  have zp : (o.path == (i : Int)) = false := by simp [hp]
                  have hcd : c = dc := HM1.out (by omega)
                  subst hcd
                  have tq : decide (c < c) = false := decide_eq_false (by have := HM2.out k3; omega)
                  clear HM1 HM2 HM3
                  go_wp2
                  go_region
                  go_wp2
                  go_region
                  go_wp2
                  go_roundw
                  case rel => exact ⟨i + 1, HI.out, by first | go_num | (rw [Int.natCast_succ]), HSd.out.kept (below_drawn (Below.refl _ _) _)⟩
                  case measure =>
                    simp [intOf]
                    have := HI.out
                    omega
              · by_cases k4 : o.kind = 4
                · skip
                  by_cases hp : o.path = i
                  · skip
                    have tq : decide (max dc 2048 < c) = false := decide_eq_false (by have := HM3.out (by omega); omega)
                    clear HM1 HM2 HM3
                    go_wp2
                    go_region
                    go_wp2
                    go_region
                    go_wp2
                    go_roundw
                    case rel => exact ⟨i + 1, HI.out, by first | go_num | (rw [Int.natCast_succ]), HSd.out.kept (below_drawn (Below.refl _ _) _)⟩
                    case measure =>
                      simp [intOf]
                      have := HI.out
                      omega
                  · skip
                    have zp : (o.path == (i : Int)) = false := by simp [hp]
                    have hcd : c = dc := HM1.out (by omega)
                    subst hcd
                    have tq : decide (max c 2048 < c) = false := decide_eq_false (by have := HM3.out (by omega); omega)
                    clear HM1 HM2 HM3
                    go_wp2
                    go_region
                    go_wp2
                    go_region
                    go_wp2
                    go_roundw
                    case rel => exact ⟨i + 1, HI.out, by first | go_num | (rw [Int.natCast_succ]), HSd.out.kept (below_drawn (Below.refl _ _) _)⟩
                    case measure =>
                      simp [intOf]
                      have := HI.out
                      omega
                · by_cases k5 : o.kind = 5
                  · skip
                    by_cases hp : o.path = i
                    · skip
                      have tq : decide (max dc 2048 < c) = false := decide_eq_false (by have := HM3.out (by omega); omega)
                      clear HM1 HM2 HM3
                      go_wp2
                      go_region
                      go_wp2
                      go_region
                      go_wp2
                      go_roundw
                      case rel => exact ⟨i + 1, HI.out, by first | go_num | (rw [Int.natCast_succ]), HSd.out.kept (below_drawn (Below.refl _ _) _)⟩
                      case measure =>
                        simp [intOf]
                        have := HI.out
                        omega
                    · skip
                      have zp : (o.path == (i : Int)) = false := by simp [hp]
                      have hcd : c = dc := HM1.out (by omega)
                      subst hcd
                      have tq : decide (max c 2048 < c) = false := decide_eq_false (by have := HM3.out (by omega); omega)
                      clear HM1 HM2 HM3
                      go_wp2
                      go_region
                      go_wp2
                      go_region
                      go_wp2
                      go_roundw
                      case rel => exact ⟨i + 1, HI.out, by first | go_num | (rw [Int.natCast_succ]), HSd.out.kept (below_drawn (Below.refl _ _) _)⟩
                      case measure =>
                        simp [intOf]
                        have := HI.out
                        omega
                  · skip
                    by_cases hp : o.path = i
                    · skip
                      have z3 : (o.kind == 3) = false := by simp [k3]
                      have z4 : (o.kind == 4) = false := by simp [k4]
                      have z5 : (o.kind == 5) = false := by simp [k5]
                      have hcd : c = dc := HM1.out (by omega)
                      subst hcd
                      clear HM1 HM2 HM3
                      go_wp2
                      go_region
                      go_wp2
                      go_region
                      go_wp2
                      go_roundw
                      case rel => exact ⟨i + 1, HI.out, by first | go_num | (rw [Int.natCast_succ]), HSd.out.kept (below_drawn (Below.refl _ _) _)⟩
                      case measure =>
                        simp [intOf]
                        have := HI.out
                        omega
                    · skip
                      have z3 : (o.kind == 3) = false := by simp [k3]
                      have z4 : (o.kind == 4) = false := by simp [k4]
                      have z5 : (o.kind == 5) = false := by simp [k5]
                      have zp : (o.path == (i : Int)) = false := by simp [hp]
                      have hcd : c = dc := HM1.out (by omega)
                      subst hcd
                      clear HM1 HM2 HM3
                      go_wp2
                      go_region
                      go_wp2
                      go_region
                      go_wp2
                      go_roundw
                      case rel => exact ⟨i + 1, HI.out, by first | go_num | (rw [Int.natCast_succ]), HSd.out.kept (below_drawn (Below.refl _ _) _)⟩
                      case measure =>
                        simp [intOf]
                        have := HI.out
                        omega
            · have e1 : decide ((i : Int) < (n : Int)) = false := decide_eq_false (by omega)
              have e2 : decide (i < n) = false := decide_eq_false hlt
              clear hlt hi
              go_wp2
              go_roundw
              case rel => exact ⟨k + 1, _, HK.out, by first | go_num | (rw [Int.natCast_succ]), HS6.out.own⟩
              case measure =>
                simp [intOf]
                have := HK.out
                omega
    · have e1 : decide ((k : Int) < (ln : Int)) = false := decide_eq_false (by omega)
      have e2 : decide (k < ln) = false := decide_eq_false hlt
      clear hlt hk
      go_wp2
      go_ret
      exact ⟨rfl, HO'.out.bel⟩
end Go.Proofs.Ytkcoabjeaoigdaa
