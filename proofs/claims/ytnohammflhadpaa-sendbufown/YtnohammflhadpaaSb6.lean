import Derived.Test.YtnohammflhadpaaSb4
import Derived.WalkMore
namespace Go.Proofs.Ytnohammflhadpaa
open Go.RowKit Go.Maps Go.Sort
set_option maxRecDepth 100000

theorem CksAt.ckc {w : World} {a : Option Addr} {L : List Ck} (h : CksAt w a L) {m : Nat} (hm : m < L.length) : ∃ g o, a = some ⟨g, o, none⟩ ∧ CkC w g (o + m * 6) L[m] := by
  obtain ⟨g, o, e, q0, q1, q2, q3, q4, q5⟩ := h.cell hm
  exact ⟨g, o, e, q0, q1, q2, q3, q4, q5⟩
/-- A chunk that lowest looks for: not held, under way on none of these. -/
def Ck.free (c : Ck) (fr : Int) : Bool := !c.held && (bits BinOp.and IntKind.u8 c.on fr == 0)
/-- What lowest finds among the chunks from i on. -/
def Sb.lowFrom (F : Sb) (fr : Int) : List Ck → Option Ck
  | [] => none
  | c :: r => if F.mayGo c = true then (if c.free fr = true then some c else F.lowFrom fr r) else none
def Sb.low (F : Sb) (fr : Int) : Option Ck := F.lowFrom fr F.L
/-- What Want and Next tell. -/
def LowAns (w : World) (x : Option Ck) (e : Ending) (w' : World) : Prop :=
  Below w.heap.size w w' ∧ match x with
    | none => e = .returned (.tuple #[.agg #[.int .u64 0, .int .i64 0, .bool false, .slice none 0 0, .bool false], .bool false])
    | some c => ∃ s, e = .returned (.tuple #[ChV c s, .bool true]) ∧ OwnI w' w.heap.size s (onUp c.on 8)
theorem Row.result2 {P : Program} {w : World} {g : Nat} {c : List Value} {t : TypeId} {fn : Func} {p u : Tmp} {ty : TypeId} (h : Row w g c t) (hr : fn.results = #[.cell p ty, .tmp u]) (tmps : Array Value) (hp : tmps.getD p undef = .pointer (some ⟨g, 0, none⟩)) (d : TypeDesc)
    (hu : P.underlying ty = some d) (hd : (match d with | .struct _ | .array _ _ => true | _ => false) = true) (hi : (P.info? ty).map (·.size) = some c.length) : (results fn tmps).run P w = .ok (.tuple #[.agg c.toArray, tmps.getD u undef]) w := by
  have hp' : tmps[p]?.getD undef = .pointer (some ⟨g, 0, none⟩) := by simpa using hp
  simp [results, hr, hp', asAddr, run_loadVar_row w g t ty c.toArray (0, 0) d h.at_ hu hd (by simpa using hi)]
abbrev ch0 : List Value := [.int .u64 0, .int .i64 0, .bool false, .slice none 0 0, .bool false]
set_option maxHeartbeats 4000000 in
theorem lowest_any {w : World} {p : Nat} {F : Sb} {a : Option Addr} {cap : Nat} (h : SbR w p F a cap) (fr : Int) : Calls Try.prog 39 #[.pointer (some ⟨p, 0, none⟩), .int .u8 fr] w fun e w' => LowAns w (F.low fr) e w' := by
  obtain ⟨N, hN⟩ : ∃ N, F.L.length = N := ⟨_, rfl⟩
  have hb0 : Below w.heap.size w (w.alloc (.cells ch0.toArray 32)) := (Below.refl _ _).alloc (Nat.le_refl _) _
  have H := hid h
  have HN := hid hN
  have hnl : (N : Int) ≤ 65537 := by have := h.ok.nl; omega
  clear h hN
  go_enter Try.func39, Try.ntmps39
  go_wp2
  refine wp_world fun W HW => ?_
  have HX : Hid (Row W w.heap.size ch0 32) := by show Row _ _ _ _; rw [HW.out]; exact Row.new' _ _ _ _ _ rfl rfl
  have HB0 : Hid (Below w.heap.size w W) := by show Below _ _ _; rw [HW.out]; exact hb0
  have H0 : Hid (SbR W p F a cap) := H.out.kept HB0.out
  have c7 : W.cell? ⟨p, 7, none⟩ = some (.slice a N cap) := by rw [← HN.out]; exact H0.out.row.cell 7 _ rfl
  clear HW hb0 H
  go_step3
  go_wp2
  go_step3
  go_wp2
  go_loopw [6, 14] (fun s6 s14 wr => ∃ i : Nat, i ≤ N ∧ s14 = .int .i64 i ∧ s6 = .pointer none ∧ Hid (Below W.heap.size W wr) ∧ Hid (F.low fr = F.lowFrom fr (F.L.drop i))) (fun _ s _ => N - (intOf s).toNat)
  case atStart => exact ⟨0, Nat.zero_le _, rfl, rfl, hid (Below.refl _ _), hid rfl⟩
  case round =>
    obtain ⟨i, hi, rfl, rfl, HB, HI⟩ := hrel
    have H1 : Hid (SbR wr p F a cap) := H0.out.kept HB.out
    have HX1 : Hid (Row wr w.heap.size ch0 32) := HX.out.kept HB.out HX.out.lt
    have HB1 : Hid (Below w.heap.size w wr) := HB0.out.trans (HB.out.mono HB0.out.size)
    have d7 : wr.cell? ⟨p, 7, none⟩ = some (.slice a N cap) := by rw [← HN.out]; exact H1.out.row.cell 7 _ rfl
    by_cases hlt : i < N
    · have hil : i < F.L.length := by have := HN.out; omega
      obtain ⟨g, o, rfl, hC⟩ := H1.out.ck.ckc hil
      have hii : (i : Int) < N := by omega
      have HM := hid (mayGo_any H1.out hil rfl)
      have hD : F.L.drop i = F.L[i] :: F.L.drop (i + 1) := List.drop_eq_getElem_cons hil
      have HC := hid hC
      clear hC
      cases hm : F.mayGo F.L[i] with
      | false =>
        rw [hm] at HM
        have HE : Hid (F.low fr = none) := by show _ = _; rw [HI.out, hD]; unfold Sb.lowFrom; rw [hm]; rfl
        clear hm hD HI
        go_wp2_with (first | (go_at_call 68; refine HM.out.mono ?_; rintro e w1 ⟨rfl, hb1⟩; have HB2 := hid hb1; clear hb1) | (show wpList _ _ _ (Oper.mk none (.store 32 (.tmp 4) (.tmp 47)) _ _ _ _ :: _) _ _; refine (HX1.out.kept HB2.out HX1.out.lt).wpStore' 32 (.tmp 4) (.tmp 47) ch0 rfl rfl rfl rfl rfl (by simp [Value.oneCell']) i32 ?_; intro wz HZ))
        rw [Exit.noGoto_ret]
        have hz : Row wz w.heap.size ch0 32 := by rw [HZ.out]; exact (HX1.out.kept HB2.out HX1.out.lt).row ch0
        have hbz : Below w.heap.size w wz := by rw [HZ.out]; exact below_setRow (HB1.out.trans (HB2.out.mono HB1.out.size)) (Nat.le_refl _) _
        refine bodyPost_ret (hz.result2 Try.results39 _ rfl _ Try.underlying32 rfl i32) rfl ?_
        rw [HE.out]
        exact ⟨hbz, rfl⟩
      | true =>
        rw [hm] at HM
        cases hh : F.L[i].held with
        | true =>
          have HE : Hid (F.low fr = F.lowFrom fr (F.L.drop (i + 1))) := by show _ = _; rw [HI.out, hD, Sb.lowFrom, if_pos hm, if_neg (by simp [Ck.free, hh])]
          have q5 : ∀ w1, Below wr.heap.size wr w1 → w1.cell? ⟨g, o + i * 6 + 5, none⟩ = some (.bool true) := fun w1 hb => by rw [← hh]; exact (HC.out.kept hb).q5
          have Q5 := hid q5
          clear hm hD HI hh q5
          go_wp2_with (go_at_call 68; refine HM.out.mono ?_; rintro e w1 ⟨rfl, hb1⟩; have HB2 := hid hb1; have r5 := Q5.out w1 hb1; clear hb1)
          go_roundw
          case rel => exact ⟨i + 1, hlt, by go_num, by first | rfl | trivial, hid (HB.out.trans (HB2.out.mono HB.out.size)), HE⟩
          case measure => simp [intOf]; omega
        | false =>
          have q5 : ∀ w1, Below wr.heap.size wr w1 → w1.cell? ⟨g, o + i * 6 + 5, none⟩ = some (.bool false) ∧ w1.cell? ⟨g, o + i * 6 + 3, none⟩ = some (.int .u8 F.L[i].on) := fun w1 hb => ⟨by rw [← hh]; exact (HC.out.kept hb).q5, (HC.out.kept hb).q3⟩
          have Q5 := hid q5
          generalize hbb : bits BinOp.and IntKind.u8 F.L[i].on fr = bb at *
          by_cases hz : bb = 0
          · have HE : Hid (F.low fr = some F.L[i]) := by show _ = _; rw [HI.out, hD, Sb.lowFrom, if_pos hm, if_pos (by simp [Ck.free, hh, hbb, hz])]
            subst hz
            have HS : Hid (∀ w1, Below wr.heap.size wr w1 → Calls Try.prog 45 #[.pointer (some ⟨g, o + i * 6, none⟩)] w1 fun e w' => ∃ s, e = .returned (ChV F.L[i] s) ∧ OwnI w' w1.heap.size s (onUp F.L[i].on 8) ∧ Below w1.heap.size w1 w') := fun w1 hb => shown_any (HC.out.kept hb)
            clear hm hD HI hh q5
            go_wp2_with (first | (go_at_call 68; refine HM.out.mono ?_; rintro e w1 ⟨rfl, hb1⟩; have HB2 := hid hb1; have HS1 := hid (HS.out w1 hb1); obtain ⟨r5, r3⟩ := Q5.out w1 hb1; clear hb1) | (go_at_call 45; refine HS1.out.mono ?_; rintro e w2 ⟨sv, rfl, hO2, hb2⟩; have HO2 := hid hO2; have HB3 := hid hb2; clear hO2 hb2; obtain ⟨sa, sc, hsv⟩ := ownI_shape HO2.out; subst hsv; unfold ChV) | (show wpList _ _ _ (Oper.mk none (.store 32 (.tmp 4) (.tmp 49)) _ _ _ _ :: _) _ _; refine ((HX1.out.kept HB2.out HX1.out.lt).kept HB3.out (HX1.out.kept HB2.out HX1.out.lt).lt).wpStore' 32 (.tmp 4) (.tmp 49) [.int .u64 F.L[i].off, .int .i64 F.L[i].bs.length, .bool F.L[i].fin, .slice sa (onUp F.L[i].on 8).length sc, .bool F.L[i].held] rfl rfl rfl rfl rfl (by simp [Value.oneCell']) i32 ?_; intro wz HZ))
            have hX2 := (HX1.out.kept HB2.out HX1.out.lt).kept HB3.out (HX1.out.kept HB2.out HX1.out.lt).lt
            have hz : Row wz w.heap.size [.int .u64 F.L[i].off, .int .i64 F.L[i].bs.length, .bool F.L[i].fin, .slice sa (onUp F.L[i].on 8).length sc, .bool F.L[i].held] 32 := by rw [HZ.out]; exact hX2.row _
            have hb12 : Below w.heap.size w w1 := HB1.out.trans (HB2.out.mono HB1.out.size)
            have hbz : Below w.heap.size w wz := by rw [HZ.out]; exact below_setRow (hb12.trans (HB3.out.mono hb12.size)) (Nat.le_refl _) _
            have hlt1 : w.heap.size < w1.heap.size := (HX1.out.kept HB2.out HX1.out.lt).lt
            rw [Exit.noGoto_ret]
            refine bodyPost_ret (hz.result2 Try.results39 _ rfl _ Try.underlying32 rfl i32) rfl ?_
            rw [HE.out]
            exact ⟨hbz, _, rfl, by rw [HZ.out]; exact ownI_less (ownI_set HO2.out hlt1 _) hb12.size⟩
          · have HE : Hid (F.low fr = F.lowFrom fr (F.L.drop (i + 1))) := by show _ = _; rw [HI.out, hD, Sb.lowFrom, if_pos hm, if_neg (by simp [Ck.free, hh, hbb, hz])]
            clear hm hD HI hh q5
            go_wp2_with (go_at_call 68; refine HM.out.mono ?_; rintro e w1 ⟨rfl, hb1⟩; have HB2 := hid hb1; obtain ⟨r5, r3⟩ := Q5.out w1 hb1; clear hb1)
            go_roundw
            case rel => exact ⟨i + 1, hlt, by go_num, by first | rfl | trivial, hid (HB.out.trans (HB2.out.mono HB.out.size)), HE⟩
            case measure => simp [intOf]; omega
    · obtain rfl : i = N := by omega
      have hii : ¬ (i : Int) < i := by omega
      have HE : Hid (F.low fr = none) := by show _ = _; rw [HI.out, List.drop_eq_nil_of_le (by have := HN.out; omega)]; rfl
      clear HI
      go_wp2_with ((show wpList _ _ _ (Oper.mk none (.store 32 (.tmp 4) (.tmp 47)) _ _ _ _ :: _) _ _; refine HX1.out.wpStore' 32 (.tmp 4) (.tmp 47) ch0 rfl rfl rfl rfl rfl (by simp [Value.oneCell']) i32 ?_; intro wz HZ))
      have hz : Row wz w.heap.size ch0 32 := by rw [HZ.out]; exact HX1.out.row ch0
      have hbz : Below w.heap.size w wz := by rw [HZ.out]; exact below_setRow HB1.out (Nat.le_refl _) _
      refine bodyPost_ret (hz.result2 Try.results39 _ rfl _ Try.underlying32 rfl i32) rfl ?_
      rw [HE.out]
      exact ⟨hbz, rfl⟩
end Go.Proofs.Ytnohammflhadpaa
namespace Go.Proofs.Ytnohammflhadpaa
open Go.RowKit Go.Maps Go.Sort
set_option maxRecDepth 100000

set_option maxHeartbeats 1000000 in
theorem want_any {w : World} {p : Nat} {F : Sb} {a : Option Addr} {cap : Nat} (h : SbR w p F a cap) : Calls Try.prog 14 #[.pointer (some ⟨p, 0, none⟩)] w fun e w' => LowAns w (F.low 255) e w' := by
  have hb0 : Below w.heap.size w (w.alloc (.cells ch0.toArray 32)) := (Below.refl _ _).alloc (Nat.le_refl _) _
  have H := hid h
  clear h
  go_enter Try.func14, Try.ntmps14
  go_upto_region 1 with fail
  refine wp_world fun W HW => ?_
  have HX : Hid (Row W w.heap.size ch0 32) := by show Row _ _ _ _; rw [HW.out]; exact Row.new' _ _ _ _ _ rfl rfl
  have HB0 : Hid (Below w.heap.size w W) := by show Below _ _ _; rw [HW.out]; exact hb0
  have HL := hid (lowest_any (H.out.kept HB0.out) 255)
  clear HW hb0
  cases hlow : F.low 255 with
  | none =>
    rw [hlow] at HL
    go_wp2_with (first | (go_at_call 39; refine HL.out.mono ?_; rintro e w1 ⟨hb1, rfl⟩; have HB1 := hid hb1; clear hb1) | (show wpList _ _ _ (Oper.mk none (.store 32 (.tmp 2) (.tmp 6)) _ _ _ _ :: _) _ _; refine (HX.out.kept HB1.out HX.out.lt).wpStore' 32 (.tmp 2) (.tmp 6) ch0 rfl rfl rfl rfl rfl (by simp [Value.oneCell']) i32 ?_; intro wz HZ))
    have hz : Row wz w.heap.size ch0 32 := by rw [HZ.out]; exact (HX.out.kept HB1.out HX.out.lt).row _
    have hbz : Below w.heap.size w wz := by rw [HZ.out]; exact below_setRow (HB0.out.trans (HB1.out.mono HB0.out.size)) (Nat.le_refl _) _
    refine bodyPost_ret (hz.result2 Try.results14 _ rfl _ Try.underlying32 rfl i32) rfl ?_
    rw [hlow]
    exact ⟨hbz, rfl⟩
  | some c =>
    rw [hlow] at HL
    go_wp2_with (first | (go_at_call 39; refine HL.out.mono ?_; rintro e w1 ⟨hb1, sv, rfl, hO1⟩; have HB1 := hid hb1; have HO1 := hid hO1; clear hb1 hO1; obtain ⟨sa, sc, hsv⟩ := ownI_shape HO1.out; subst hsv; unfold ChV) | (show wpList _ _ _ (Oper.mk none (.store 32 (.tmp 2) (.tmp 6)) _ _ _ _ :: _) _ _; refine (HX.out.kept HB1.out HX.out.lt).wpStore' 32 (.tmp 2) (.tmp 6) [.int .u64 c.off, .int .i64 c.bs.length, .bool c.fin, .slice sa (onUp c.on 8).length sc, .bool c.held] rfl rfl rfl rfl rfl (by simp [Value.oneCell']) i32 ?_; intro wz HZ))
    have hz : Row wz w.heap.size [.int .u64 c.off, .int .i64 c.bs.length, .bool c.fin, .slice sa (onUp c.on 8).length sc, .bool c.held] 32 := by rw [HZ.out]; exact (HX.out.kept HB1.out HX.out.lt).row _
    have hbz : Below w.heap.size w wz := by rw [HZ.out]; exact below_setRow (HB0.out.trans (HB1.out.mono HB0.out.size)) (Nat.le_refl _) _
    refine bodyPost_ret (hz.result2 Try.results14 _ rfl _ Try.underlying32 rfl i32) rfl ?_
    rw [hlow]
    exact ⟨hbz, _, rfl, by rw [HZ.out]; exact ownI_less (ownI_set HO1.out HX.out.lt _) HB0.out.size⟩
/-- What Next tells. -/
def Sb.nxt (F : Sb) (x : Int) : Option Ck := if bit x = 0 then none else F.low (bit x)
set_option maxHeartbeats 1000000 in
theorem next_any {w : World} {p : Nat} {F : Sb} {a : Option Addr} {cap : Nat} (h : SbR w p F a cap) (x : Int) : Calls Try.prog 23 #[.pointer (some ⟨p, 0, none⟩), .int .i64 x] w fun e w' => LowAns w (F.nxt x) e w' := by
  have hb0 : Below w.heap.size w (w.alloc (.cells ch0.toArray 32)) := (Below.refl _ _).alloc (Nat.le_refl _) _
  have H := hid h
  have HO := fun w => hid (only_any w x)
  obtain ⟨bi, hbi⟩ : ∃ bi, bit x = bi := ⟨_, rfl⟩
  have HN0 : Hid (bi = 0 → F.nxt x = none) := fun e => by unfold Sb.nxt; rw [hbi, if_pos e]
  have HN1 : Hid (¬ bi = 0 → F.nxt x = F.low bi) := fun e => by unfold Sb.nxt; rw [hbi, if_neg e]
  rw [hbi] at HO
  clear hbi
  clear h
  go_enter Try.func23, Try.ntmps23
  go_upto_region 1 with fail
  refine wp_world fun W HW => ?_
  have HX : Hid (Row W w.heap.size ch0 32) := by show Row _ _ _ _; rw [HW.out]; exact Row.new' _ _ _ _ _ rfl rfl
  have HB0 : Hid (Below w.heap.size w W) := by show Below _ _ _; rw [HW.out]; exact hb0
  have HL := hid (lowest_any (H.out.kept HB0.out) bi)
  clear HW hb0
  by_cases hz : bi = 0
  · have HNN := hid (HN0.out hz)
    subst hz
    go_wp2_with (first | (go_at_call 41; refine (HO _).out.mono ?_; rintro e w1 ⟨rfl, rfl⟩) | (show wpList _ _ _ (Oper.mk none (.store 32 (.tmp 4) (.tmp 11)) _ _ _ _ :: _) _ _; refine HX.out.wpStore' 32 (.tmp 4) (.tmp 11) ch0 rfl rfl rfl rfl rfl (by simp [Value.oneCell']) i32 ?_; intro wz HZ))
    have hz : Row wz w.heap.size ch0 32 := by rw [HZ.out]; exact HX.out.row _
    have hbz : Below w.heap.size w wz := by rw [HZ.out]; exact below_setRow HB0.out (Nat.le_refl _) _
    refine bodyPost_ret (hz.result2 Try.results23 _ rfl _ Try.underlying32 rfl i32) rfl ?_
    rw [HNN.out]
    exact ⟨hbz, rfl⟩
  · have HNN := hid (HN1.out hz)
    cases hlow : F.low bi with
    | none =>
      rw [hlow] at HL
      go_wp2_with (first | (go_at_call 41; refine (HO _).out.mono ?_; rintro e w1 ⟨rfl, rfl⟩) | (go_at_call 39; refine HL.out.mono ?_; rintro e w1 ⟨hb1, rfl⟩; have HB1 := hid hb1; clear hb1) | (show wpList _ _ _ (Oper.mk none (.store 32 (.tmp 4) (.tmp 15)) _ _ _ _ :: _) _ _; refine (HX.out.kept HB1.out HX.out.lt).wpStore' 32 (.tmp 4) (.tmp 15) ch0 rfl rfl rfl rfl rfl (by simp [Value.oneCell']) i32 ?_; intro wz HZ))
      have hz : Row wz w.heap.size ch0 32 := by rw [HZ.out]; exact (HX.out.kept HB1.out HX.out.lt).row _
      have hbz : Below w.heap.size w wz := by rw [HZ.out]; exact below_setRow (HB0.out.trans (HB1.out.mono HB0.out.size)) (Nat.le_refl _) _
      refine bodyPost_ret (hz.result2 Try.results23 _ rfl _ Try.underlying32 rfl i32) rfl ?_
      rw [HNN.out, hlow]
      exact ⟨hbz, rfl⟩
    | some c =>
      rw [hlow] at HL
      go_wp2_with (first | (go_at_call 41; refine (HO _).out.mono ?_; rintro e w1 ⟨rfl, rfl⟩) | (go_at_call 39; refine HL.out.mono ?_; rintro e w1 ⟨hb1, sv, rfl, hO1⟩; have HB1 := hid hb1; have HO1 := hid hO1; clear hb1 hO1; obtain ⟨sa, sc, hsv⟩ := ownI_shape HO1.out; subst hsv; unfold ChV) | (show wpList _ _ _ (Oper.mk none (.store 32 (.tmp 4) (.tmp 15)) _ _ _ _ :: _) _ _; refine (HX.out.kept HB1.out HX.out.lt).wpStore' 32 (.tmp 4) (.tmp 15) [.int .u64 c.off, .int .i64 c.bs.length, .bool c.fin, .slice sa (onUp c.on 8).length sc, .bool c.held] rfl rfl rfl rfl rfl (by simp [Value.oneCell']) i32 ?_; intro wz HZ))
      have hz : Row wz w.heap.size [.int .u64 c.off, .int .i64 c.bs.length, .bool c.fin, .slice sa (onUp c.on 8).length sc, .bool c.held] 32 := by rw [HZ.out]; exact (HX.out.kept HB1.out HX.out.lt).row _
      have hbz : Below w.heap.size w wz := by rw [HZ.out]; exact below_setRow (HB0.out.trans (HB1.out.mono HB0.out.size)) (Nat.le_refl _) _
      refine bodyPost_ret (hz.result2 Try.results23 _ rfl _ Try.underlying32 rfl i32) rfl ?_
      rw [HNN.out, hlow]
      exact ⟨hbz, _, rfl, by rw [HZ.out]; exact ownI_less (ownI_set HO1.out HX.out.lt _) HB0.out.size⟩
end Go.Proofs.Ytnohammflhadpaa
