import Derived.Test.YtkhogbnoincbeabAll2
import Derived.Test.YtkhogbnoincbeabBack
import Derived.Test.YtkhogbnoincbeabRPiece
namespace Go.Proofs.Ytkhogbnoincbeab
open Go.RowKit Go.Maps Go.Sort
set_option maxRecDepth 100000

/-- A list of pieces. -/
def PcsAt (w : World) (a : Option Addr) (Ts : List (List (BitVec 8))) : Prop := ∀ i (h : i < Ts.length), ∃ g o ax c, a = some ⟨g, o, none⟩ ∧ w.cell? ⟨g, o + i, none⟩ = some (.slice ax Ts[i].length c) ∧ BytesAt w ax Ts[i] ∧ (ax = none → c = 0)
theorem PcsAt.kept {w w' : World} {a : Option Addr} {Ts : List (List (BitVec 8))} (h : PcsAt w a Ts) (hb : Below w.heap.size w w') : PcsAt w' a Ts := fun i hi => by
  obtain ⟨g, o, ax, c, h1, h2, h3, h4⟩ := h i hi
  exact ⟨g, o, ax, c, h1, cell_kept hb h2, h3.kept hb, h4⟩
theorem eq56 (w : World) (g : Nat) : (binOp BinOp.eql 23 (.pointer (some ⟨g, 0, none⟩)) (.pointer none)).run Try.prog w = .ok (.bool false) w := by kernel_rfl
theorem flat_take {Ts : List (List (BitVec 8))} {i : Nat} (h : i < Ts.length) : (Ts.take (i + 1)).flatten = (Ts.take i).flatten ++ Ts[i] := by
  rw [List.take_succ_eq_append_getElem h, List.flatten_append]
  simp
theorem flat_le (Ts : List (List (BitVec 8))) (i : Nat) : (Ts.take i).flatten.length ≤ Ts.flatten.length := by
  conv => rhs; rw [← List.take_append_drop i Ts, List.flatten_append, List.length_append]
  omega
theorem as_start {w w' : World} {q p : Nat} (h : Rdr w.heap.size w' q p (.slice none 0 0) [] 0 0 0) (hb : Below w.heap.size w w') (X : Prop) : AS w.heap.size q p [] X (.slice none 0 0) (.int .i64 0) w' :=
  ⟨hb.size, [], ⟨⟨rfl, .inl ⟨rfl, rfl⟩⟩, fun x hx => (by cases hx), List.Pairwise.nil⟩, Nat.le_refl _, .inl ⟨_, [], rfl, ⟨[], 0, h, rfl, rfl, Nat.le_refl _⟩, Nat.le_refl _, Nat.le_refl _, by rw [Pr_nil]; rfl, fun x hx => (by cases hx), fun _ => nil_A⟩⟩
set_option maxHeartbeats 8000000 in
theorem lall_any {w : World} {a : Option Addr} {Ts : List (List (BitVec 8))} {n c : Nat} (hn : Ts.length = n) (hP : PcsAt w a Ts) (late : Bool) (hT : Ts.flatten.length ≤ 67108864) (hl : n ≤ 134217728) :
    Calls Try.prog 23 #[.slice a n c, .bool late] w fun e w' => ∃ (v : Value) (lf : Nat), e = .returned (.tuple #[v, .int .i64 (Pr Ts.flatten).2.1, .int .u64 ((Ts.flatten.length - (Pr Ts.flatten).2.2.length : Nat) : Int), .int .i64 (lf : Int)]) ∧ ((Pr Ts.flatten).2.1 = 0 → lf = (Pr Ts.flatten).2.2.length) ∧ (∃ Ps, FrV w' w.heap.size v Ps ∧ Ps.map (·.1) = (Pr Ts.flatten).1) ∧ Below w.heap.size w w' := by
  subst hn
  have HNR := hid (newReader_any w)
  have h56 := eq56
  have HP := hid hP
  have HT := hid hT
  have hlI : (Ts.length : Int) ≤ 134217728 := by omega
  have hbs := bsl25
  clear hP hT
  go_enter Try.func23, Try.ntmps23
  go_upto_region 6 with (go_at_call 5; refine HNR.out.mono ?_; rintro e w1 ⟨q, p, rfl, hR1, hb1⟩; have HA1 := hid (as_start hR1 hb1 (0 = Ts.length)); have HB1 := hid hb1; clear hR1 hb1 HNR)
  go_wp2_with fail
  go_loopw [9, 10, 21] (fun s9 s10 s21 wr => ∃ i : Nat, i ≤ Ts.length ∧ s21 = .int .i64 i ∧ AS w.heap.size q p (Ts.take i).flatten (i = Ts.length) s9 s10 wr ∧ Below w.heap.size w wr) (fun _ _ s _ => Ts.length + 1 - (intOf s).toNat)
  case atStart => exact ⟨0, Nat.zero_le _, rfl, HA1.out, HB1.out⟩
  case round =>
    obtain ⟨i, hi, rfl, hA, hBl⟩ := hrel
    have HA := hid hA
    have HBL := hid hBl
    clear hA hBl HA1 HB1
    by_cases hlt : i < Ts.length
    · have hiI : (i : Int) < (Ts.length : Int) := by omega
      obtain ⟨g, o, ax, cx, rfl, hc0, hby, hz⟩ := HP.out i hlt
      have c0 := cell_kept HBL.out hc0
      have hfl := flat_le Ts (i + 1)
      have hft := flat_take hlt
      have hWr := as_write HA.out hz rfl (hby.kept HBL.out) (by
        have h1 := HT.out
        rw [hft, List.length_append] at hfl
        omega)
      rw [← hft] at hWr
      have HWR := hid hWr
      have hT2 : (Ts.take (i + 1)).flatten.length ≤ 67108864 := Nat.le_trans hfl HT.out
      have HT2 := hid hT2
      clear hc0 hby hz hWr hft hfl hT2
      generalize Ts[i].length = nx at *
      go_upto_region 10 with (go_at_call 7; refine HWR.out.mono ?_; rintro e w2 ⟨rfl, hA2, hF2⟩; have HA2 := hid hA2; have HB2 := hid (HBL.out.trans (hF2.below (fun _ e => e) HA.out.1)); clear hA2 hF2 HWR)
      have HEND : Hid (∀ W s9 s10, AS w.heap.size q p (Ts.take (i + 1)).flatten True s9 s10 W → AS w.heap.size q p (Ts.take (i + 1)).flatten (i + 1 = Ts.length) s9 s10 W) := fun W s9 s10 h => h.mono (fun _ => trivial)
      by_cases hcont : late = true ∧ i + 1 < Ts.length
      · obtain ⟨rfl, hc2⟩ := hcont
        have hcI : (i : Int) + 1 < (Ts.length : Int) := by omega
        have HA3 := hid (HA2.out.mono (Y := i + 1 = Ts.length) (fun e => by omega))
        go_wp2_with fail
        go_roundw
        case rel => exact ⟨i + 1, hlt, by go_num, HA3.out, HB2.out⟩
        case measure => simp [intOf]; omega
      · go_cut [36] from 29 to 36 (fun s36 wc => s36 = .bool false ∧ w2 = wc)
        case first =>
          cases late with
          | false =>
            go_wp2_with fail
            go_meet
            exact ⟨by first | rfl | simp, rfl⟩
          | true =>
            have hcI : ¬ (i : Int) + 1 < (Ts.length : Int) := by have : ¬ i + 1 < Ts.length := fun e => hcont ⟨rfl, e⟩; omega
            go_wp2_with fail
            go_meet
            exact ⟨by first | rfl | simp [hcI], rfl⟩
        case rest =>
          obtain ⟨rfl, rfl⟩ := hcut
          clear hcont
          go_wp2_with fail
          have HT3 : Hid (AS w.heap.size q p (Ts.take (i + 1)).flatten False u9 u10 w2) := HA2.out
          go_loopw [9, 10] (fun s9 s10 wz => AS w.heap.size q p (Ts.take (i + 1)).flatten False s9 s10 wz ∧ Below w.heap.size w wz) (fun s9 _ _ => (Ts.take (i + 1)).flatten.length + 1 - slen s9)
          case atStart => exact ⟨HA2.out, HB2.out⟩
          case round =>
            obtain ⟨hA4, hB4⟩ := hrel
            have HA4 := hid hA4
            have HB4 := hid hB4
            clear hA4 hB4
            rcases as_next HA4.out HT2.out with ⟨F, hN⟩ | hN | ⟨er, her, hN⟩
            · have HN := hid hN
              clear hN HA2 HB2 HT3
              go_upto_region 12 with (go_at_call 10; refine HN.out.mono ?_; rintro e w3 ⟨hF3, a9, n9, c9, rfl, hP3⟩; have HP3 := hid hP3; have HB3 := hid (HB4.out.trans (hF3.below (fun _ e => e) HA4.out.1)); clear hP3 hF3 HN)
              refine wp_world ?_
              intro w4 hw4
              have hb4 : Below w3.heap.size w3 w4 := by rw [hw4.out]; exact below_new _ _
              have RB : Row w4 w3.heap.size (pcells (F, .slice a9 n9 c9)) 41 := by rw [hw4.out]; exact Row.new _ _ _
              have y0 := RB.cell 0 _ rfl
              have y1 := RB.cell 1 _ rfl
              have y2 := RB.cell 2 _ rfl
              have y3 := RB.cell 3 _ rfl
              have y4 := RB.cell 4 _ rfl
              have y5 := RB.cell 5 _ rfl
              have hb5 := below_new w4 (.cells (pcells (F, .slice a9 n9 c9)).toArray 41)
              obtain ⟨v', w5, hrun, hA5, hF5, hs1, hs2⟩ := ((HP3.out.kept hb4).kept hb5).push HT2.out (Row.new w4 (pcells (F, .slice a9 n9 c9)) 41) 53
              have HB5 := hid (((HB3.out.trans (hb4.mono HB3.out.size)).trans (hb5.mono (Nat.le_trans HB3.out.size hb4.size))).trans (hF5.below (fun _ e => e) (Nat.le_trans (Nat.le_trans HB3.out.size hb4.size) hb5.size)))
              have HRUN := hid hrun
              have HA5 := hid hA5
              have HSL := hid (And.intro hs1 hs2)
              clear hw4 hb4 RB hb5 hrun hA5 hF5 HP3 hs1 hs2
              go_wp2_with (at_builtin; refine wpList_append_by rfl (.tmp 48) (.tmp 50) 53 rfl rfl rfl HRUN.out ?_)
              go_roundw
              case rel => exact ⟨HA5.out, HB5.out⟩
              case measure => have := HSL.out; omega
            · unfold zfr at hN
              have HN := hid hN
              clear hN HA2 HB2 HT3
              go_wp2_with (go_at_call 10; refine HN.out.mono ?_; rintro e w3 ⟨hF3, rfl, hA5⟩; have HA5 := hid (HEND.out _ _ _ hA5); have HB3 := hid (HB4.out.trans (hF3.below (fun _ e => e) HA4.out.1)); clear hA5 hF3 HN)
              go_roundw
              case rel => exact ⟨i + 1, hlt, by go_num, HA5.out.kept (below_new _ _), HB3.out.trans ((below_new _ _).mono HB3.out.size)⟩
              case measure => simp [intOf]; omega
            · unfold zfr at hN
              have HN := hid hN
              have her2 : (er == 0) = false := by simpa using her
              clear hN HA2 HB2 HT3
              go_wp2_with (go_at_call 10; refine HN.out.mono ?_; rintro e w3 ⟨hF3, rfl, hA5⟩; have HA5 := hid (HEND.out _ _ _ hA5); have HB3 := hid (HB4.out.trans (hF3.below (fun _ e => e) HA4.out.1)); clear hA5 hF3 HN)
              go_roundw
              case rel => exact ⟨i + 1, hlt, by go_num, HA5.out.kept (below_new _ _), HB3.out.trans ((below_new _ _).mono HB3.out.size)⟩
              case measure => simp [intOf]; omega
    · obtain rfl : i = Ts.length := by omega
      rw [List.take_length] at HA
      have HAT := hid (as_at HA.out rfl)
      obtain ⟨lf, hlf, hLF⟩ := as_left HA.out rfl
      have HLF := hid hlf
      have HLC := hid hLF
      obtain ⟨e10, hPs⟩ := HA.out.fin rfl
      have HPS := hid hPs
      subst e10
      clear hlf hLF hPs
      go_wp2_with (first
        | (go_at_call 13; refine HAT.out.mono ?_; rintro e w3 ⟨rfl, rfl⟩)
        | (go_at_call 14; refine HLC.out.mono ?_; rintro e w4 ⟨rfl, rfl⟩))
      refine bodyPost_ret (v := .tuple #[_, .int .i64 (Pr Ts.flatten).2.1, .int .u64 ((Ts.flatten.length - (Pr Ts.flatten).2.2.length : Nat) : Int), .int .i64 (lf : Int)]) (by simp [results, Try.results23, go_sem]; rfl) rfl ?_
      exact ⟨_, lf, rfl, HLF.out, HPS.out, HBL.out⟩
end Go.Proofs.Ytkhogbnoincbeab
