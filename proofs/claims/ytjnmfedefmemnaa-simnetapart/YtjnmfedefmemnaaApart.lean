import Derived.Test.YtjnmfedefmemnaaApart0
namespace Go.Proofs.Ytjnmfedefmemnaa
open Go.RowKit Go.Maps
set_option maxRecDepth 100000

theorem i60 : (Try.prog.info? 60).map (·.size) = some 9 := by kernel_rfl
theorem fitL_len (cs : List Int) : 1 ≤ (fitL cs).length ∧ (fitL cs).length ≤ 8 := by
  unfold fitL
  split
  · simp
  · next h =>
    have : 0 < cs.length := List.length_pos_iff.2 h
    simp
    omega
theorem fitL_good (cs : List Int) : ∀ c ∈ fitL cs, goodCap c := by
  unfold fitL
  split
  · intro c hc
    have : c = 2 := by simpa using hc
    subst this
    unfold goodCap
    omega
  · intro c hc
    obtain ⟨x, _, rfl⟩ := List.mem_map.1 hc
    have := cap9_bd x
    unfold goodCap
    omega
theorem new_good {w : World} {a : Option Addr} {n cap : Nat} {cs : List Int} (hC : CellsAt w a (cs.map (Value.int .i64))) (hn : cs.length = n) (h1 : 1 ≤ n) (h2 : n ≤ 8) (hg : ∀ c ∈ cs, goodCap c) :
    Calls Try.prog 9 #[.slice a n cap] w fun e w' => ∃ p q, e = .returned (.tuple #[.pointer (some ⟨p, 0, none⟩), .int .i64 0]) ∧ Below w.heap.size w w' ∧ w.heap.size ≤ q ∧ q < p ∧ Row w' q (roadsv cs) 67 ∧ Row w' p [.slice (some ⟨q, 0, none⟩) n n] 52 := by
  refine (new_list hC hn h1 h2).mono ?_
  rintro e w' ⟨hb, ⟨⟨c, hc, hbad⟩, _⟩ | ⟨_, p, q, rfl, h3, h4, h5, h6⟩⟩
  · exact absurd (hg c hc) hbad
  · exact ⟨p, q, rfl, hb, h3, h4, h5, h6⟩
theorem rem_nat (path : Int) {n : Nat} (h1 : 1 ≤ n) (h8 : n ≤ 8) : ∃ k : Nat, k < n ∧ wrap64 ((IntKind.u64.wrap path).tmod (n : Int)) = (k : Int) := by
  have h0 : 0 ≤ IntKind.u64.wrap path := by rw [IntKind.wrap_u64]; omega
  have h2 := Int.emod_nonneg (IntKind.u64.wrap path) (show (n : Int) ≠ 0 by omega)
  have h3 := Int.emod_lt_of_pos (IntKind.u64.wrap path) (show (0 : Int) < n by omega)
  rw [Int.tmod_eq_emod_of_nonneg h0]
  generalize (IntKind.u64.wrap path) % (n : Int) = y at *
  refine ⟨y.toNat, by omega, ?_⟩
  unfold wrap64
  omega
theorem CellsAt.kept' {w w' : World} {a : Option Addr} {xs : List Value} (h : CellsAt w a xs) (hb : Below w.heap.size w w') : CellsAt w' a xs := fun k hk => by
  obtain ⟨g, o, e, c⟩ := h k hk
  exact ⟨g, o, e, cell_kept hb c⟩
set_option maxHeartbeats 8000000 in
theorem apart_any {w : World} {a1 a2 : Option Addr} {n1 c1 n2 c2 : Nat} {cs : List Int} {ops : List OpV} (path dir : Int) (hC : CellsAt w a1 (cs.map (Value.int .i64))) (hn1 : cs.length = n1) (hO : OpsAt w a2 ops) (hn2 : ops.length = n2) (hm2 : n2 ≤ 1759218604390) (hf : ∀ o ∈ ops, o.frame.length ≤ 140737488351232) :
    Calls Try.prog 8 #[.slice a1 n1 c1, .slice a2 n2 c2, .int .i64 path, .int .i64 dir] w fun e w' => e = .returned (.bool true) ∧ Below w.heap.size w w' := by
  have HO := hid hO
  have HN2 := hid hn2
  have HF := hid hf
  have HFIT := hid (fit_any (cap := c1) hC hn1)
  obtain ⟨l1, l8⟩ := fitL_len cs
  have HG := hid (fitL_good cs)
  generalize fitL cs = fs at *
  obtain ⟨n, hn⟩ : ∃ n, n = fs.length := ⟨_, rfl⟩
  rw [← hn] at HFIT l1 l8
  have HN := hid hn.symm
  have HL1 := hid l1
  have HL8 := hid l8
  obtain ⟨k, hk, hkk⟩ := rem_nat path l1 l8
  obtain ⟨d, hd, hdd⟩ := and_one dir
  have HKN := hid hk
  have HDN := hid hd
  clear hk hd
  clear hO hn2 hf hC hn1 hn
  go_enter Try.func8, Try.ntmps8
  go_upto_region 2 with (go_at_call 21; refine Calls.mono HFIT.out ?_; clear HFIT; rintro e w1 ⟨v, rfl, h1, h2⟩; obtain ⟨av, capv, rfl, hcv⟩ := owns_ints h1; have HCV := hid hcv; have HB1 := hid h2; clear h1 h2 hcv)
  go_upto_region 4 with (fail)
  rw [hkk]
  clear hkk hdd
  have HW0 : Hid (Below w.heap.size w w1) := HB1.out
  have HNW := hid (new_good (cap := capv) HCV.out HN.out HL1.out HL8.out HG.out)
  go_upto_region 5 with (go_at_call 9; refine Calls.mono HNW.out ?_; clear HNW; rintro e w2 ⟨p, g, rfl, h1, h2, h3, h4, h5⟩; have HS1 := hid (And.intro h1 (And.intro h2 (And.intro h3 (And.intro h4 h5)))); have HNW := hid (new_good (cap := capv) (HCV.out.kept' h1) HN.out HL1.out HL8.out HG.out); clear h1 h2 h3 h4 h5)
  go_wp2_with (go_at_call 9; refine Calls.mono HNW.out ?_; clear HNW; rintro e w3 ⟨p2, g2, rfl, h1, h2, h3, h4, h5⟩; have HT := hid (two_new HN.out HG.out HB1.out HS1.out.2.1 HS1.out.2.2.1 HS1.out.2.2.2.1 HS1.out.2.2.2.2 HS1.out.1 h2 h3 h4 h5 h1); clear h1 h2 h3 h4 h5)
  clear HS1 HCV HB1 HW0
  go_loopw [13] (fun i wr => ∃ (j K : Nat) (D E : Dat), j ≤ n2 ∧ K ≤ 2 * j ∧ i = .int .i64 j ∧ Two w wr n p g p2 g2 K D E ∧ SameAt k d D E) (fun i _ => n2 - (intOf i).toNat)
  case atStart => exact ⟨0, 0, _, _, Nat.zero_le _, Nat.le_refl _, rfl, HT.out, SameAt.refl _ _ _⟩
  case round =>
    obtain ⟨j, K, D, E, hj, hK, rfl, ht, hs⟩ := hrel
    clear HT
    have HT0 := hid ht
    have HS := hid hs
    clear ht hs
    by_cases hlt : j < n2
    · have hjc : j < ops.length := by rw [HN2.out]; exact hlt
      obtain ⟨ga, oa, rfl, hcc, hbb⟩ := HO.out j hjc
      have hfr := HF.out ops[j] (List.getElem_mem hjc)
      have l2 : (j : Int) < (n2 : Int) := by omega
      generalize ops[j] = o at *
      have d0 := cell_kept HT0.out.bel (hcc 0 (.int .i64 o.kind) rfl)
      have d1 := cell_kept HT0.out.bel (hcc 1 (.bool o.second) rfl)
      have d2 := cell_kept HT0.out.bel (hcc 2 (.int .i64 o.path) rfl)
      have d3 := cell_kept HT0.out.bel (hcc 3 (.int .i64 o.dir) rfl)
      have d4 := cell_kept HT0.out.bel (hcc 4 (.int .i64 o.k) rfl)
      have d5 := cell_kept HT0.out.bel (hcc 5 (.int .i64 o.n) rfl)
      have d6 := cell_kept HT0.out.bel (hcc 6 (.int .u8 (ub o.mask)) rfl)
      have d7 := cell_kept HT0.out.bel (hcc 7 (.bool o.up) rfl)
      have d8 := cell_kept HT0.out.bel (hcc 8 (.slice o.fa o.frame.length o.fcap) rfl)
      rw [Nat.add_zero] at d0
      have HBW := hid hbb
      have HBY := hid (hbb.kept HT0.out.bel)
      have HFR := hid hfr
      have HJ := hid hlt
      have HK1 : Hid (K < 281474976710656) := by show _ < _; omega
      have HK2 : Hid (K + 1 < 281474976710656) := by show _ < _; omega
      have HK := hid hK
      have hj2 : (j : Int) ≤ 1759218604390 := by omega
      clear hcc hbb hfr hjc hlt hj hK
      go_upto_region 12 with (fail)
      refine wp_world fun wb HW => ?_
      obtain ⟨x, hx⟩ : ∃ x, x = wr.heap.size := ⟨_, rfl⟩
      have HBB : Hid (Below wr.heap.size wr wb) := by show Below _ _ _; rw [HW.out]; exact below_grow (Below.refl _ _) _
      have HX : Hid (Row wb x o.cells 60) := by show Row _ _ _ _; rw [HW.out, hx]; exact Row.new' _ _ _ _ _ rfl rfl
      rw [← hx]
      have HT1 := hid (HT0.out.kept HBB.out)
      have HBY1 := hid (HBY.out.kept HBB.out)
      clear hx HW HT0 HBB HBY d0 d1 d2 d3 d4 d5 d6 d7 d8
      go_upto_region 13 with (first
        | (show wpList _ _ _ (Oper.mk (some 75) (.load 60 (.tmp 14)) _ _ _ _ :: _) _ _; refine Row.wpLoad HX.out 60 (.tmp 14) rfl rfl rfl _ Try.underlying60 rfl i60 ?_)
        | (go_at_call 22; refine Calls.mono (HT1.out.act2 o HBY1.out HFR.out HK1.out) ?_; rintro e w4 ⟨aa, rfl, ha, hsp, ht⟩; have HA := hid ha; have HT2 := hid ht; have HX2 := hid (hsp _ _ _ (by decide) (by decide) (by decide) HX.out); clear ha hsp ht HT1 HX))
      refine wp_world fun w5 HW => ?_
      obtain ⟨y, hy⟩ : ∃ y, y = w4.heap.size := ⟨_, rfl⟩
      have HB5 : Hid (Below w4.heap.size w4 w5) := by show Below _ _ _; rw [HW.out]; exact below_grow (Below.refl _ _) _
      have HY : Hid (Row w5 y [.slice aa (D.ansB n o).length (D.ansB n o).length, .bool (D.ansS n o)] 32) := by show Row _ _ _ _; rw [HW.out, hy]; exact Row.new' _ _ _ _ _ rfl rfl
      have HX3 := hid (HX2.out.kept HB5.out HX2.out.lt)
      have HA3 := hid (HA.out.spared (Spares.of_below HB5.out))
      have HT3 := hid (HT2.out.kept HB5.out)
      rw [← hy]
      clear hy HW HB5 HX2 HA HT2 HBY1
      have x0 := HX3.out.cell 0 (.int .i64 o.kind) rfl
      have x2 := HX3.out.cell 2 (.int .i64 o.path) rfl
      have x3 := HX3.out.cell 3 (.int .i64 o.dir) rfl
      by_cases hp : o.path = k
      · have q1 : (o.path != (k : Int)) = false := by rw [hp]; exact bne_self_eq_false _
        by_cases h6 : o.kind = 6
        · have q2 : (o.kind != 6) = false := by rw [h6]; rfl
          have hdr : o.kind = 6 ∨ o.dir = d := .inl h6
          clear h6
          obtain ⟨e1, e2, e3⟩ := HS.out.hit (n := n) o hp hdr
          have HS2 := hid (HS.out.act (n := n) o hp hdr)
          have HE1 := hid e1.symm
          have HE2 := hid e2.symm
          have HE3 := hid e3.symm
          clear e1 e2 e3 hp hdr
          go_upto_region 15 with (first
            | (show wpList _ _ _ (Oper.mk (some 96) (.load 60 (.tmp 14)) _ _ _ _ :: _) _ _; refine Row.wpLoad HX3.out 60 (.tmp 14) rfl rfl rfl _ Try.underlying60 rfl i60 ?_)
            | (go_at_call 22; refine Calls.mono (HT3.out.turn.act2 o (HBW.out.kept HT3.out.bel) HFR.out HK2.out) ?_; rintro e w6 ⟨ab, rfl, ha, hsp, ht⟩; rw [HE1.out, HE2.out, HE3.out]; rw [HE2.out] at ha; have HA6 := hid ha; have HT6 := hid ht; have HY6 := hid (hsp _ _ _ (by decide) (by decide) (by decide) HY.out); have HAA6 := hid (HA3.out.spared hsp); clear ha hsp ht HT3 HX3 HY HA3))
          refine wp_world fun w7 HW => ?_
          obtain ⟨z, hz⟩ : ∃ z, z = w6.heap.size := ⟨_, rfl⟩
          have HB7 : Hid (Below w6.heap.size w6 w7) := by show Below _ _ _; rw [HW.out]; exact below_grow (Below.refl _ _) _
          have HZ : Hid (Row w7 z [.slice ab (D.ansB n o).length (D.ansB n o).length, .bool (D.ansS n o)] 32) := by show Row _ _ _ _; rw [HW.out, hz]; exact Row.new' _ _ _ _ _ rfl rfl
          have HY7 := hid (HY6.out.kept HB7.out HY6.out.lt)
          have HA7 := hid (HA6.out.spared (Spares.of_below HB7.out))
          have HAA7 := hid (HAA6.out.spared (Spares.of_below HB7.out))
          have HT7 := hid (HT6.out.kept HB7.out)
          rw [← hz]
          clear hz HW HB7 HY6 HA6 HAA6 HT6 HE1 HE2 HE3 x0 x2 x3
          have y0 := HY7.out.cell 0 _ rfl
          have y1 := HY7.out.cell 1 _ rfl
          have z0 := HZ.out.cell 0 _ rfl
          have z1 := HZ.out.cell 1 _ rfl
          have HSM := hid (same_any (cap := (D.ansB n o).length) (cap' := (D.ansB n o).length) HAA7.out.bytes rfl HA7.out.bytes rfl)
          rw [show decide (D.ansB n o = D.ansB n o) = true from decide_eq_true rfl] at HSM
          have r1 : (D.hit n o != D.hit n o) = false := bne_self_eq_false _
          have r2 : (D.ansS n o != D.ansS n o) = false := bne_self_eq_false _
          generalize (D.ansB n o).length = L at *
          generalize D.ansS n o = bS at *
          generalize D.hit n o = bH at *
          go_wp2_with (go_at_call 14; refine Calls.mono HSM.out ?_; rintro e w8 ⟨rfl, rfl⟩)
          go_roundw
          case rel => exact ⟨j + 1, K + 2, _, _, HJ.out, by have := HK.out; omega, by first | go_num | (rw [Int.natCast_succ]), HT7.out.turn, HS2.out⟩
          case measure =>
            simp [intOf]
            have := HJ.out
            omega
        · have q2 : (o.kind != 6) = true := bne_iff_ne.2 h6
          by_cases hdd : o.dir = d
          · have q3 : (o.dir != (d : Int)) = false := by rw [hdd]; exact bne_self_eq_false _
            have hdr : o.kind = 6 ∨ o.dir = d := .inr hdd
            clear h6 hdd
            obtain ⟨e1, e2, e3⟩ := HS.out.hit (n := n) o hp hdr
            have HS2 := hid (HS.out.act (n := n) o hp hdr)
            have HE1 := hid e1.symm
            have HE2 := hid e2.symm
            have HE3 := hid e3.symm
            clear e1 e2 e3 hp hdr
            go_upto_region 15 with (first
              | (show wpList _ _ _ (Oper.mk (some 96) (.load 60 (.tmp 14)) _ _ _ _ :: _) _ _; refine Row.wpLoad HX3.out 60 (.tmp 14) rfl rfl rfl _ Try.underlying60 rfl i60 ?_)
              | (go_at_call 22; refine Calls.mono (HT3.out.turn.act2 o (HBW.out.kept HT3.out.bel) HFR.out HK2.out) ?_; rintro e w6 ⟨ab, rfl, ha, hsp, ht⟩; rw [HE1.out, HE2.out, HE3.out]; rw [HE2.out] at ha; have HA6 := hid ha; have HT6 := hid ht; have HY6 := hid (hsp _ _ _ (by decide) (by decide) (by decide) HY.out); have HAA6 := hid (HA3.out.spared hsp); clear ha hsp ht HT3 HX3 HY HA3))
            refine wp_world fun w7 HW => ?_
            obtain ⟨z, hz⟩ : ∃ z, z = w6.heap.size := ⟨_, rfl⟩
            have HB7 : Hid (Below w6.heap.size w6 w7) := by show Below _ _ _; rw [HW.out]; exact below_grow (Below.refl _ _) _
            have HZ : Hid (Row w7 z [.slice ab (D.ansB n o).length (D.ansB n o).length, .bool (D.ansS n o)] 32) := by show Row _ _ _ _; rw [HW.out, hz]; exact Row.new' _ _ _ _ _ rfl rfl
            have HY7 := hid (HY6.out.kept HB7.out HY6.out.lt)
            have HA7 := hid (HA6.out.spared (Spares.of_below HB7.out))
            have HAA7 := hid (HAA6.out.spared (Spares.of_below HB7.out))
            have HT7 := hid (HT6.out.kept HB7.out)
            rw [← hz]
            clear hz HW HB7 HY6 HA6 HAA6 HT6 HE1 HE2 HE3 x0 x2 x3
            have y0 := HY7.out.cell 0 _ rfl
            have y1 := HY7.out.cell 1 _ rfl
            have z0 := HZ.out.cell 0 _ rfl
            have z1 := HZ.out.cell 1 _ rfl
            have HSM := hid (same_any (cap := (D.ansB n o).length) (cap' := (D.ansB n o).length) HAA7.out.bytes rfl HA7.out.bytes rfl)
            rw [show decide (D.ansB n o = D.ansB n o) = true from decide_eq_true rfl] at HSM
            have r1 : (D.hit n o != D.hit n o) = false := bne_self_eq_false _
            have r2 : (D.ansS n o != D.ansS n o) = false := bne_self_eq_false _
            generalize (D.ansB n o).length = L at *
            generalize D.ansS n o = bS at *
            generalize D.hit n o = bH at *
            go_wp2_with (go_at_call 14; refine Calls.mono HSM.out ?_; rintro e w8 ⟨rfl, rfl⟩)
            go_roundw
            case rel => exact ⟨j + 1, K + 2, _, _, HJ.out, by have := HK.out; omega, by first | go_num | (rw [Int.natCast_succ]), HT7.out.turn, HS2.out⟩
            case measure =>
              simp [intOf]
              have := HJ.out
              omega
          · have q3 : (o.dir != (d : Int)) = true := bne_iff_ne.2 hdd
            have HMS : Hid (¬ (o.path = k ∧ (o.kind = 6 ∨ o.dir = d))) := fun e => e.2.elim h6 hdd
            clear h6 hdd hp
            go_wp2
            go_roundw
            case rel => exact ⟨j + 1, K + 1, _, _, HJ.out, by have := HK.out; omega, by first | go_num | (rw [Int.natCast_succ]), HT3.out, (far_act HDN.out o HMS.out).trans HS.out⟩
            case measure =>
              simp [intOf]
              have := HJ.out
              omega
      · have q1 : (o.path != (k : Int)) = true := bne_iff_ne.2 hp
        have HMS : Hid (¬ (o.path = k ∧ (o.kind = 6 ∨ o.dir = d))) := fun e => hp e.1
        clear hp
        go_wp2
        go_roundw
        case rel => exact ⟨j + 1, K + 1, _, _, HJ.out, by have := HK.out; omega, by first | go_num | (rw [Int.natCast_succ]), HT3.out, (far_act HDN.out o HMS.out).trans HS.out⟩
        case measure =>
          simp [intOf]
          have := HJ.out
          omega
    · have e1 : decide ((j : Int) < (n2 : Int)) = false := decide_eq_false (by omega)
      have e2 : decide (j < n2) = false := decide_eq_false hlt
      have HT1 := hid HT0.out
      clear hlt hj hK HT0
      go_upto_region 18 with (first
        | (go_at_call 15; refine Calls.mono (HT1.out.look HKN.out) ?_; rintro e w4 ⟨cv, rfl, hl, ho, hup, _, hly, hcn, hb⟩; have HL2 := hid hl; have HO2 := hid ho; have HUP := hid hup; have HLY := hid (hly d HDN.out); have HCN := hid hcn; have HB4 := hid hb; clear hl ho hup hly hcn hb)
        | (show wpList _ _ _ (Oper.mk none (.store 41 (.tmp 19) (.tmp 122)) _ _ _ _ :: _) _ _; refine Row.wpStore' (Row.new' w4 _ vz 41 _ rfl rfl) 41 (.tmp 19) (.tmp 122) cv rfl rfl rfl rfl (by rw [HL2.out]; rfl) HO2.out (by rw [HL2.out]; exact i41) ?_; intro w5 HZ5))
      have HV5 : Hid (Row w5 w4.heap.size cv 41) := by show Row _ _ _ _; rw [HZ5.out]; exact (Row.new' w4 _ vz 41 _ rfl rfl).row _
      have HB5 : Hid (Below wr.heap.size wr w5) := by show Below _ _ _; rw [HZ5.out]; exact below_setRow (HB4.out.alloc HB4.out.size _) HB4.out.size _
      have HT5 := hid (HT1.out.kept HB5.out)
      generalize w4.heap.size = vb at *
      clear HZ5 HB4 HB5 HT1 e1 e2
      go_upto_region 19 with (first
        | (go_at_call 15; refine Calls.mono (HT5.out.turn.look HKN.out) ?_; rintro e w6 ⟨cu, rfl, hl, ho, hup, _, hly, hcn, hb⟩; have HL6 := hid hl; have HO6 := hid ho; have HUP6 := hid hup; have HLY6 := hid (hly d HDN.out); have HCN6 := hid hcn; have HB6 := hid hb; clear hl ho hup hly hcn hb)
        | (show wpList _ _ _ (Oper.mk none (.store 41 (.tmp 21) (.tmp 128)) _ _ _ _ :: _) _ _; refine Row.wpStore' (Row.new' w6 _ vz 41 _ rfl rfl) 41 (.tmp 21) (.tmp 128) cu rfl rfl rfl rfl (by rw [HL6.out]; rfl) HO6.out (by rw [HL6.out]; exact i41) ?_; intro w7 HZ7))
      have HV7 : Hid (Row w7 w6.heap.size cu 41) := by show Row _ _ _ _; rw [HZ7.out]; exact (Row.new' w6 _ vz 41 _ rfl rfl).row _
      have HB7 : Hid (Below w5.heap.size w5 w7) := by show Below _ _ _; rw [HZ7.out]; exact below_setRow (HB6.out.alloc HB6.out.size _) HB6.out.size _
      have HT7 := hid (HT5.out.kept HB7.out)
      have HVV := hid (HV5.out.kept HB7.out HV5.out.lt)
      generalize w6.heap.size = ub' at *
      clear HZ7 HB6 HB7 HT5 HV5
      have v0 := HVV.out.cell _ _ HUP.out
      have v1 := HVV.out.cell _ _ HLY.out
      have v2 := HVV.out.cell (4 + d) _ (HCN.out (4 + d) (by omega) (by have := HDN.out; omega))
      have v3 := HVV.out.cell (6 + d) _ (HCN.out (6 + d) (by omega) (by have := HDN.out; omega))
      have v4 := HVV.out.cell (8 + d) _ (HCN.out (8 + d) (by omega) (by have := HDN.out; omega))
      have v5 := HVV.out.cell (10 + d) _ (HCN.out (10 + d) (by omega) (by have := HDN.out; omega))
      have v6 := HVV.out.cell (12 + d) _ (HCN.out (12 + d) (by omega) (by have := HDN.out; omega))
      have u0 := HV7.out.cell _ _ HUP6.out
      have u1 := HV7.out.cell _ _ HLY6.out
      have u2 := HV7.out.cell (4 + d) _ (HCN6.out (4 + d) (by omega) (by have := HDN.out; omega))
      have u3 := HV7.out.cell (6 + d) _ (HCN6.out (6 + d) (by omega) (by have := HDN.out; omega))
      have u4 := HV7.out.cell (8 + d) _ (HCN6.out (8 + d) (by omega) (by have := HDN.out; omega))
      have u5 := HV7.out.cell (10 + d) _ (HCN6.out (10 + d) (by omega) (by have := HDN.out; omega))
      have u6 := HV7.out.cell (12 + d) _ (HCN6.out (12 + d) (by omega) (by have := HDN.out; omega))
      rw [← HS.out.up] at u0
      rw [← HS.out.fd] at u1
      rw [← HS.out.cn 4 (by simp)] at u2
      rw [← HS.out.cn 6 (by simp)] at u3
      rw [← HS.out.cn 8 (by simp)] at u4
      rw [← HS.out.cn 10 (by simp)] at u5
      rw [← HS.out.cn 12 (by simp)] at u6
      have d1 : (0 : Int) ≤ (d : Int) := by omega
      have d2 : (d : Int) < 2 := by have := HDN.out; omega
      have HLL : Hid ((D.fd k d).length ≤ 1073741824) := HT7.out.len HKN.out HDN.out
      have b0 : (D.up k != D.up k) = false := bne_self_eq_false _
      have HLYR : Hid (cv[2 + d]? = some (.int .i64 (((D.fd k d).length : Nat) : Int))) := HLY.out
      clear HL2 HO2 HUP HLY HCN HL6 HO6 HUP6 HLY6 HCN6
      obtain ⟨L, hL⟩ : ∃ L, L = (D.fd k d).length := ⟨_, rfl⟩
      rw [← hL] at v1 u1 HLYR
      have HLE := hid hL
      have lb : (L : Int) ≤ 1073741824 := by rw [hL]; have := HLL.out; omega
      clear hL HLL
      generalize D.up k = bup at *
      generalize D.cn k (4 + d) = x4 at *
      generalize D.cn k (6 + d) = x6 at *
      generalize D.cn k (8 + d) = x8 at *
      generalize D.cn k (10 + d) = x10 at *
      generalize D.cn k (12 + d) = x12 at *
      go_quiet (fail)
      obtain ⟨w8, hw8⟩ : ∃ w8, w8 = w7.drewN nq := ⟨_, rfl⟩
      rw [← hw8]
      have HD8 : Hid (Below w7.heap.size w7 w8) := by show Below _ _ _; rw [hw8]; exact below_drewN (Below.refl _ _) _
      have HT8 := hid (HT7.out.kept HD8.out)
      have HVW := hid (HVV.out.kept HD8.out HVV.out.lt)
      clear hw8 HT7 HVV HD8 v0 v2 v3 v4 v5 v6 u0 u1 u2 u3 u4 u5 u6 b0
      go_wp2
      go_loopw [23] (fun i wx => ∃ q : Nat, q ≤ L ∧ i = .int .i64 q ∧ Two w wx n p g p2 g2 K D E ∧ Row wx vb cv 41) (fun i _ => L - (intOf i).toNat)
      case atStart => exact ⟨0, Nat.zero_le _, rfl, HT8.out, HVW.out⟩
      case round =>
        obtain ⟨q, hq, rfl, ht, hv⟩ := hrel
        clear HT8 HVW v1
        have HT8 := hid ht
        have HV8 := hid hv
        have v1 := hv.cell _ _ HLYR.out
        clear ht hv
        by_cases hlt : q < L
        · have l1 : (q : Int) < (L : Int) := by omega
          have q1 : (q : Int) ≤ 1073741824 := by omega
          have HQ := hid hlt
          have HQD : Hid (q < (D.fd k d).length) := by show _ < _; rw [← HLE.out]; exact hlt
          have HQE : Hid (q < (E.fd k d).length) := by show _ < _; rw [← HS.out.fd, ← HLE.out]; exact hlt
          have HAT := hid (HS.out.at_ q)
          clear hlt hq
          go_upto_region 25 with (go_at_call 12; refine Calls.mono (HT8.out.peek HKN.out HDN.out HQD.out) ?_; rintro e w9 ⟨g9, rfl, _, hr, hb⟩; have HR9 := hid hr; have HT9 := hid (HT8.out.kept hb); have HV9 := hid (HV8.out.kept hb HV8.out.lt); clear hr hb HT8 HV8 v1)
          refine wp_world fun w10 HW => ?_
          obtain ⟨y, hy⟩ : ∃ y, y = w9.heap.size := ⟨_, rfl⟩
          have HB10 : Hid (Below w9.heap.size w9 w10) := by show Below _ _ _; rw [HW.out]; exact below_grow (Below.refl _ _) _
          have HY : Hid (Row w10 y [.slice (some ⟨g9, 0, none⟩) (D.at k d q).1.length (D.at k d q).1.length, .bool (sp (D.at k d q).2 (D.at k d q).1.length)] 32) := by show Row _ _ _ _; rw [HW.out, hy]; exact Row.new' _ _ _ _ _ rfl rfl
          have HT10 := hid (HT9.out.kept HB10.out)
          have HV10 := hid (HV9.out.kept HB10.out HV9.out.lt)
          have HR10 := hid (HR9.out.kept HB10.out HR9.out.lt)
          rw [← hy]
          clear hy HW HB10 HT9 HV9 HR9
          go_upto_region 26 with (go_at_call 12; refine Calls.mono (HT10.out.turn.peek HKN.out HDN.out HQE.out) ?_; rintro e w11 ⟨g11, rfl, _, hr, hb⟩; rw [← HAT.out] at hr; rw [← HAT.out]; have HR11 := hid hr; have HS11 := hid (HR10.out.kept hb HR10.out.lt); have HT11 := hid (HT10.out.kept hb); have HV11 := hid (HV10.out.kept hb HV10.out.lt); have HY11 := hid (HY.out.kept hb HY.out.lt); clear hr hb HT10 HV10 HR10 HY)
          refine wp_world fun w12 HW => ?_
          obtain ⟨z, hz⟩ : ∃ z, z = w11.heap.size := ⟨_, rfl⟩
          have HB12 : Hid (Below w11.heap.size w11 w12) := by show Below _ _ _; rw [HW.out]; exact below_grow (Below.refl _ _) _
          have HZ : Hid (Row w12 z [.slice (some ⟨g11, 0, none⟩) (D.at k d q).1.length (D.at k d q).1.length, .bool (sp (D.at k d q).2 (D.at k d q).1.length)] 32) := by show Row _ _ _ _; rw [HW.out, hz]; exact Row.new' _ _ _ _ _ rfl rfl
          have HT12 := hid (HT11.out.kept HB12.out)
          have HV12 := hid (HV11.out.kept HB12.out HV11.out.lt)
          have HR12 := hid (HR11.out.kept HB12.out HR11.out.lt)
          have HS12 := hid (HS11.out.kept HB12.out HS11.out.lt)
          have HY12 := hid (HY11.out.kept HB12.out HY11.out.lt)
          rw [← hz]
          clear hz HW HB12 HT11 HV11 HR11 HS11 HY11
          have y0 := HY12.out.cell 0 _ rfl
          have y1 := HY12.out.cell 1 _ rfl
          have z0 := HZ.out.cell 0 _ rfl
          have z1 := HZ.out.cell 1 _ rfl
          have hxl : (xorT (D.at k d q).1 (D.at k d q).2).length = (D.at k d q).1.length := xorT_len _ _
          have HSM := hid (same_any (cap := (D.at k d q).1.length) (cap' := (D.at k d q).1.length) HS12.out.bytes hxl HR12.out.bytes hxl)
          rw [decide_eq_true (rfl : xorT (D.at k d q).1 (D.at k d q).2 = xorT (D.at k d q).1 (D.at k d q).2)] at HSM
          clear hxl HR12 HS12 HAT
          generalize sp (D.at k d q).2 (D.at k d q).1.length = bs at *
          generalize (D.at k d q).1.length = ml at *
          have r2 : (bs != bs) = false := bne_self_eq_false _
          go_wp2_with (go_at_call 14; refine Calls.mono HSM.out ?_; rintro e w13 ⟨rfl, rfl⟩)
          go_roundw
          case rel => exact ⟨q + 1, HQ.out, by first | go_num | (rw [Int.natCast_succ]), HT12.out, HV12.out⟩
          case measure =>
            simp [intOf]
            have := HQ.out
            omega
        · have e1 : decide ((q : Int) < (L : Int)) = false := decide_eq_false (by omega)
          have e2 : decide (q < L) = false := decide_eq_false hlt
          clear hlt hq
          have HAL := hid (alive_any wr)
          go_wp2_with (go_at_call 16; refine Calls.mono HAL.out ?_; rintro e w9 ⟨rfl, hb⟩; have HB9 := hid (HT8.out.bel.trans (hb.mono HT8.out.bel.size)); clear hb)
          go_ret
          exact ⟨rfl, HB9.out⟩
end Go.Proofs.Ytjnmfedefmemnaa
