import Derived.Test.YtjnmfedefmemnaaDark1
namespace Go.Proofs.Ytjnmfedefmemnaa
open Go.RowKit
set_option maxRecDepth 100000

set_option maxHeartbeats 8000000 in
theorem dark_any {W : World} {fa ma pa : Option Addr} {nF capF nM capM nP capP : Nat} (x : Int) {xs ms : List Value} {fs : List (List (BitVec 8))} {ps : List Int}
    (hX : CellsAt W fa xs) (hxs : xs.length = nF) (hS : Slices W xs fs) (hM : CellsAt W ma ms) (hms : ms.length = nM) (hP : CellsAt W pa (ps.map (Value.int .i64))) (hps : ps.length = nP) (hb1 : nF ≤ 1048576) (hb2 : nM ≤ 1048576) (hb3 : nP ≤ 1048576) (hfl : ∀ f ∈ fs, f.length ≤ 1048576) :
    Calls Try.prog 6 #[.slice fa nF capF, .slice ma nM capM, .int .i64 x, .slice pa nP capP] W fun e w' => e = .returned (.bool true) ∧ Below W.heap.size W w' := by
  obtain ⟨d, hd, hdd⟩ := and_one x
  have hcc : Row (W.alloc (.cells #[.int .i64 1073741824, .int .i64 1073741824] 3)) W.heap.size [.int .i64 1073741824, .int .i64 1073741824] 3 := Row.new W [.int .i64 1073741824, .int .i64 1073741824] 3
  have HN := hid (new_two (by decide) (by decide) (hcc.cell 0 _ rfl) (hcc.cell 1 _ rfl))
  have HB0 := hid (below_grow (Below.refl W.heap.size W) (.cells #[.int .i64 1073741824, .int .i64 1073741824] 3))
  have HX := hid hX
  have HXS := hid hxs
  have HS := hid hS
  have HM := hid hM
  have HMS := hid hms
  have HP := hid hP
  have HPS := hid hps
  have HFL := hid hfl
  have b1 : (nF : Int) ≤ 1048576 := by omega
  have b2 : (nM : Int) ≤ 1048576 := by omega
  have b3 : (nP : Int) ≤ 1048576 := by omega
  have HD := hid hd
  have HB1 := hid hb1
  have HB2 := hid hb2
  have HLN : Hid (fs.length = nF) := by show _ = _; rw [← HS.out.len, HXS.out]
  clear hcc hX hxs hS hM hms hP hps hfl hd hb1 hb2 hb3
  go_enter Try.func6, Try.ntmps6
  go_upto_region 5 with (first
    | (go_at_call 9; refine Calls.mono HN.out ?_; rintro e w1 ⟨p, g, rfl, hq, hpq, hr, hn, hb⟩; have HNR := hid (NetD.new (d := d) HB0.out.size hq hpq hr hn HD.out); have HBW := hid (HB0.out.trans (hb.mono HB0.out.size)); clear hr hn hb hq hpq))
  clear HN HB0
  go_wp2
  go_loopw [11] (fun i wr => ∃ k : Nat, k ≤ nF ∧ i = .int .i64 k ∧ NetD W.heap.size wr p g d true 0 (fs.take k) (fs.take k) ∧ Below W.heap.size W wr) (fun i _ => nF - (intOf i).toNat)
  case atStart => exact ⟨0, Nat.zero_le _, rfl, HNR.out, HBW.out⟩
  case round =>
    obtain ⟨k, hk, rfl, hnr, hbw⟩ := hrel
    have HNK := hid hnr
    have HBK := hid hbw
    clear hnr hbw
    by_cases hlt : k < nF
    · have hkx : k < xs.length := by rw [HXS.out]; exact hlt
      have hkf : k < fs.length := by rw [HLN.out]; exact hlt
      obtain ⟨gx, ox, rfl, cx⟩ := HX.out k hkx
      obtain ⟨ax, cx2, ex, hbx⟩ := HS.out.each k _ _ (List.getElem?_eq_getElem hkx) (List.getElem?_eq_getElem hkf)
      rw [ex] at cx
      have cx3 : wr.cell? ⟨gx, ox + k, none⟩ = some (.slice ax fs[k].length cx2) := cell_kept HBK.out cx
      have l1 : (k : Int) < (nF : Int) := by omega
      have HCX := hid cx
      have HBX := hid hbx
      have HFK : Hid (((fs.take k).length : Int) < 1073741824) := by show _ < _; have := HB1.out; simp; omega
      have HFB : Hid (fs[k].length ≤ 140737488355328) := Nat.le_trans (HFL.out _ (List.getElem_mem hkf)) (by decide)
      have HTF : Hid (fs.take (k + 1) = fs.take k ++ [fs[k]]) := take_snoc fs k hkf
      have HKN := hid hlt
      clear cx ex hbx hkx hlt
      generalize hfk : fs[k] = fk at *
      clear hfk hkf
      go_upto_region 9 with (go_at_call 10; refine (NetD.put0 (cap := cx2) HNK.out HFK.out (HBX.out.kept HBK.out) rfl HFB.out).mono ?_; rintro e w2 ⟨rfl, hn2, hk2⟩; have cx4 := cell_kept (HBK.out.trans hk2.below) HCX.out; have HN2 := hid hn2; have HBK2 := hid (HBK.out.trans hk2.below); clear hn2 hk2)
      go_wp2_with (go_at_call 10; refine (NetD.put1 (cap := cx2) HN2.out HFK.out (HBX.out.kept HBK2.out) rfl HFB.out).mono ?_; rintro e w3 ⟨rfl, hn3, hk3⟩; have HN3 := hid hn3; have HBK3 := hid (HBK2.out.trans hk3.below); clear hn3 hk3)
      go_roundw
      case rel => exact ⟨k + 1, HKN.out, by go_num, by rw [HTF.out]; exact HN3.out, HBK3.out⟩
      case measure => simp [intOf]; have := HKN.out; omega
    · have ek : k = nF := by omega
      subst ek
      have HN1 : Hid (NetD W.heap.size wr p g d true 0 fs fs) := by have h := HNK.out; rw [List.take_of_length_le (by rw [HLN.out]; exact Nat.le_refl _)] at h; exact h
      clear HNK hlt hk
      go_upto_region 11 with (go_at_call 18; refine (NetD.set HN1.out false).mono ?_; rintro e w2 ⟨rfl, hn2, hk2⟩; have HN2 := hid hn2; have HBK2 := hid (HBK.out.trans hk2.below); clear hn2 hk2)
      clear HN1 HBK
      go_wp2
      go_loopw [12] (fun i wr => ∃ r : Nat, r ≤ nM ∧ i = .int .i64 r ∧ NetD W.heap.size wr p g d false r fs fs ∧ Below W.heap.size W wr) (fun i _ => nM - (intOf i).toNat)
      case atStart => exact ⟨0, Nat.zero_le _, rfl, HN2.out, HBK2.out⟩
      case round =>
        clear HN2 HBK2
        obtain ⟨r, hr, rfl, hnr, hbw⟩ := hrel
        have HN2 := hid hnr
        have HBK2 := hid hbw
        clear hnr hbw
        by_cases hrm : r < nM
        · have hrm2 : r < ms.length := by rw [HMS.out]; exact hrm
          obtain ⟨gm, om, rfl, cm⟩ := HM.out r hrm2
          have cm2 := cell_kept HBK2.out cm
          have l1 : (r : Int) < (nM : Int) := by omega
          have HLS := hid (NetD.lost0 HN2.out (by omega) (by omega) ms[r])
          have HR := hid hrm
          clear cm hrm
          generalize ms[r] = mv at *
          go_wp2_with (go_at_call 10; refine Calls.mono HLS.out ?_; rintro e w3 ⟨rfl, hn3, hk3⟩; have HN3 := hid hn3; have HBK3 := hid (HBK2.out.trans hk3.below); clear hn3 hk3)
          go_roundw
          case rel => exact ⟨r + 1, HR.out, by go_num, by have h := HN3.out; rwa [← Int.natCast_succ] at h, HBK3.out⟩
          case measure => simp [intOf]; have := HR.out; omega
        · have er : r = nM := by omega
          subst er
          clear hrm hr
          go_wp2
          go_loopw [15] (fun i wr => ∃ s : Nat, s ≤ nP ∧ i = .int .i64 s ∧ NetD W.heap.size wr p g d false r fs fs ∧ Below W.heap.size W wr) (fun i _ => nP - (intOf i).toNat)
          case atStart => exact ⟨0, Nat.zero_le _, rfl, HN2.out, HBK2.out⟩
          case round =>
            clear HN2 HBK2
            obtain ⟨s, hs, rfl, hnr, hbw⟩ := hrel
            have HN2 := hid hnr
            have HBK2 := hid hbw
            clear hnr hbw
            by_cases hsp : s < nP
            · have hsp2 : s < (ps.map (Value.int .i64)).length := by rw [List.length_map, HPS.out]; exact hsp
              have hsp3 : s < ps.length := by rw [HPS.out]; exact hsp
              obtain ⟨gp, op, rfl, cp⟩ := HP.out s hsp2
              have cp1 : W.cell? ⟨gp, op + s, none⟩ = some (.int .i64 (ps[s]'hsp3)) := by simpa using cp
              clear cp
              generalize ps[s]'hsp3 = pv at *
              have cp2 := cell_kept HBK2.out cp1
              have HCP := hid cp1
              have l1 : (s : Int) < (nP : Int) := by omega
              have HSS := hid hsp
              clear cp1 hsp hsp2
              go_upto_region 21 with (go_at_call 13; refine (NetD.takeDown HN2.out pv).mono ?_; rintro e w3 ⟨rfl, hb3⟩; have HA3 := hid hb3; clear hb3)
              refine wp_world fun w4 HW => ?_
              have HA4 : Hid (Below w3.heap.size w3 w4) := by show Below _ _ _; rw [HW.out]; exact below_grow (Below.refl _ _) _
              have HF4 : Hid (Row w4 w3.heap.size [.slice none 0 0, .bool false] 32) := by show Row _ _ _ _; rw [HW.out]; exact Row.new' _ _ _ _ _ rfl rfl
              have HAA : Hid (Below wr.heap.size wr w4) := HA3.out.trans (HA4.out.mono HA3.out.size)
              have HN4 := hid (HN2.out.kept HAA.out)
              have HB4 : Hid (Below W.heap.size W w4) := HBK2.out.trans (HAA.out.mono HBK2.out.size)
              generalize w3.heap.size = fb at *
              clear HW HA3 HA4 HAA HN2 HBK2
              have cp4 := cell_kept HB4.out HCP.out
              go_upto_region 22 with (go_at_call 11; refine (NetD.doubleDown HN4.out pv).mono ?_; rintro e w5 ⟨rfl, hb5⟩; have HN5 := hid (HN4.out.kept hb5); have HB5 := hid (HB4.out.trans (hb5.mono HB4.out.size)); have HF5 := hid (HF4.out.kept hb5 HF4.out.lt); clear hb5)
              clear HN4 HB4 HF4 cp4
              have f0 := HF5.out.cell 0 _ rfl
              go_wp2
              go_roundw
              case rel => exact ⟨s + 1, HSS.out, by go_num, HN5.out, HB5.out⟩
              case measure => simp [intOf]; have := HSS.out; omega
            · have es : s = nP := by omega
              subst es
              clear hsp hs
              go_upto_region 25 with (go_at_call 18; refine (NetD.set HN2.out true).mono ?_; rintro e w3 ⟨rfl, hn3, hk3⟩; have HN3 := hid hn3; have HBK3 := hid (HBK2.out.trans hk3.below); clear hn3 hk3)
              clear HN2 HBK2
              go_wp2
              go_loopw [20] (fun i wr => ∃ t : Nat, t ≤ k ∧ i = .int .i64 t ∧ NetD W.heap.size wr p g d true r (fs.drop t) (fs.drop t) ∧ Below W.heap.size W wr) (fun i _ => k - (intOf i).toNat)
              case atStart => exact ⟨0, Nat.zero_le _, rfl, HN3.out, HBK3.out⟩
              case round =>
                clear HN3 HBK3
                obtain ⟨t, ht, rfl, hnr, hbw⟩ := hrel
                have HBK2 := hid hbw
                by_cases htk : t < k
                · have htx : t < xs.length := by rw [HXS.out]; exact htk
                  have htf : t < fs.length := by rw [HLN.out]; exact htk
                  rw [List.drop_eq_getElem_cons htf] at hnr
                  have HN2 := hid hnr
                  clear hnr hbw
                  obtain ⟨gx, ox, rfl, cx⟩ := HX.out t htx
                  obtain ⟨ax, cx2, ex, hbx⟩ := HS.out.each t _ _ (List.getElem?_eq_getElem htx) (List.getElem?_eq_getElem htf)
                  rw [ex] at cx
                  have l1 : (t : Int) < (k : Int) := by omega
                  have l0 : (0 : Int) ≤ (t : Int) := by omega
                  have HCX := hid cx
                  have HBX := hid hbx
                  have HTT := hid htk
                  clear cx ex hbx htx htk
                  generalize hfk : fs[t] = fk at *
                  clear hfk htf
                  go_upto_region 29 with (go_at_call 13; refine (NetD.take0 HN2.out).mono ?_; rintro e w3 ⟨g3, rfl, hr3, hn3, hk3⟩; have HR3 := hid hr3; have HN3 := hid hn3; have HK3 := hid hk3; clear hr3 hn3 hk3)
                  refine wp_world fun w4 HW => ?_
                  have HA4 : Hid (Below w3.heap.size w3 w4) := by show Below _ _ _; rw [HW.out]; exact below_grow (Below.refl _ _) _
                  have HF4 : Hid (Row w4 w3.heap.size [.slice (some ⟨g3, 0, none⟩) fk.length fk.length, .bool false] 32) := by show Row _ _ _ _; rw [HW.out]; exact Row.new' _ _ _ _ _ rfl rfl
                  have HB4 : Hid (Below W.heap.size W w4) := (HBK2.out.trans HK3.out.below).trans (HA4.out.mono (Nat.le_trans HBK2.out.size HK3.out.size))
                  have HN4 := hid (HN3.out.kept HA4.out)
                  have HR4 := hid (HR3.out.kept HA4.out HR3.out.lt)
                  generalize w3.heap.size = fb at *
                  clear HW HN3 HR3 HK3 HA4 HN2 HBK2
                  go_upto_region 30 with (go_at_call 13; refine (NetD.take1 HN4.out).mono ?_; rintro e w5 ⟨g5, rfl, hr5, hn5, hk5⟩; have HR5 := hid hr5; have HN5 := hid hn5; have HK5 := hid hk5; clear hr5 hn5 hk5)
                  refine wp_world fun w6 HW => ?_
                  have HA6 : Hid (Below w5.heap.size w5 w6) := by show Below _ _ _; rw [HW.out]; exact below_grow (Below.refl _ _) _
                  have HF6 : Hid (Row w6 w5.heap.size [.slice (some ⟨g5, 0, none⟩) fk.length fk.length, .bool false] 32) := by show Row _ _ _ _; rw [HW.out]; exact Row.new' _ _ _ _ _ rfl rfl
                  have HB6 : Hid (Below W.heap.size W w6) := (HB4.out.trans HK5.out.below).trans (HA6.out.mono (Nat.le_trans HB4.out.size HK5.out.size))
                  have HN6 := hid (HN5.out.kept HA6.out)
                  have HR6 := hid (HR5.out.kept HA6.out HR5.out.lt)
                  have h4 := HK5.out.row HR4.out (by decide) (by decide)
                  have h5 := HK5.out.row HF4.out (by decide) (by decide)
                  have HR46 := hid (h4.kept HA6.out h4.lt)
                  have HF46 := hid (h5.kept HA6.out h5.lt)
                  generalize w5.heap.size = fb2 at *
                  clear HW HN5 HR5 HK5 HA6 HN4 HB4 HR4 HF4 h4 h5
                  have f0 := HF46.out.cell 0 _ rfl
                  have f1 := HF6.out.cell 0 _ rfl
                  have c6 := cell_kept HB6.out HCX.out
                  have HSM : Hid (∀ n, Calls Try.prog 14 #[.slice (some ⟨g3, 0, none⟩) fk.length fk.length, .slice ax fk.length cx2] (w6.drewN n) fun e w' => e = .returned (.bool true) ∧ w' = w6.drewN n) := fun n => by
                    have h := same_any (w := w6.drewN n) (cap := fk.length) (cap' := cx2) (HR46.out.drewN n).bytes rfl ((HBX.out.kept HB6.out).drewN n) rfl
                    rwa [decide_eq_true rfl] at h
                  have HSM2 : Hid (∀ n, Calls Try.prog 14 #[.slice (some ⟨g5, 0, none⟩) fk.length fk.length, .slice ax fk.length cx2] (w6.drewN n) fun e w' => e = .returned (.bool true) ∧ w' = w6.drewN n) := fun n => by
                    have h := same_any (w := w6.drewN n) (cap := fk.length) (cap' := cx2) (HR6.out.drewN n).bytes rfl ((HBX.out.kept HB6.out).drewN n) rfl
                    rwa [decide_eq_true rfl] at h
                  go_quiet (first
                    | (go_at_call_of 14 (Value.slice (some ⟨g3, 0, none⟩) fk.length fk.length); exact Calls.quiet_of_same (HSM.out _))
                    | (go_at_call_of 14 (Value.slice (some ⟨g5, 0, none⟩) fk.length fk.length); exact Calls.quiet_of_same (HSM2.out _)))
                  obtain ⟨w7, hw7⟩ : ∃ w7, w7 = w6.drewN nq := ⟨_, rfl⟩
                  rw [← hw7]
                  have HD7 : Hid (Below w6.heap.size w6 w7) := by show Below _ _ _; rw [hw7]; exact below_drewN (Below.refl _ _) _
                  clear hw7 c6 f0 f1 HSM HSM2
                  go_wp2
                  go_roundw
                  case rel => exact ⟨t + 1, HTT.out, by go_num, HN6.out.kept HD7.out, HB6.out.trans (HD7.out.mono HB6.out.size)⟩
                  case measure => simp [intOf]; have := HTT.out; omega
                · have et : t = k := by omega
                  subst et
                  have HN2 : Hid (NetD W.heap.size wr p g d true r [] []) := by have h := hnr; rw [List.drop_of_length_le (by rw [HLN.out]; exact Nat.le_refl _)] at h; exact h
                  clear hnr hbw htk ht
                  go_upto_region 33 with (go_at_call 13; refine (NetD.takeNone HN2.out).mono ?_; rintro e w3 ⟨rfl, hb3⟩; have HN3 := hid (HN2.out.kept hb3); have HB3 := hid (HBK2.out.trans (hb3.mono HBK2.out.size)); clear hb3)
                  clear HN2 HBK2
                  have HLK := hid (NetD.look HN3.out)
                  go_upto_region 34 with (first
                    | (go_at_call 15; refine Calls.mono HLK.out ?_; rintro e w4 ⟨cv, rfl, hl2, ho2, hx2, hb2⟩; have HL2 := hid hl2; have HO2 := hid ho2; have HX2 := hid hx2; have HB4 := hid (HB3.out.trans (hb2.mono HB3.out.size)); clear hl2 ho2 hx2 hb2)
                    | (show wpList _ _ _ (Oper.mk none (.store 41 (.tmp 25) (.tmp 179)) _ _ _ _ :: _) _ _; refine Row.wpStore' (Row.new' w4 _ vz 41 _ rfl rfl) 41 (.tmp 25) (.tmp 179) cv rfl rfl rfl rfl (by rw [HL2.out]; rfl) HO2.out (by rw [HL2.out]; exact i41) ?_; intro w5 HZ5))
                  have HV5 : Hid (Row w5 w4.heap.size cv 41) := by show Row _ _ _ _; rw [HZ5.out]; exact (Row.new' w4 _ vz 41 _ rfl rfl).row _
                  have HB5 : Hid (Below W.heap.size W w5) := by show Below _ _ _; rw [HZ5.out]; exact below_setRow (HB4.out.alloc HB4.out.size _) HB4.out.size _
                  generalize w4.heap.size = vb at *
                  clear HZ5 HB4 HLK HN3 HB3
                  have v1 := HV5.out.cell _ _ HX2.out
                  have d1 : (0 : Int) ≤ (d : Int) := by omega
                  have d2 : (d : Int) < 2 := by have := HD.out; omega
                  have r1 : (0 : Int) ≤ (r : Int) := by omega
                  have HAV := hid (alive_any w5)
                  go_wp2_with (go_at_call 16; refine Calls.mono HAV.out ?_; rintro e w6 ⟨rfl, hb6⟩; have HB6 := hid (HB5.out.trans (hb6.mono HB5.out.size)); clear hb6)
                  go_ret
                  exact ⟨rfl, HB6.out⟩
end Go.Proofs.Ytjnmfedefmemnaa
