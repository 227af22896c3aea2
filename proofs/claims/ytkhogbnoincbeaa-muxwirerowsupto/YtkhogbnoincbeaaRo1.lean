import Derived.Test.YtkhogbnoincbeaaRo0
namespace Go.Proofs.Ytkhogbnoincbeaa
open Go.RowKit Go.Maps Go.Sort
set_option maxRecDepth 100000

/-- A fit frame's bytes and itself are laid behind the others. -/
theorem RoS.more {w W w1 w2 : World} {fs : List Fi} {k : Nat} {s3 s4 v1 v2 : Value} {Gs : List PF} (h : RoS w fs k s3 s4 Gs W) (hk : k < fs.length) {F : PF} {ax : Option Addr} {cx : Nat} (hF : F = fs[k].F) (hf : F.fit) (hB : BytesAt w ax F.bs)
    (ho : OwnBy w1 w.heap.size v1 (encs Gs ++ F.enc)) (hg1 : W.grownBy w1 s3.ownBlock) {Ps : List (PF × Value)} (hm : Ps.map (·.1) = Gs) (hp : ∀ x ∈ Ps, ∃ ax cx, x.2 = .slice ax x.1.bs.length cx ∧ BytesAt w ax x.1.bs) {w1' : World} (hb1 : Below w1.heap.size w1 w1') (hs4 : w1'.ownsRow w.heap.size 25 6 s4 Ps.length (flatP Ps))
    (ho2 : w2.ownsRow w.heap.size 25 6 v2 (Ps ++ [(F, Value.slice ax F.bs.length cx)]).length (flatP (Ps ++ [(F, Value.slice ax F.bs.length cx)]))) (hf2 : Fr (fun x => s4.ownBlock = some x) w1' w2) : RoS w fs (k + 1) v1 v2 (Gs ++ [F]) w2 := by
  have hF1 := Fr.of_grown (S := fun x => w.heap.size ≤ x) hg1 (fun x e => .inl (own_ge h.ob e))
  have b1 : Below w.heap.size w w1 := h.be.trans (hF1.below (fun _ e => e) h.be.size)
  have b2 : Below w.heap.size w w1' := b1.trans (hb1.mono b1.size)
  have b3 : Below w.heap.size w w2 := b2.trans ((hf2.wider (T := fun x => w.heap.size ≤ x) (fun x e => own_ge hs4 e)).below (fun _ e => e) b2.size)
  have e1 : encs (Gs ++ [F]) = encs Gs ++ F.enc := by rw [encs_app]; simp [encs]
  have hE := enc_two hf
  have ht : tot (fs.take (k + 1)) = tot (fs.take k) + (60 + F.bs.length) := by rw [List.take_succ_eq_append_getElem hk, tot_app, hF]; simp [tot]
  refine ⟨?_, ⟨Ps ++ [(F, Value.slice ax F.bs.length cx)], by rw [List.map_append, hm]; rfl, ho2, fun x hx => ?_⟩, fun G hG => ?_, ?_, b3⟩
  · rw [e1]
    refine hf2.own (own_below ho hb1) (fun x hx e => ?_)
    obtain ⟨c, hr⟩ := own_row25 hs4 e
    have := own_type (own_below ho hb1) hx hr
    cases this
  · rcases List.mem_append.1 hx with hx | hx
    · exact hp x hx
    · rw [List.mem_singleton] at hx
      subst hx
      exact ⟨ax, cx, rfl, hB⟩
  · rcases List.mem_append.1 hG with hG | hG
    · exact h.fit G hG
    · rw [List.mem_singleton] at hG
      subst hG
      exact hf
  · have h1 := h.le
    rw [e1, List.length_append, List.length_append, ht]
    simp only [List.length_cons, List.length_nil]
    omega
set_option maxHeartbeats 16000000 in
theorem rows_law (w : World) {a : Option Addr} {fs : List Fi} (c : Nat) (hI : FisAt w a fs) (ht : tot fs ≤ 67108864) :
    Calls Try.prog 8 #[.slice a fs.length c] w fun e w' => e = .returned (.bool true) ∧ Below w.heap.size w w' := by
  have HAW := hid (awake_any w)
  have HI := hid hI
  have HT := hid ht
  have hln : (fs.length : Int) ≤ 67108864 := by have := tot_len fs; omega
  have HS0 : Hid (∀ W, Below w.heap.size w W → RoS w fs 0 (.slice none 0 0) (.slice none 0 0) [] W) := fun W hW => ⟨⟨rfl, .inl ⟨rfl, rfl⟩⟩, ⟨[], rfl, ⟨rfl, .inl ⟨rfl, rfl⟩⟩, fun x hx => (by cases hx)⟩, fun x hx => (by cases hx), ⟨Nat.zero_le _, Nat.zero_le _⟩, hW⟩
  have hbs := bsl25
  have hbs3 := bsl23
  clear hI ht
  go_enter Try.func8, Try.ntmps8
  go_upto_region 5 with (go_at_call 17; refine HAW.out.mono ?_; rintro e w1 ⟨rfl, hb1⟩; have HS1 := hid (HS0.out _ hb1); clear hb1 HAW HS0)
  go_wp2_with fail
  go_loopw [3, 4, 18] (fun s3 s4 s18 wr => ∃ (k : Nat) (Gs : List PF), k ≤ fs.length ∧ s18 = .int .i64 k ∧ RoS w fs k s3 s4 Gs wr) (fun _ _ s _ => fs.length + 1 - (intOf s).toNat)
  case atStart => exact ⟨0, [], Nat.zero_le _, rfl, HS1.out⟩
  case round =>
    obtain ⟨k, Gs, hk, rfl, hS⟩ := hrel
    have HS := hid hS
    clear hS HS1
    by_cases hlt : k < fs.length
    · have hkI : (k : Int) < (fs.length : Int) := by omega
      obtain ⟨gA, oA, rfl, hcA⟩ := HI.out.at_ k hlt
      obtain ⟨hBy, hz, hs0, hn0⟩ := HI.out.ok fs[k] (List.getElem_mem hlt)
      have a0 := cell_kept HS.out.be (hcA 0 _ rfl)
      have a1 := cell_kept HS.out.be (hcA 1 _ rfl)
      have a2 := cell_kept HS.out.be (hcA 2 _ rfl)
      have a3 := cell_kept HS.out.be (hcA 3 _ rfl)
      have a4 := cell_kept HS.out.be (hcA 4 _ rfl)
      have a5 := cell_kept HS.out.be (hcA 5 _ rfl)
      obtain ⟨F, hFe⟩ : ∃ F, F = fs[k].F := ⟨_, rfl⟩
      have HFE := hid hFe
      simp only [Fi.v] at a5
      rw [← hFe] at a0 a1 a2 a3 a4 a5 hBy hs0 hn0
      obtain ⟨ax, hax⟩ : ∃ ax, fs[k].ax = ax := ⟨_, rfl⟩
      obtain ⟨cx, hcx⟩ : ∃ cx, fs[k].cx = cx := ⟨_, rfl⟩
      rw [hax] at a5 hBy hz
      rw [hcx] at a5 hz
      rw [Nat.add_zero] at a0
      have HBy := hid hBy
      have HZ := hid hz
      have HSN := hid (And.intro hs0 hn0)
      clear hcA hFe hax hcx hBy hz hs0 hn0
      go_upto_region 8 with fail
      refine wp_world ?_
      intro w2 hw2
      have hb2 : Below wr.heap.size wr w2 := by rw [hw2.out]; exact below_new _ _
      have RB : Row w2 wr.heap.size (pcells (F, .slice ax F.bs.length cx)) 25 := by rw [hw2.out]; exact Row.new _ _ _
      have HRB := hid RB
      have HS2 := hid (HS.out.kept hb2)
      obtain ⟨gO, hgO⟩ : ∃ g, wr.heap.size = g := ⟨_, rfl⟩
      rw [hgO] at HRB ⊢
      have y0 := HRB.out.cell 0 _ rfl
      have y1 := HRB.out.cell 1 _ rfl
      have y2 := HRB.out.cell 2 _ rfl
      have y3 := HRB.out.cell 3 _ rfl
      have y4 := HRB.out.cell 4 _ rfl
      have y5 := HRB.out.cell 5 _ rfl
      have HEN := hid (encode_any w2 F.k F.s F.n F.c F.h ax F.bs _ cx (HBy.out.kept HS2.out.be) rfl HZ.out HSN.out.1 HSN.out.2)
      clear hw2 hb2 RB HS a0 a1 a2 a3 a4 a5 hgO
      obtain ⟨ft, hft⟩ : ∃ ft, faultI F.k F.s F.n F.c F.h F.bs.length = ft := ⟨_, rfl⟩
      unfold EncAns at HEN
      rw [hft] at HEN
      have HFT := hid hft
      go_upto_region 9 with (go_at_call 10; refine HEN.out.mono ?_; rintro e w3 ⟨v3, rfl, ho3, hb3⟩; have HO3 := hid ho3; have HS3 := hid (HS2.out.kept hb3); have HR3 := hid (HRB.out.kept hb3 HRB.out.lt); clear ho3 hb3 HEN HS2)
      have HLF := hid (lfit_any w3 F.k F.s F.n F.c F.h ax F.bs _ cx (HBy.out.kept HS3.out.be) rfl HZ.out HSN.out.1 HSN.out.2)
      rw [HFT.out] at HLF
      clear y0 y1 y2 y3 y4 y5
      have y0 := HR3.out.cell 0 _ rfl
      have y1 := HR3.out.cell 1 _ rfl
      have y2 := HR3.out.cell 2 _ rfl
      have y3 := HR3.out.cell 3 _ rfl
      have y4 := HR3.out.cell 4 _ rfl
      have y5 := HR3.out.cell 5 _ rfl
      obtain ⟨a3, c3, rfl, hB3, -, -, hz3, -⟩ := ownBy_shape HO3.out
      by_cases h0 : ft = 0
      · subst h0
        have hfit : F.fit := ⟨HSN.out.1, HSN.out.2, HFT.out⟩
        have hEo : encO F.k F.s F.n F.c F.h F.bs = F.enc := by unfold encO; rw [if_pos HFT.out]; rfl
        rw [hEo] at HO3 hB3 ⊢
        have HB3 := hid hB3
        have HZ3 := hid hz3
        have HFIT := hid hfit
        clear hB3 hz3 hfit hEo
        go_upto_region 12 with (go_at_call 18; refine HLF.out.mono ?_; rintro e w4 ⟨rfl, hb4⟩; have HS4 := hid (HS3.out.kept hb4); have HR4 := hid (HR3.out.kept hb4 HR3.out.lt); have HB4 := hid (HB3.out.kept hb4); clear hb4 HLF)
        have HLL : Hid ((encs Gs).length + F.enc.length ≤ 140737488355328) := by
          have h1 := HS4.out.le
          have h2 := enc_two HFIT.out
          have h3 := tot_le fs k
          have h4 := HT.out
          have h5 : F.bs.length ≤ tot fs := by
            have := tot_le fs (k + 1)
            rw [List.take_succ_eq_append_getElem hlt, tot_app] at this
            simp only [tot] at this
            rw [← HFE.out] at this
            omega
          show _ ≤ _
          omega
        obtain ⟨Ps, hPm, hPo, hPp⟩ := HS4.out.ow
        have HPM := hid hPm
        have HPO := hid hPo
        have HPP := hid hPp
        have HBW : Hid (w.heap.size ≤ w4.heap.size) := HS4.out.be.size
        clear hPm hPo hPp y0 y1 y2 y3 y4 y5
        go_upto_region 13 with (at_builtin; refine wpAppendA (.tmp 34) (.tmp 35) rfl rfl (base := w.heap.size) rfl HS4.out.ob HBW.out rfl HZ3.out rfl HB4.out HLL.out ?_; intro w5 v5 hO5 hg5; have HO5 := hid (own_one hO5.out rfl rfl); have HG5 := hid hg5.out.1; clear hO5 hg5)
        have hF5 := Fr.of_grown (S := fun x => u3.ownBlock = some x) HG5.out (fun x e => .inl e)
        have h5no : ∀ g c, Row w4 g c 25 → ¬ u3.ownBlock = some g := fun g c hr e => by
          have := own_type HS4.out.ob e hr
          cases this
        have R5 := hF5.row HR4.out (h5no _ _ HR4.out)
        have y0 := R5.cell 0 _ rfl
        have y1 := R5.cell 1 _ rfl
        have y2 := R5.cell 2 _ rfl
        have y3 := R5.cell 3 _ rfl
        have y4 := R5.cell 4 _ rfl
        have y5 := R5.cell 5 _ rfl
        have hP5 := hF5.own HPO.out (fun x hx => by
          obtain ⟨c', hr⟩ := own_row25 HPO.out hx
          exact h5no x c' hr)
        have hb6 := below_new w5 (.cells (pcells (F, .slice ax F.bs.length cx)).toArray 25)
        have hP6 := own_below hP5 hb6
        obtain ⟨v6, w6, hrun, ho6, hf6⟩ := push25 hP6 (Nat.le_trans (Nat.le_trans HBW.out hF5.size) hb6.size) (by
          have h1 := HS4.out.le
          have h3 := tot_le fs k
          have h4 := HT.out
          have h5 : Ps.length = Gs.length := by rw [← HPM.out, List.length_map]
          omega) (x := (F, .slice ax F.bs.length cx)) rfl (Row.new w5 (pcells (F, .slice ax F.bs.length cx)) 25) 45
        have HRUN := hid hrun
        have HEND := hid (HS4.out.more hlt HFE.out HFIT.out HBy.out HO5.out HG5.out HPM.out HPP.out hb6 hP6 ho6 hf6)
        clear hF5 h5no R5 hP5 hb6 hP6 hrun ho6 hf6
        go_wp2_with (at_builtin; refine wpList_append_by rfl (.tmp 37) (.tmp 39) 45 rfl rfl rfl HRUN.out ?_)
        go_roundw
        case rel => exact ⟨k + 1, Gs ++ [F], hlt, by go_num, HEND.out⟩
        case measure => simp [intOf]; omega
      · have e0 : (ft == 0) = false := by simpa using h0
        have e1 : decide (ft = 0) = false := decide_eq_false h0
        clear hB3 hz3
        go_wp2_with (go_at_call 18; refine HLF.out.mono ?_; rintro e w4 ⟨rfl, hb4⟩; have HS4 := hid (HS3.out.kept hb4); clear hb4 HLF)
        go_roundw
        case rel => exact ⟨k + 1, Gs, hlt, by go_num, HS4.out.skip⟩
        case measure => simp [intOf]; omega
    · obtain rfl : k = fs.length := by omega
      clear hlt
      have hfit := HS.out.fit
      have hle := HS.out.le
      rw [List.take_length] at hle
      have hE : (encs Gs).length ≤ 67108864 := Nat.le_trans hle.1 HT.out
      have hGl : Gs.length ≤ 67108864 := Nat.le_trans hle.2 HT.out
      obtain ⟨a3, c3, rfl, hB3, hc3, hm3, hz3, -⟩ := ownBy_shape HS.out.ob
      obtain ⟨a4, c4, rfl, hL4⟩ := HS.out.look
      have hb2 := below_new wr (.cells #[.slice a3 (encs Gs).length c3] 23)
      have hob2 := own_below HS.out.ob hb2
      have HAL : Hid (Calls Try.prog 19 #[.slice (some ⟨wr.heap.size, 0, none⟩) 1 1, .bool false] (wr.alloc (.cells #[.slice a3 (encs Gs).length c3] 23)) fun e w' => ∃ (a2 : Option Addr) (c2 : Nat), e = .returned (.tuple #[.slice a2 Gs.length c2, .int .i64 0, .int .u64 ((encs Gs).length : Int), .int .i64 0]) ∧ LkA w' a2 Gs ∧ Below wr.heap.size wr w') := by
        refine (lall_any (c := 1) (n := 1) (Ts := [encs Gs]) rfl (one_pcs (Row.new wr [.slice a3 (encs Gs).length c3] 23) hob2) false (by simpa using hE) (by decide)).mono ?_
        rintro e w' ⟨v, lf, rfl, hlf, ⟨Ps, hF, hm⟩, hB⟩
        have e1 : [encs Gs].flatten = encs Gs := by simp
        rw [e1, Pr_all hfit] at hlf hm
        obtain ⟨a2, c2, rfl, hL⟩ := hF.look hm
        have e2 := hlf rfl
        refine ⟨a2, c2, ?_, hL, hb2.trans (hB.mono hb2.size)⟩
        rw [e1, Pr_all hfit, e2]
        rfl
      have HL4 := hid hL4
      have HFT := hid hfit
      have HB3 := hid hB3
      have HZ3 := hid hz3
      have HC3 := hid (And.intro hc3 hm3)
      have HBE := hid HS.out.be
      obtain ⟨nE, hnE⟩ : ∃ nE, (encs Gs).length = nE := ⟨_, rfl⟩
      obtain ⟨nG, hnG⟩ : ∃ nG, Gs.length = nG := ⟨_, rfl⟩
      have HNE := hid hnE
      have HNG := hid hnG
      rw [hnE] at HAL hE hc3 ⊢
      rw [hnG] at HAL hGl ⊢
      have hEi : (nE : Int) ≤ 67108864 := by omega
      have hGi : (nG : Int) ≤ 67108864 := by omega
      have hE0 : (0 : Int) ≤ (nE : Int) := by omega
      have hwE : IntKind.u64.wrap (nE : Int) = (nE : Int) := by rw [IntKind.wrap_u64]; omega
      clear hfit hle hB3 hm3 hz3 hL4 hb2 hob2 hnE hnG HS HI
      go_upto_region 16 with (go_at_call 19; refine HAL.out.mono ?_; rintro e w4 ⟨a2, c2, rfl, hL5, hb5⟩; have HL5 := hid hL5; have HB5 := hid hb5; clear hL5 hb5 HAL)
      go_wp2_with fail
      go_loopw [72] (fun s72 wy => ∃ i : Nat, i ≤ nG ∧ s72 = .int .i64 i ∧ Below w4.heap.size w4 wy) (fun s _ => nG + 1 - (intOf s).toNat)
      case atStart => exact ⟨0, Nat.zero_le _, rfl, Below.refl _ _⟩
      case round =>
        obtain ⟨i, hi, rfl, hby⟩ := hrel
        refine wp_world ?_
        intro wy hwy
        rw [← hwy.out] at hby
        have HBY := hid hby
        clear hby hwy
        by_cases hi2 : i < nG
        · have hiI : (i : Int) < (nG : Int) := by omega
          have hi0 : (0 : Int) ≤ (i : Int) := by omega
          have hiG : i < Gs.length := by rw [HNG.out]; exact hi2
          obtain ⟨g1, ax1, cx1, rfl, hB1, hc1⟩ := HL5.out.kept HBY.out i hiG
          obtain ⟨g2, ax2, cx2, rfl, hB2, hc2⟩ := (HL4.out.kept HB5.out).kept HBY.out i hiG
          generalize Gs[i] = F at *
          have p0 := hc1 0 _ rfl
          have p1 := hc1 1 _ rfl
          have p2 := hc1 2 _ rfl
          have p3 := hc1 3 _ rfl
          have p4 := hc1 4 _ rfl
          have p5 := hc1 5 _ rfl
          have q0 := hc2 0 _ rfl
          have q1 := hc2 1 _ rfl
          have q2 := hc2 2 _ rfl
          have q3 := hc2 3 _ rfl
          have q4 := hc2 4 _ rfl
          have q5 := hc2 5 _ rfl
          rw [Nat.add_zero] at p0 q0
          have HSM := hid ((rsame_any wy.drew F.k F.s F.n F.c F.h F.k F.s F.n F.c F.h ax1 ax2 F.bs F.bs _ _ cx1 cx2 (hB1.kept (Below.refl _ _).drew) rfl (hB2.kept (Below.refl _ _).drew) rfl).mono (fun e w9 (h : _ ∧ _) => (⟨by rw [h.1, decide_eq_true ⟨rfl, rfl, rfl, rfl, rfl, rfl⟩], (Below.refl _ _).drew.trans h.2⟩ : e = .returned (.bool true) ∧ Below wy.heap.size wy w9)))
          clear hc1 hc2 hB1 hB2
          generalize F.bs.length = nB at *
          go_upto_region 21 with fail
          go_region_held3 (fun W => W.cell? ⟨g1, i * 6, none⟩ = some (.int .i64 F.k) ∧ W.cell? ⟨g1, i * 6 + 1, none⟩ = some (.int .u64 F.s) ∧ W.cell? ⟨g1, i * 6 + 2, none⟩ = some (.int .u64 F.n) ∧ W.cell? ⟨g1, i * 6 + 3, none⟩ = some (.int .i64 F.c) ∧ W.cell? ⟨g1, i * 6 + 4, none⟩ = some (.int .i64 F.h) ∧ W.cell? ⟨g1, i * 6 + 5, none⟩ = some (.slice ax1 nB cx1) ∧ W.cell? ⟨g2, i * 6, none⟩ = some (.int .i64 F.k) ∧ W.cell? ⟨g2, i * 6 + 1, none⟩ = some (.int .u64 F.s) ∧ W.cell? ⟨g2, i * 6 + 2, none⟩ = some (.int .u64 F.n) ∧ W.cell? ⟨g2, i * 6 + 3, none⟩ = some (.int .i64 F.c) ∧ W.cell? ⟨g2, i * 6 + 4, none⟩ = some (.int .i64 F.h) ∧ W.cell? ⟨g2, i * 6 + 5, none⟩ = some (.slice ax2 nB cx2)) (go_keep)
            (first
              | (go_at_call 14; refine HSM.out.mono ?_; rintro e w9 ⟨rfl, hb9⟩; have p0' := cell_kept hb9 p0; have p1' := cell_kept hb9 p1; have p2' := cell_kept hb9 p2; have p3' := cell_kept hb9 p3; have p4' := cell_kept hb9 p4; have p5' := cell_kept hb9 p5; have q0' := cell_kept hb9 q0; have q1' := cell_kept hb9 q1; have q2' := cell_kept hb9 q2; have q3' := cell_kept hb9 q3; have q4' := cell_kept hb9 q4; have q5' := cell_kept hb9 q5; have HB9 := hid (HBY.out.trans (hb9.mono HBY.out.size)); clear hb9 HSM))
          go_wp2_with fail
          go_roundw
          case rel => exact ⟨i + 1, hi2, by go_num, HB9.out⟩
          case measure => simp [intOf]; omega
        · obtain rfl : nG = i := by omega
          clear hi2
          by_cases hE2 : nE = 0
          · subst hE2
            go_wp2_with fail
            go_ret
            exact ⟨rfl, HBE.out.trans ((HB5.out.trans (HBY.out.mono HB5.out.size)).mono HBE.out.size)⟩
          · have hEb : ((nE : Int) == 0) = false := by simp; omega
            obtain ⟨m, hm⟩ : ∃ m, nE = m + 1 := ⟨nE - 1, by omega⟩
            obtain ⟨A, F, hGs⟩ : ∃ A F, Gs = A ++ [F] := by
              rcases List.eq_nil_or_concat Gs with e | ⟨A, F, e⟩
              · have := HNE.out
                rw [e] at this
                simp [encs] at this
                omega
              · exact ⟨A, F, by rw [e, List.concat_eq_append]⟩
            have hft := HFT.out
            rw [hGs] at hft
            have hF2 := enc_two (hft F (by simp))
            have hPr := Pr_last hft (by omega)
            rw [← hGs, HNE.out, hm, Nat.add_sub_cancel] at hPr
            have hnA : nG = A.length + 1 := by rw [← HNG.out, hGs]; simp
            obtain ⟨nA, hnA2⟩ : ∃ nA, A.length = nA := ⟨_, rfl⟩
            rw [hnA2] at hnA
            obtain ⟨g3, o3, rfl, -⟩ := HB3.out 0 (by rw [HNE.out]; omega)
            have hBY2 := (HB3.out.kept HB5.out).kept HBY.out
            have hb6 := below_new wy (.cells #[.slice (some ⟨g3, o3, none⟩) m c3] 23)
            have hPc : PcsAt (wy.alloc (.cells #[.slice (some ⟨g3, o3, none⟩) m c3] 23)) (some ⟨wy.heap.size, 0, none⟩) [(encs Gs).take m] := fun i hi => by
              obtain rfl : i = 0 := by simpa using hi
              refine ⟨wy.heap.size, 0, some ⟨g3, o3, none⟩, c3, rfl, ?_, bytes_front (hBY2.kept hb6) m, fun e => (by cases e)⟩
              simp only [List.getElem_cons_zero, List.length_take, HNE.out]
              rw [show min m nE = m by omega]
              exact (Row.new wy [.slice (some ⟨g3, o3, none⟩) m c3] 23).cell 0 _ rfl
            have HAL2 : Hid (Calls Try.prog 19 #[.slice (some ⟨wy.heap.size, 0, none⟩) 1 1, .bool false] (wy.alloc (.cells #[.slice (some ⟨g3, o3, none⟩) m c3] 23)) fun e w' => ∃ (a6 : Option Addr) (c6 : Nat) (x6 : Int) (lf : Nat), e = .returned (.tuple #[.slice a6 nA c6, .int .i64 0, .int .u64 x6, .int .i64 ((lf + 1 : Nat) : Int)]) ∧ Below wy.heap.size wy w') := by
              refine (lall_any (c := 1) (n := 1) (Ts := [(encs Gs).take m]) rfl hPc false (by simp only [List.flatten_cons, List.flatten_nil, List.append_nil, List.length_take, HNE.out]; omega) (by decide)).mono ?_
              rintro e w' ⟨v, lf, rfl, hlf, ⟨Ps, hF, hmp⟩, hB⟩
              have e1 : [(encs Gs).take m].flatten = (encs Gs).take m := by simp
              rw [e1, hPr] at hlf hmp
              obtain ⟨a6, c6, rfl, hL⟩ := hF.look hmp
              have e2 := hlf rfl
              simp only [List.length_take] at e2
              refine ⟨a6, c6, ((((encs Gs).take m).length - (F.enc.take (F.enc.length - 1)).length : Nat) : Int), F.enc.length - 2, ?_, hb6.trans (hB.mono hb6.size)⟩
              rw [show F.enc.length - 2 + 1 = lf by omega, e1, hPr]
              simp only [hnA2]
            have hmE : IntKind.i64.wrap ((nE : Int) - 1) = (m : Int) := by rw [IntKind.wrap_i64]; omega
            have hmc : (m : Int) ≤ (c3 : Int) := by omega
            have hm0 : (0 : Int) ≤ (m : Int) := by omega
            have hnw : IntKind.i64.wrap ((nG : Int) - 1) = (nA : Int) := by rw [IntKind.wrap_i64]; omega
            clear hPc hBY2 hb6 hPr hF2 hft hGs hnA2 HL4 HL5
            go_upto_region 27 with (go_at_call 19; refine HAL2.out.mono ?_; rintro e w6 ⟨a6, c6, x6, lf, rfl, hb6⟩; have HB6 := hid hb6; clear hb6 HAL2)
            have hlf0 : (0 : Int) < ((lf + 1 : Nat) : Int) := by omega
            generalize ((lf + 1 : Nat) : Int) = lv at *
            go_wp2_with fail
            go_ret
            exact ⟨by first | rfl | simp, HBE.out.trans (((HB5.out.trans (HBY.out.mono HB5.out.size)).trans (HB6.out.mono (Nat.le_trans HB5.out.size HBY.out.size))).mono HBE.out.size)⟩
end Go.Proofs.Ytkhogbnoincbeaa
