import Derived.Test.YtaklbofbhanjgaaDoorEq39
namespace Go.Proofs.YtaklbofbhanjgaaDoor
open Go.RowKit
set_option maxRecDepth 100000
theorem dec_32 {l : List (BitVec 8)} {M : Mf} (h : decB l = some M) : M.rt.length = 32 := by
  unfold decB at h
  split at h
  · cases h
  · rename_i h0
    split at h
    · cases h
      exact fld_32 (by omega)
    · cases h
theorem bk_on {w w1 w2 : World} {b : Nat} {C : List Value} (h : Row w1 b C 39 ∧ Below w.heap.size w w1) (hb : Below w1.heap.size w1 w2) : Row w2 b C 39 ∧ Below w.heap.size w w2 := ⟨h.1.kept hb h.1.lt, h.2.trans (hb.mono h.2.size)⟩
set_option maxHeartbeats 16000000 in
theorem back_law {w : World} {m : Mf} {a : Option Addr} {c : Nat} {l : List (BitVec 8)} (hr : m.rt.length = 32) (hB : BytesAt w a l) (hc : l.length ≤ c) (hcm : c ≤ 9223372036854775807) (hT : CrcTab w) (hK : KTab w) (h2 : 2 ≤ w.heap.size) :
    Calls Tryd.prog 4 #[.agg m.cells.toArray, .slice a l.length c] w fun e w' => e = .returned (.bool true) ∧ Below w.heap.size w w' := by
  obtain ⟨n, hn⟩ : ∃ n, l.length = n := ⟨_, rfl⟩
  rw [hn]
  have HB : Hid (BytesAt w a l ∧ l.length = n ∧ l.length ≤ c ∧ c ≤ 9223372036854775807) := ⟨hB, hn, hc, hcm⟩
  have HT : Hid (CrcTab w ∧ KTab w ∧ 2 ≤ w.heap.size) := ⟨hT, hK, h2⟩
  have I35 := hid iMf
  have HF : Hid (∀ w, Calls Tryd.prog 22 #[.agg m.cells.toArray] w fun e w' => e = .returned (.int .i64 (fitE m)) ∧ Below w.heap.size w w') := fun w => fit_any
  have HCL : Hid (m.cells.length = 35 ∧ ∀ x ∈ m.cells, x.oneCell' = true) := ⟨Mf.cells_len hr, Mf.cells_one m⟩
  clear hB hc hcm hT hK h2 hn
  by_cases hE : fitE m = 0
  · have HEO : Hid (∀ w', Below w.heap.size w w' → Calls Tryd.prog 21 #[.agg m.cells.toArray] w' fun e w2 => ∃ a2 c2, e = .returned (.tuple #[.slice a2 (encB m).length c2, .int .i64 0]) ∧ BytesAt w2 a2 (encB m) ∧ (encB m).length ≤ c2 ∧ c2 ≤ 9223372036854775807 ∧ Below w'.heap.size w' w2) := fun w' hb => (encode_ok hr hE (HT.out.1.kept hb)).mono fun e w2 ⟨v, h1, h2, h3⟩ => by
      obtain ⟨a2, c2, rfl, hb2, h5, h6, -⟩ := ownBy_shape h2
      exact ⟨a2, c2, h1, hb2, h5, by unfold maxLen at h6; omega, h3⟩
    have HDE : Hid (∀ w' a2 c2, Below w.heap.size w w' → BytesAt w' a2 (encB m) → (encB m).length ≤ c2 → c2 ≤ 9223372036854775807 → Calls Tryd.prog 23 #[.slice a2 (encB m).length c2] w' fun e w2 => e = .returned (.tuple #[.agg m.cells.toArray, .int .i64 0]) ∧ Below w'.heap.size w' w2) := fun w' a2 c2 hb h1 h2 h3 => by
      have := decode_any h1 h2 h3 (HT.out.1.kept hb)
      rw [dec_enc hr hE] at this
      exact this
    have hq0 := eqMf10 (m := m) hr
    rw [hE] at HF
    generalize (encB m).length = N2 at *
    generalize m.cells = C at *
    clear hr hE
    go_enter Tryd.func4, Tryd.ntmps4
    go_upto_region 1 with (fail)
    refine wp_world fun wa HW => ?_
    have HS0 : Hid (Row wa w.heap.size C 39 ∧ Below w.heap.size w wa) := by
      show _ ∧ _
      rw [HW.out]
      exact ⟨Row.new' _ _ _ _ _ rfl rfl, nb_new _ _⟩
    clear HW
    obtain ⟨b, hb⟩ : ∃ b, w.heap.size = b := ⟨_, rfl⟩
    have HBB := hid hb
    have HSb : Hid (Row wa b C 39 ∧ Below w.heap.size w wa) := by rw [← hb]; exact HS0.out
    rw [hb]
    clear hb HS0
    go_upto_region 3 with (go_at_call 20; refine Calls.mono (alive_any (HT.out.2.1.kept HSb.out.2) (Nat.le_trans HT.out.2.2 HSb.out.2.size)) ?_; rintro e w1 ⟨rfl, hb1⟩; have HS1 := hid (bk_on HSb.out hb1); clear hb1)
    go_upto_region 7 with (first
      | (show wpList _ _ _ (Oper.mk (some 16) (.load 39 (.tmp 2)) _ _ _ _ :: _) _ _; refine HS1.out.1.wpLoad 39 (.tmp 2) rfl rfl rfl _ Tryd.underlying39 rfl (by rw [HCL.out.1]; exact I35.out) ?_)
      | (go_at_call 21; refine Calls.mono (HEO.out _ HS1.out.2) ?_; rintro e w2 ⟨a2, c2, rfl, hb2, hl2, hm2, hbl⟩; have HS2 := hid (bk_on HS1.out hbl); have HX := hid (And.intro hb2 (And.intro hl2 hm2)); clear hb2 hl2 hm2 hbl)
      | (show wpList _ _ _ (Oper.mk (some 22) (.load 39 (.tmp 2)) _ _ _ _ :: _) _ _; refine HS2.out.1.wpLoad 39 (.tmp 2) rfl rfl rfl _ Tryd.underlying39 rfl (by rw [HCL.out.1]; exact I35.out) ?_)
      | (go_at_call 22; refine Calls.mono (HF.out _) ?_; rintro e w3 ⟨rfl, hb3⟩; have HS3 := hid (bk_on HS2.out hb3); have HDX := hid (HDE.out _ _ _ HS3.out.2 (HX.out.1.kept hb3) HX.out.2.1 HX.out.2.2); clear hb3))
    go_upto_region 8 with (first
      | (go_at_call 23; refine Calls.mono HDX.out ?_; rintro e w4 ⟨rfl, hb4⟩; have HS4 := hid (bk_on HS3.out hb4); clear hb4)
      | (show wpList _ _ _ (Oper.mk none (.store 39 (.tmp 7) (.tmp 31)) _ _ _ _ :: _) _ _; refine (Row.new' w4 _ mfZ.cells 39 _ rfl rfl).wpStore' 39 (.tmp 7) (.tmp 31) C rfl rfl rfl rfl (by rw [HCL.out.1]; rfl) HCL.out.2 (by rw [HCL.out.1]; exact I35.out) ?_; intro w5 HZ))
    have HS5 : Hid (Row w5 w4.heap.size C 39 ∧ Row w5 b C 39 ∧ Below w.heap.size w w5) := by
      show _ ∧ _ ∧ _
      rw [HZ.out]
      have hlt := HS4.out.1.lt
      exact ⟨(Row.new w4 mfZ.cells 39).row _, (HS4.out.1.alloc _).rowOther (by omega) _, Go.below_setRow (HS4.out.2.trans ((nb_new w4 _).mono HS4.out.2.size)) HS4.out.2.size _⟩
    generalize w4.heap.size = b7 at *
    clear HZ HS4 HDX HX HS3 HS2 HS1 HEO HDE
    try simp only [Act.put]
    go_upto_region 10 with (first
      | (show wpList _ _ _ (Oper.mk (some 36) (.load 39 (.tmp 7)) _ _ _ _ :: _) _ _; refine Row.wpLoadF HS5.out.1 39 (.tmp 7) (j := 2) rfl rfl rfl rfl _ Tryd.underlying39 rfl (by rw [HCL.out.1]; exact I35.out) ?_)
      | (show wpList _ _ _ (Oper.mk (some 37) (.load 39 (.tmp 2)) _ _ _ _ :: _) _ _; refine Row.wpLoadF HS5.out.2.1 39 (.tmp 2) (j := 2) rfl rfl rfl rfl _ Tryd.underlying39 rfl (by rw [HCL.out.1]; exact I35.out) ?_))
    have HSB : Hid (Row w5 b C 39 ∧ Below w.heap.size w w5) := ⟨HS5.out.2.1, HS5.out.2.2⟩
    clear hq0 HS5
    have d0 := hid (HSB.out)
    by_cases hD : ∃ M, decB l = some M
    · obtain ⟨M, hM⟩ := hD
      have HM := hid hM
      have h32 := dec_32 hM
      have HDC : Hid (Calls Tryd.prog 23 #[.slice a n c] w5 fun e w' => e = .returned (.tuple #[.agg M.cells.toArray, .int .i64 0]) ∧ Below w5.heap.size w5 w') := by
        have := decode_any (HB.out.1.kept HSB.out.2) HB.out.2.2.1 HB.out.2.2.2 (HT.out.1.kept HSB.out.2)
        rw [hM, HB.out.2.1] at this
        exact this
      have HEO : Hid (∀ w', Below w.heap.size w w' → Calls Tryd.prog 21 #[.agg M.cells.toArray] w' fun e w2 => ∃ a3 c3, e = .returned (.tuple #[.slice a3 n c3, .int .i64 0]) ∧ BytesAt w2 a3 l ∧ Below w'.heap.size w' w2) := fun w' hb => (encode_ok h32 (dec_some hM).1 (HT.out.1.kept hb)).mono fun e w2 ⟨v, h1, h2, h3⟩ => by
        rw [(dec_some hM).2] at h2
        obtain ⟨a2, c2, rfl, hb2, -⟩ := ownBy_shape h2
        rw [HB.out.2.1] at h1
        exact ⟨a2, c2, h1, hb2, h3⟩
      have HML : Hid (M.cells.length = 35 ∧ ∀ x ∈ M.cells, x.oneCell' = true) := ⟨Mf.cells_len (m := M) h32, Mf.cells_one M⟩
      generalize M.cells = CM at *
      clear hM h32
      go_upto_region 11 with (first
        | (go_at_call 23; refine Calls.mono HDC.out ?_; rintro e wC ⟨rfl, hbC⟩; have HSC := hid (bk_on HSB.out hbC); clear hbC)
        | (show wpList _ _ _ (Oper.mk none (.store 39 (.tmp 9) (.tmp 43)) _ _ _ _ :: _) _ _; refine (Row.new' wC _ mfZ.cells 39 _ rfl rfl).wpStore' 39 (.tmp 9) (.tmp 43) CM rfl rfl rfl rfl (by rw [HML.out.1]; rfl) HML.out.2 (by rw [HML.out.1]; exact I35.out) ?_; intro wD HZ))
      have HSD : Hid (Row wD wC.heap.size CM 39 ∧ Below w.heap.size w wD) := by
        show _ ∧ _
        rw [HZ.out]
        exact ⟨(Row.new wC mfZ.cells 39).row _, Go.below_setRow (HSC.out.2.trans ((nb_new wC _).mono HSC.out.2.size)) HSC.out.2.size _⟩
      generalize wC.heap.size = b9 at *
      clear HZ HSC HDC d0
      try simp only [Act.put]
      go_upto_region 14 with (first
        | (show wpList _ _ _ (Oper.mk (some 51) (.load 39 (.tmp 9)) _ _ _ _ :: _) _ _; refine HSD.out.1.wpLoad 39 (.tmp 9) rfl rfl rfl _ Tryd.underlying39 rfl (by rw [HML.out.1]; exact I35.out) ?_)
        | (go_at_call 21; refine Calls.mono (HEO.out _ HSD.out.2) ?_; rintro e wE ⟨a3, c3, rfl, hb3, hbE⟩; have HSE : Hid (BytesAt wE a3 l ∧ Below w.heap.size w wE) := ⟨hb3, HSD.out.2.trans (hbE.mono HSD.out.2.size)⟩; clear hb3 hbE))
      have k1 := convert_any (cap := c3) HSE.out.1 HB.out.2.1
      have k2 := convert_any (cap := c) (HB.out.1.kept HSE.out.2) HB.out.2.1
      generalize strOf l = sl at *
      go_wp2
      go_ret
      exact ⟨by first | rfl | simp, HSE.out.2⟩
    · have HDC : Hid (Calls Tryd.prog 23 #[.slice a n c] w5 fun e w' => e = .returned (.tuple #[.agg mfZ.cells.toArray, .int .i64 223]) ∧ Below w5.heap.size w5 w') := by
        have := decode_any (HB.out.1.kept HSB.out.2) HB.out.2.2.1 HB.out.2.2.2 (HT.out.1.kept HSB.out.2)
        have hn : decB l = none := by
          cases h : decB l with
          | none => rfl
          | some M => exact absurd ⟨M, h⟩ hD
        rw [hn, HB.out.2.1] at this
        exact this
      have HML : Hid (mfZ.cells.length = 35 ∧ ∀ x ∈ mfZ.cells, x.oneCell' = true) := ⟨rfl, Mf.cells_one _⟩
      have HBU : Hid (Tryd.prog.built 39 [] = some mfZ.cells.toArray) := built39z'
      have hq := eqMf10 (m := mfZ) rfl
      obtain ⟨CM, hCM⟩ : ∃ z, mfZ.cells = z := ⟨_, rfl⟩
      have HCM := hid hCM
      rw [hCM] at HDC HML HBU hq
      clear hD hCM
      go_upto_region 11 with (first
        | (go_at_call 23; refine Calls.mono HDC.out ?_; rintro e wC ⟨rfl, hbC⟩; have HSC := hid (bk_on HSB.out hbC); clear hbC)
        | (show wpList _ _ _ (Oper.mk none (.store 39 (.tmp 9) (.tmp 43)) _ _ _ _ :: _) _ _; refine (Row.new' wC _ mfZ.cells 39 _ rfl rfl).wpStore' 39 (.tmp 9) (.tmp 43) CM rfl rfl rfl rfl (by rw [HML.out.1]; rfl) HML.out.2 (by rw [HML.out.1]; exact I35.out) ?_; intro wD HZ))
      have HSD : Hid (Row wD wC.heap.size CM 39 ∧ Below w.heap.size w wD) := by
        show _ ∧ _
        rw [HZ.out]
        exact ⟨(Row.new wC mfZ.cells 39).row _, Go.below_setRow (HSC.out.2.trans ((nb_new wC _).mono HSC.out.2.size)) HSC.out.2.size _⟩
      generalize wC.heap.size = b9 at *
      clear HZ HSC HDC d0
      try simp only [Act.put]
      go_wp2_with (first
        | (show wpList _ _ _ (Oper.mk (some 47) (.load 39 (.tmp 9)) _ _ _ _ :: _) _ _; refine HSD.out.1.wpLoad 39 (.tmp 9) rfl rfl rfl _ Tryd.underlying39 rfl (by rw [HML.out.1]; exact I35.out) ?_)
        | (show wpList _ _ _ (Oper.mk (some 48) (.build 39 _) _ _ _ _ :: _) _ _; refine wpList_built rfl rfl ((congrArg (fun l => Tryd.prog.built 39 l) (by first | rfl | simp [Act.eval])).trans HBU.out) ?_))
      go_ret
      exact ⟨rfl, HSD.out.2⟩
  · have HEN : Hid (∀ w', Calls Tryd.prog 21 #[.agg m.cells.toArray] w' fun e w2 => e = .returned (.tuple #[.slice none 0 0, .int .i64 (fitE m)]) ∧ Below w'.heap.size w' w2) := fun w' => encode_no hr hE
    have hE2 : (fitE m == 0) = false := by simpa using hE
    generalize fitE m = E at *
    generalize m.cells = C at *
    clear hr hE
    go_enter Tryd.func4, Tryd.ntmps4
    go_upto_region 1 with (fail)
    refine wp_world fun wa HW => ?_
    have HS0 : Hid (Row wa w.heap.size C 39 ∧ Below w.heap.size w wa) := by
      show _ ∧ _
      rw [HW.out]
      exact ⟨Row.new' _ _ _ _ _ rfl rfl, nb_new _ _⟩
    clear HW
    obtain ⟨b, hb⟩ : ∃ b, w.heap.size = b := ⟨_, rfl⟩
    have HBB := hid hb
    have HSb : Hid (Row wa b C 39 ∧ Below w.heap.size w wa) := by rw [← hb]; exact HS0.out
    rw [hb]
    clear hb HS0
    go_upto_region 3 with (go_at_call 20; refine Calls.mono (alive_any (HT.out.2.1.kept HSb.out.2) (Nat.le_trans HT.out.2.2 HSb.out.2.size)) ?_; rintro e w1 ⟨rfl, hb1⟩; have HS1 := hid (bk_on HSb.out hb1); clear hb1)
    go_upto_region 10 with (first
      | (show wpList _ _ _ (Oper.mk (some 16) (.load 39 (.tmp 2)) _ _ _ _ :: _) _ _; refine HS1.out.1.wpLoad 39 (.tmp 2) rfl rfl rfl _ Tryd.underlying39 rfl (by rw [HCL.out.1]; exact I35.out) ?_)
      | (go_at_call 21; refine Calls.mono (HEN.out _) ?_; rintro e w2 ⟨rfl, hbl⟩; have HS2 := hid (bk_on HS1.out hbl); clear hbl)
      | (show wpList _ _ _ (Oper.mk (some 22) (.load 39 (.tmp 2)) _ _ _ _ :: _) _ _; refine HS2.out.1.wpLoad 39 (.tmp 2) rfl rfl rfl _ Tryd.underlying39 rfl (by rw [HCL.out.1]; exact I35.out) ?_)
      | (go_at_call 22; refine Calls.mono (HF.out _) ?_; rintro e w3 ⟨rfl, hb3⟩; have HSB := hid (bk_on HS2.out hb3); clear hb3))
    clear HS1 HS2 hE2
    have d0 := hid (HSB.out)
    by_cases hD : ∃ M, decB l = some M
    · obtain ⟨M, hM⟩ := hD
      have HM := hid hM
      have h32 := dec_32 hM
      have HDC : Hid (Calls Tryd.prog 23 #[.slice a n c] w3 fun e w' => e = .returned (.tuple #[.agg M.cells.toArray, .int .i64 0]) ∧ Below w3.heap.size w3 w') := by
        have := decode_any (HB.out.1.kept HSB.out.2) HB.out.2.2.1 HB.out.2.2.2 (HT.out.1.kept HSB.out.2)
        rw [hM, HB.out.2.1] at this
        exact this
      have HEO : Hid (∀ w', Below w.heap.size w w' → Calls Tryd.prog 21 #[.agg M.cells.toArray] w' fun e w2 => ∃ a3 c3, e = .returned (.tuple #[.slice a3 n c3, .int .i64 0]) ∧ BytesAt w2 a3 l ∧ Below w'.heap.size w' w2) := fun w' hb => (encode_ok h32 (dec_some hM).1 (HT.out.1.kept hb)).mono fun e w2 ⟨v, h1, h2, h3⟩ => by
        rw [(dec_some hM).2] at h2
        obtain ⟨a2, c2, rfl, hb2, -⟩ := ownBy_shape h2
        rw [HB.out.2.1] at h1
        exact ⟨a2, c2, h1, hb2, h3⟩
      have HML : Hid (M.cells.length = 35 ∧ ∀ x ∈ M.cells, x.oneCell' = true) := ⟨Mf.cells_len (m := M) h32, Mf.cells_one M⟩
      generalize M.cells = CM at *
      clear hM h32
      go_upto_region 11 with (first
        | (go_at_call 23; refine Calls.mono HDC.out ?_; rintro e wC ⟨rfl, hbC⟩; have HSC := hid (bk_on HSB.out hbC); clear hbC)
        | (show wpList _ _ _ (Oper.mk none (.store 39 (.tmp 9) (.tmp 43)) _ _ _ _ :: _) _ _; refine (Row.new' wC _ mfZ.cells 39 _ rfl rfl).wpStore' 39 (.tmp 9) (.tmp 43) CM rfl rfl rfl rfl (by rw [HML.out.1]; rfl) HML.out.2 (by rw [HML.out.1]; exact I35.out) ?_; intro wD HZ))
      have HSD : Hid (Row wD wC.heap.size CM 39 ∧ Below w.heap.size w wD) := by
        show _ ∧ _
        rw [HZ.out]
        exact ⟨(Row.new wC mfZ.cells 39).row _, Go.below_setRow (HSC.out.2.trans ((nb_new wC _).mono HSC.out.2.size)) HSC.out.2.size _⟩
      generalize wC.heap.size = b9 at *
      clear HZ HSC HDC d0
      try simp only [Act.put]
      go_upto_region 14 with (first
        | (show wpList _ _ _ (Oper.mk (some 51) (.load 39 (.tmp 9)) _ _ _ _ :: _) _ _; refine HSD.out.1.wpLoad 39 (.tmp 9) rfl rfl rfl _ Tryd.underlying39 rfl (by rw [HML.out.1]; exact I35.out) ?_)
        | (go_at_call 21; refine Calls.mono (HEO.out _ HSD.out.2) ?_; rintro e wE ⟨a3, c3, rfl, hb3, hbE⟩; have HSE : Hid (BytesAt wE a3 l ∧ Below w.heap.size w wE) := ⟨hb3, HSD.out.2.trans (hbE.mono HSD.out.2.size)⟩; clear hb3 hbE))
      have k1 := convert_any (cap := c3) HSE.out.1 HB.out.2.1
      have k2 := convert_any (cap := c) (HB.out.1.kept HSE.out.2) HB.out.2.1
      generalize strOf l = sl at *
      go_wp2
      go_ret
      exact ⟨by first | rfl | simp, HSE.out.2⟩
    · have HDC : Hid (Calls Tryd.prog 23 #[.slice a n c] w3 fun e w' => e = .returned (.tuple #[.agg mfZ.cells.toArray, .int .i64 223]) ∧ Below w3.heap.size w3 w') := by
        have := decode_any (HB.out.1.kept HSB.out.2) HB.out.2.2.1 HB.out.2.2.2 (HT.out.1.kept HSB.out.2)
        have hn : decB l = none := by
          cases h : decB l with
          | none => rfl
          | some M => exact absurd ⟨M, h⟩ hD
        rw [hn, HB.out.2.1] at this
        exact this
      have HML : Hid (mfZ.cells.length = 35 ∧ ∀ x ∈ mfZ.cells, x.oneCell' = true) := ⟨rfl, Mf.cells_one _⟩
      have HBU : Hid (Tryd.prog.built 39 [] = some mfZ.cells.toArray) := built39z'
      have hq := eqMf10 (m := mfZ) rfl
      obtain ⟨CM, hCM⟩ : ∃ z, mfZ.cells = z := ⟨_, rfl⟩
      have HCM := hid hCM
      rw [hCM] at HDC HML HBU hq
      clear hD hCM
      go_upto_region 11 with (first
        | (go_at_call 23; refine Calls.mono HDC.out ?_; rintro e wC ⟨rfl, hbC⟩; have HSC := hid (bk_on HSB.out hbC); clear hbC)
        | (show wpList _ _ _ (Oper.mk none (.store 39 (.tmp 9) (.tmp 43)) _ _ _ _ :: _) _ _; refine (Row.new' wC _ mfZ.cells 39 _ rfl rfl).wpStore' 39 (.tmp 9) (.tmp 43) CM rfl rfl rfl rfl (by rw [HML.out.1]; rfl) HML.out.2 (by rw [HML.out.1]; exact I35.out) ?_; intro wD HZ))
      have HSD : Hid (Row wD wC.heap.size CM 39 ∧ Below w.heap.size w wD) := by
        show _ ∧ _
        rw [HZ.out]
        exact ⟨(Row.new wC mfZ.cells 39).row _, Go.below_setRow (HSC.out.2.trans ((nb_new wC _).mono HSC.out.2.size)) HSC.out.2.size _⟩
      generalize wC.heap.size = b9 at *
      clear HZ HSC HDC d0
      try simp only [Act.put]
      go_wp2_with (first
        | (show wpList _ _ _ (Oper.mk (some 47) (.load 39 (.tmp 9)) _ _ _ _ :: _) _ _; refine HSD.out.1.wpLoad 39 (.tmp 9) rfl rfl rfl _ Tryd.underlying39 rfl (by rw [HML.out.1]; exact I35.out) ?_)
        | (show wpList _ _ _ (Oper.mk (some 48) (.build 39 _) _ _ _ _ :: _) _ _; refine wpList_built rfl rfl ((congrArg (fun l => Tryd.prog.built 39 l) (by first | rfl | simp [Act.eval])).trans HBU.out) ?_))
      go_ret
      exact ⟨rfl, HSD.out.2⟩
end Go.Proofs.YtaklbofbhanjgaaDoor
