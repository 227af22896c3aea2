import Derived.Test.YtaklbofbhanjgaaDoorFl0
namespace Go.Proofs.YtaklbofbhanjgaaDoor
open Go.RowKit
set_option maxRecDepth 100000
set_option maxHeartbeats 2000000 in
theorem encode_no {m : Mf} {w : World} (hr : m.rt.length = 32) (hE : ¬ fitE m = 0) : Calls Tryd.prog 21 #[.agg m.cells.toArray] w fun e w' => e = .returned (.tuple #[.slice none 0 0, .int .i64 (fitE m)]) ∧ Below w.heap.size w w' := by
  have HFC : Hid (∀ w, Calls Tryd.prog 22 #[.agg m.cells.toArray] w fun e w' => e = .returned (.int .i64 (fitE m)) ∧ Below w.heap.size w w') := fun w => fit_any
  have HL : Hid (m.cells.length = 35) := Mf.cells_len hr
  have I35 := hid iMf
  generalize fitE m = E at *
  generalize m.cells = C at *
  have hE2 : (E != 0) = true := by simpa using hE
  clear hr hE
  go_enter Tryd.func21, Tryd.ntmps21
  go_upto_region 1 with (fail)
  refine wp_world fun wa HW => ?_
  have HBa : Hid (Below w.heap.size w wa) := by show Below _ _ _; rw [HW.out]; exact nb_new _ _
  have HR : Hid (Row wa w.heap.size C 39) := by show Row _ _ _ _; rw [HW.out]; exact Row.new' _ _ _ _ _ rfl rfl
  clear HW
  go_wp2_with (first
    | (show wpList _ _ _ (Oper.mk (some 6) (.load 39 (.tmp 1)) _ _ _ _ :: _) _ _; refine HR.out.wpLoad 39 (.tmp 1) rfl rfl rfl _ Tryd.underlying39 rfl (by rw [HL.out]; exact I35.out) ?_)
    | (go_at_call 22; refine Calls.mono (HFC.out _) ?_; rintro e w2 ⟨rfl, hb2⟩; have HB2 := hid hb2; clear hb2))
  go_ret2
  exact ⟨rfl, HBa.out.trans (HB2.out.mono HBa.out.size)⟩
def decV (o : Option Mf) : Value := match o with | some m => .tuple #[.agg m.cells.toArray, .int .i64 0] | none => .tuple #[.agg mfZ.cells.toArray, .int .i64 223]
theorem fld_32 {l : List (BitVec 8)} {k : Nat} (h : l.length = 49 + k) : (fldM l k).rt.length = 32 := by simp [fldM]; omega
structure DeS (w w3 : World) (b2 b4 : Nat) (Z C : List Value) : Prop where
  r2 : Row w3 b2 Z 39
  r4 : Row w3 b4 C 39
  bl : Below w.heap.size w w3
  ge : w.heap.size ≤ b2
theorem DeS.kept {w w3 w4 : World} {b2 b4 : Nat} {Z C : List Value} (h : DeS w w3 b2 b4 Z C) (hb : Below w3.heap.size w3 w4) : DeS w w4 b2 b4 Z C := ⟨h.r2.kept hb h.r2.lt, h.r4.kept hb h.r4.lt, h.bl.trans (hb.mono h.bl.size), h.ge⟩
set_option maxHeartbeats 8000000 in
theorem decode_any {w : World} {a : Option Addr} {c : Nat} {l : List (BitVec 8)} (hB : BytesAt w a l) (hc : l.length ≤ c) (hcm : c ≤ 9223372036854775807) (hT : CrcTab w) :
    Calls Tryd.prog 23 #[.slice a l.length c] w fun e w' => e = .returned (decV (decB l)) ∧ Below w.heap.size w w' := by
  have HB : Hid (BytesAt w a l) := hB
  have HT : Hid (CrcTab w) := hT
  have I35 := hid iMf
  have HZ1 : Hid (mfZ.cells.length = 35 ∧ ∀ x ∈ mfZ.cells, x.oneCell' = true) := ⟨rfl, Mf.cells_one _⟩
  have HBU : Hid (Tryd.prog.built 39 [] = some mfZ.cells.toArray) := built39z'
  obtain ⟨n, hn⟩ : ∃ n, l.length = n := ⟨_, rfl⟩
  have HCN : Hid (l.length = n ∧ n ≤ c ∧ c ≤ 9223372036854775807) := ⟨hn, by omega, hcm⟩
  rw [hn]
  obtain ⟨ZC, hZC⟩ : ∃ z, mfZ.cells = z := ⟨_, rfl⟩
  have HZC : Hid (mfZ.cells = ZC) := hZC
  by_cases h49 : n < 49
  · have HD : Hid (decB l = none) := by show _ = _; unfold decB; rw [if_pos (Or.inl (by omega))]
    have b1 : decide ((n : Int) < 49) = true := decide_eq_true (by omega)
    rw [hZC] at HZ1 HBU
    clear hB hT hc hcm hn
    go_enter Tryd.func23, Tryd.ntmps23
    go_upto_region 1 with (fail)
    refine wp_world fun wa HW => ?_
    have HR2 : Hid (Row wa w.heap.size ZC 39) := by show Row _ _ _ _; rw [HW.out, ← hZC]; exact Row.new' _ _ _ _ _ rfl rfl
    have HBa : Hid (Below w.heap.size w wa) := by show Below _ _ _; rw [HW.out]; exact nb_new _ _
    clear HW hZC
    go_wp2_with (first
      | (show wpList _ _ _ (Oper.mk (some 20) (.build 39 _) _ _ _ _ :: _) _ _; refine wpList_built rfl rfl ((congrArg (fun l => Tryd.prog.built 39 l) (by first | rfl | simp [Act.eval])).trans HBU.out) ?_)
      | (show wpList _ _ _ (Oper.mk none (.store 39 (.tmp 2) (.tmp 20)) _ _ _ _ :: _) _ _; refine HR2.out.wpStore' 39 (.tmp 2) (.tmp 20) ZC rfl rfl rfl rfl rfl HZ1.out.2 (by rw [HZ1.out.1]; exact I35.out) ?_; intro w3 HZ))
    exact bodyPost_ret (v := .tuple #[.agg ZC.toArray, .int .i64 223]) (Row.result2 (w := w3) (g := w.heap.size) (c := ZC) (t := 39) (by rw [HZ.out]; exact HR2.out.row _) Tryd.results23 _ rfl _ Tryd.underlying39 rfl (by rw [HZ1.out.1]; exact I35.out)) rfl ⟨by rw [HD.out]; unfold decV; rw [HZC.out], by rw [HZ.out]; exact Go.below_setRow HBa.out (Nat.le_refl _) _⟩
  have b1 : decide ((n : Int) < 49) = false := decide_eq_false (by omega)
  obtain ⟨g, o, rfl, hc4⟩ := hB 4 (by omega)
  obtain ⟨k, hk⟩ : ∃ k, (l.getD 4 0#8).toNat = k := ⟨_, rfl⟩
  have hk255 : k ≤ 255 := by have := (l.getD 4 0#8).isLt; omega
  have hl4 : ub (l[4]'(by omega)) = (k : Int) := by
    rw [List.getD_eq_getElem?_getD, List.getElem?_eq_getElem (by omega)] at hk
    unfold ub; exact_mod_cast hk
  rw [hl4] at hc4
  have q0 : (k : Int) ≤ 255 := by omega
  have q9 : (49 : Int) ≤ n := by omega
  by_cases hnk : n = 49 + k
  · have HD : Hid (decB l = if fitE (fldM l k) = 0 ∧ encB (fldM l k) = l then some (fldM l k) else none) := by show _ = _; unfold decB; rw [hk, if_neg (by omega)]
    have b2 : ((n : Int) != 49 + (k : Int)) = false := by simp; omega
    have HFl : Hid (∀ w', Below w.heap.size w w' → Calls Tryd.prog 50 #[.slice (some ⟨g, o, none⟩) n c] w' fun e w2 => e = .returned (.agg (fldM l k).cells.toArray) ∧ Below w'.heap.size w' w2) := fun w' hb => by
      have := fields_any (hB.kept hb) hc hcm hk255 (by omega) hk
      rwa [hn] at this
    have h32 : (fldM l k).rt.length = 32 := fld_32 (by omega)
    have HML : Hid ((fldM l k).cells.length = 35 ∧ ∀ x ∈ (fldM l k).cells, x.oneCell' = true) := ⟨Mf.cells_len (m := fldM l k) h32, Mf.cells_one (fldM l k)⟩
    have HEN : Hid (∀ w', ¬ fitE (fldM l k) = 0 → Calls Tryd.prog 21 #[.agg (fldM l k).cells.toArray] w' fun e w2 => e = .returned (.tuple #[.slice none 0 0, .int .i64 (fitE (fldM l k))]) ∧ Below w'.heap.size w' w2) := fun w' h => encode_no (m := fldM l k) h32 h
    have HEO : Hid (∀ w', Below w.heap.size w w' → fitE (fldM l k) = 0 → Calls Tryd.prog 21 #[.agg (fldM l k).cells.toArray] w' fun e w2 => ∃ a2 c2, e = .returned (.tuple #[.slice a2 (encB (fldM l k)).length c2, .int .i64 0]) ∧ BytesAt w2 a2 (encB (fldM l k)) ∧ Below w'.heap.size w' w2) := fun w' hb h => (encode_ok (m := fldM l k) h32 h (hT.kept hb)).mono fun e w2 ⟨v, h1, h2, h3⟩ => by
      obtain ⟨a2, c2, rfl, hb2, -⟩ := ownBy_shape h2
      exact ⟨a2, c2, h1, hb2, h3⟩
    generalize fldM l k = M at *
    generalize hCM : M.cells = CM at *
    have HCM : Hid (M.cells = CM) := hCM
    rw [hZC] at HZ1 HBU
    clear hB hT hc hcm hn hl4 hk h32 hCM hnk h49 hk255
    go_enter Tryd.func23, Tryd.ntmps23
    go_upto_region 1 with (fail)
    refine wp_world fun wa HW => ?_
    have HR2 : Hid (Row wa w.heap.size ZC 39) := by show Row _ _ _ _; rw [HW.out, ← hZC]; exact Row.new' _ _ _ _ _ rfl rfl
    have HBa : Hid (Below w.heap.size w wa) := by show Below _ _ _; rw [HW.out]; exact nb_new _ _
    clear HW hZC
    obtain ⟨b2', eb2⟩ : ∃ b, w.heap.size = b := ⟨_, rfl⟩
    have HB2 : Hid (w.heap.size = b2') := eb2
    rw [eb2] at HR2 ⊢
    clear eb2
    have d4 := cell_kept HBa.out hc4
    clear hc4
    go_upto_region 4 with (first
      | (go_at_call 50; refine Calls.mono (HFl.out _ HBa.out) ?_; rintro e w2 ⟨rfl, hb2⟩; have HS2 : Hid (Row w2 b2' ZC 39 ∧ Below w.heap.size w w2) := ⟨HR2.out.kept hb2 HR2.out.lt, HBa.out.trans (hb2.mono HBa.out.size)⟩; clear hb2)
      | (show wpList _ _ _ (Oper.mk none (.store 39 (.tmp 4) (.tmp 22)) _ _ _ _ :: _) _ _; refine (Row.new' w2 _ mfZ.cells 39 _ rfl rfl).wpStore' 39 (.tmp 4) (.tmp 22) CM rfl rfl rfl rfl (by rw [HML.out.1]; rfl) HML.out.2 (by rw [HML.out.1]; exact I35.out) ?_; intro w3 HZ))
    have HS3 : Hid (DeS w w3 b2' w2.heap.size ZC CM) := by
      show DeS _ _ _ _ _ _
      rw [HZ.out]
      have hlt := HS2.out.1.lt
      have hbb := HB2.out
      exact ⟨(HS2.out.1.alloc _).rowOther (by omega) _, (Row.new w2 mfZ.cells 39).row _, Go.below_setRow (HS2.out.2.trans ((nb_new w2 _).mono HS2.out.2.size)) HS2.out.2.size _, by omega⟩
    generalize w2.heap.size = b4 at *
    clear HZ HS2 HR2 HBa HFl d4
    simp only [Act.put]
    by_cases hE : fitE M = 0
    · by_cases hQ : encB M = l
      · have HDD : Hid (decB l = some M) := by show _ = _; rw [HD.out, if_pos ⟨hE, hQ⟩]
        have HE := hid hE
        have HQE := hid hQ
        clear hE hQ
        go_wp2_with (first
          | (show wpList _ _ _ (Oper.mk (some 24) (.load 39 (.tmp 4)) _ _ _ _ :: _) _ _; refine HS3.out.r4.wpLoad 39 (.tmp 4) rfl rfl rfl _ Tryd.underlying39 rfl (by rw [HML.out.1]; exact I35.out) ?_)
          | (go_at_call 21; refine Calls.mono (HEO.out _ HS3.out.bl HE.out) ?_; rintro e w4 ⟨a2, c2, rfl, hb2, hbl⟩; have HS4 := hid (HS3.out.kept hbl); have HQ := hid (equal_any (c := c2) (c' := c) hb2 rfl (HB.out.kept HS4.out.bl) HCN.out.1); clear hb2 hbl)
          | (go_at_call 51; refine Calls.mono HQ.out ?_; rintro e w5 ⟨rfl, rfl⟩; rw [decide_eq_true HQE.out])
          | (show wpList _ _ _ (Oper.mk (some 37) (.load 39 (.tmp 4)) _ _ _ _ :: _) _ _; refine HS4.out.r4.wpLoad 39 (.tmp 4) rfl rfl rfl _ Tryd.underlying39 rfl (by rw [HML.out.1]; exact I35.out) ?_)
          | (show wpList _ _ _ (Oper.mk none (.store 39 (.tmp 2) (.tmp 37)) _ _ _ _ :: _) _ _; refine HS4.out.r2.wpStore' 39 (.tmp 2) (.tmp 37) CM rfl rfl rfl rfl (by rw [HML.out.1, HZ1.out.1]) HML.out.2 (by rw [HML.out.1]; exact I35.out) ?_; intro w6 HZ))
        exact bodyPost_ret (v := .tuple #[.agg CM.toArray, .int .i64 0]) (Row.result2 (w := w6) (g := b2') (c := CM) (t := 39) (by rw [HZ.out]; exact HS4.out.r2.row _) Tryd.results23 _ rfl _ Tryd.underlying39 rfl (by rw [HML.out.1]; exact I35.out)) rfl ⟨by rw [HDD.out]; unfold decV; rw [← HCM.out], by rw [HZ.out]; exact Go.below_setRow HS4.out.bl HS4.out.ge _⟩
      · have HDD : Hid (decB l = none) := by show _ = _; rw [HD.out, if_neg (fun h => hQ h.2)]
        have HE := hid hE
        have HQE := hid hQ
        clear hE hQ
        go_wp2_with (first
          | (show wpList _ _ _ (Oper.mk (some 24) (.load 39 (.tmp 4)) _ _ _ _ :: _) _ _; refine HS3.out.r4.wpLoad 39 (.tmp 4) rfl rfl rfl _ Tryd.underlying39 rfl (by rw [HML.out.1]; exact I35.out) ?_)
          | (go_at_call 21; refine Calls.mono (HEO.out _ HS3.out.bl HE.out) ?_; rintro e w4 ⟨a2, c2, rfl, hb2, hbl⟩; have HS4 := hid (HS3.out.kept hbl); have HQ := hid (equal_any (c := c2) (c' := c) hb2 rfl (HB.out.kept HS4.out.bl) HCN.out.1); clear hb2 hbl)
          | (go_at_call 51; refine Calls.mono HQ.out ?_; rintro e w5 ⟨rfl, rfl⟩; rw [decide_eq_false HQE.out])
          | (show wpList _ _ _ (Oper.mk (some 36) (.build 39 _) _ _ _ _ :: _) _ _; refine wpList_built rfl rfl ((congrArg (fun l => Tryd.prog.built 39 l) (by first | rfl | simp [Act.eval])).trans HBU.out) ?_)
          | (show wpList _ _ _ (Oper.mk none (.store 39 (.tmp 2) (.tmp 36)) _ _ _ _ :: _) _ _; refine HS4.out.r2.wpStore' 39 (.tmp 2) (.tmp 36) ZC rfl rfl rfl rfl rfl HZ1.out.2 (by rw [HZ1.out.1]; exact I35.out) ?_; intro w6 HZ))
        exact bodyPost_ret (v := .tuple #[.agg ZC.toArray, .int .i64 223]) (Row.result2 (w := w6) (g := b2') (c := ZC) (t := 39) (by rw [HZ.out]; exact HS4.out.r2.row _) Tryd.results23 _ rfl _ Tryd.underlying39 rfl (by rw [HZ1.out.1]; exact I35.out)) rfl ⟨by rw [HDD.out]; unfold decV; rw [HZC.out], by rw [HZ.out]; exact Go.below_setRow HS4.out.bl HS4.out.ge _⟩
    · have HDD : Hid (decB l = none) := by show _ = _; rw [HD.out, if_neg (fun h => hE h.1)]
      have HNE : Hid (¬ fitE M = 0) := hE
      have hE2 : (fitE M != 0) = true := by simpa using hE
      generalize fitE M = E at *
      clear hE
      go_wp2_with (first
        | (show wpList _ _ _ (Oper.mk (some 24) (.load 39 (.tmp 4)) _ _ _ _ :: _) _ _; refine HS3.out.r4.wpLoad 39 (.tmp 4) rfl rfl rfl _ Tryd.underlying39 rfl (by rw [HML.out.1]; exact I35.out) ?_)
        | (go_at_call 21; refine Calls.mono (HEN.out _ HNE.out) ?_; rintro e w4 ⟨rfl, hbl⟩; have HS4 := hid (HS3.out.kept hbl); clear hbl)
        | (show wpList _ _ _ (Oper.mk (some 36) (.build 39 _) _ _ _ _ :: _) _ _; refine wpList_built rfl rfl ((congrArg (fun l => Tryd.prog.built 39 l) (by first | rfl | simp [Act.eval])).trans HBU.out) ?_)
        | (show wpList _ _ _ (Oper.mk none (.store 39 (.tmp 2) (.tmp 36)) _ _ _ _ :: _) _ _; refine HS4.out.r2.wpStore' 39 (.tmp 2) (.tmp 36) ZC rfl rfl rfl rfl rfl HZ1.out.2 (by rw [HZ1.out.1]; exact I35.out) ?_; intro w6 HZ))
      exact bodyPost_ret (v := .tuple #[.agg ZC.toArray, .int .i64 223]) (Row.result2 (w := w6) (g := b2') (c := ZC) (t := 39) (by rw [HZ.out]; exact HS4.out.r2.row _) Tryd.results23 _ rfl _ Tryd.underlying39 rfl (by rw [HZ1.out.1]; exact I35.out)) rfl ⟨by rw [HDD.out]; unfold decV; rw [HZC.out], by rw [HZ.out]; exact Go.below_setRow HS4.out.bl HS4.out.ge _⟩
  · have HD : Hid (decB l = none) := by show _ = _; unfold decB; rw [hk, if_pos (Or.inr (by omega))]
    have b2 : ((n : Int) != 49 + (k : Int)) = true := by simp; omega
    rw [hZC] at HZ1 HBU
    clear hB hT hc hcm hn hl4 hk
    go_enter Tryd.func23, Tryd.ntmps23
    go_upto_region 1 with (fail)
    refine wp_world fun wa HW => ?_
    have HR2 : Hid (Row wa w.heap.size ZC 39) := by show Row _ _ _ _; rw [HW.out, ← hZC]; exact Row.new' _ _ _ _ _ rfl rfl
    have HBa : Hid (Below w.heap.size w wa) := by show Below _ _ _; rw [HW.out]; exact nb_new _ _
    clear HW hZC
    have d4 := cell_kept HBa.out hc4
    clear hc4
    go_wp2_with (first
      | (show wpList _ _ _ (Oper.mk (some 20) (.build 39 _) _ _ _ _ :: _) _ _; refine wpList_built rfl rfl ((congrArg (fun l => Tryd.prog.built 39 l) (by first | rfl | simp [Act.eval])).trans HBU.out) ?_)
      | (show wpList _ _ _ (Oper.mk none (.store 39 (.tmp 2) (.tmp 20)) _ _ _ _ :: _) _ _; refine HR2.out.wpStore' 39 (.tmp 2) (.tmp 20) ZC rfl rfl rfl rfl rfl HZ1.out.2 (by rw [HZ1.out.1]; exact I35.out) ?_; intro w3 HZ))
    exact bodyPost_ret (v := .tuple #[.agg ZC.toArray, .int .i64 223]) (Row.result2 (w := w3) (g := w.heap.size) (c := ZC) (t := 39) (by rw [HZ.out]; exact HR2.out.row _) Tryd.results23 _ rfl _ Tryd.underlying39 rfl (by rw [HZ1.out.1]; exact I35.out)) rfl ⟨by rw [HD.out]; unfold decV; rw [HZC.out], by rw [HZ.out]; exact Go.below_setRow HBa.out (Nat.le_refl _) _⟩
end Go.Proofs.YtaklbofbhanjgaaDoor
