import Derived.Test.YtgkfnbbgohdalaaDoorCuts0
namespace Go.Proofs.YtgkfnbbgohdalaaDoor
open Go.RowKit
set_option maxRecDepth 100000

open Classical in
set_option maxHeartbeats 2000000 in
theorem cuts_unfit {w : World} {c : List Value} {f : Fr} {da ra ma : Option Addr} {dc rc mc : Nat} (h : FrAt w c f da dc ra rc ma mc) (hf : ¬fit f) (hT : CrcTab w) (hS : SizesTab w) (h2 : 2 ≤ w.heap.size) (z : Int) (mv : Value) :
    Calls Tryd.prog 7 #[.agg c.toArray, .int .i64 z, mv] w fun e w' => e = .returned (.bool true) ∧ Below w.heap.size w w' := by
  have HF : Hid (FrAt w c f da dc ra rc ma mc) := h
  have HP : Hid (∀ W, Below w.heap.size w W → Calls Tryd.prog 9 #[] W fun e w' => e = .returned (.bool true) ∧ Below W.heap.size W w') := fun W hb => probe_any (hT.kept hb) (hS.kept hb) (Nat.le_trans h2 hb.size)
  have HE : Hid (∀ W, Below w.heap.size w W → Calls Tryd.prog 10 #[.agg c.toArray] W fun e w' => ∃ er : Int, er ≠ 0 ∧ e = .returned (.tuple #[.slice none 0 0, .int .i64 er]) ∧ Below W.heap.size W w') := fun W hb => enc_bad (HF.out.kept hb) hf
  have HR : Hid (∀ W, Below w.heap.size w W → Calls Tryd.prog 11 #[.agg c.toArray] W fun e w' => e = .returned (.bool false) ∧ Below W.heap.size W w') := fun W hb => by
    have := rfit_any (HF.out.kept hb); rw [decide_eq_false hf] at this; exact this
  obtain ⟨rfl, _⟩ := h
  clear hf hT hS h2
  go_enter Tryd.func7, Tryd.ntmps7
  go_upto_region 1 with (fail)
  refine wp_world fun W0 HWE => ?_
  have HQ0 : Hid (Row W0 w.heap.size (fcells f (.slice da f.data.length dc) (.slice ra f.ranges.length rc) (.slice ma f.mac.length mc)) 27) := by show Row _ _ _ _; rw [HWE.out]; exact Row.new' _ _ _ _ _ rfl rfl
  have HB0 : Hid (Below w.heap.size w W0) := by show Below _ _ _; rw [HWE.out]; exact (Below.refl _ _).alloc (Nat.le_refl _) _
  clear HWE
  go_wp2_with (first
    | (go_at_call 9; refine (HP.out _ HB0.out).mono ?_; rintro e w1 ⟨rfl, hb⟩; have HB1 : Hid _ := HB0.out.trans (hb.mono HB0.out.size); have HQ1 : Hid _ := HQ0.out.kept hb HQ0.out.lt; clear hb)
    | (show wpList _ _ _ (Oper.mk (some 17) (.load 27 (.tmp 3)) _ _ _ _ :: _) _ _; refine HQ1.out.wpLoad 27 (.tmp 3) rfl rfl rfl _ Tryd.underlying27 rfl i27 ?_)
    | (go_at_call 10; refine (HE.out _ HB1.out).mono ?_; rintro e w2 ⟨er, her, rfl, hb⟩; have HB2 : Hid _ := HB1.out.trans (hb.mono HB1.out.size); have HQ2 : Hid _ := HQ1.out.kept hb HQ1.out.lt; have e1 : (er != 0) = true := bne_iff_ne.2 her; clear hb)
    | (show wpList _ _ _ (Oper.mk (some 21) (.load 27 (.tmp 3)) _ _ _ _ :: _) _ _; refine HQ2.out.wpLoad 27 (.tmp 3) rfl rfl rfl _ Tryd.underlying27 rfl i27 ?_)
    | (go_at_call 11; refine (HR.out _ HB2.out).mono ?_; rintro e w3 ⟨rfl, hb⟩; have HB3 : Hid _ := HB2.out.trans (hb.mono HB2.out.size); clear hb))
  go_ret
  exact ⟨by first | rfl | (rw [e1]; rfl), HB3.out⟩

open Classical in
set_option maxHeartbeats 2000000 in
theorem cuts_fit {w : World} {c : List Value} {f : Fr} {da ra ma : Option Addr} {dc rc mc : Nat} (h : FrAt w c f da dc ra rc ma mc) (hf : fit f) (hT : CrcTab w) (hS : SizesTab w) (h2 : 2 ≤ w.heap.size) (z : Int)
    {am : Option Addr} {lm cm : Nat} {ms : List (BitVec 8)} (hM : BytesAt w am ms) (hml : ms.length = lm) (hmb : lm ≤ 1048576) (hmn : am = none → lm = 0 ∧ cm = 0) :
    Calls Tryd.prog 7 #[.agg c.toArray, .int .i64 z, .slice am lm cm] w fun e w' => e = .returned (.bool true) ∧ Below w.heap.size w w' := by
  have HF : Hid (FrAt w c f da dc ra rc ma mc) := h
  have HP : Hid (∀ W, Below w.heap.size w W → Calls Tryd.prog 9 #[] W fun e w' => e = .returned (.bool true) ∧ Below W.heap.size W w') := fun W hb => probe_any (hT.kept hb) (hS.kept hb) (Nat.le_trans h2 hb.size)
  have HE : Hid (∀ W, Below w.heap.size w W → Calls Tryd.prog 10 #[.agg c.toArray] W (EncGives W f)) := fun W hb => enc_ok (HF.out.kept hb) hf (hT.kept hb) (hS.kept hb) (Nat.le_trans h2 hb.size)
  have HR : Hid (∀ W, Below w.heap.size w W → Calls Tryd.prog 11 #[.agg c.toArray] W fun e w' => e = .returned (.bool true) ∧ Below W.heap.size W w') := fun W hb => by
    have := rfit_any (HF.out.kept hb); rw [decide_eq_true hf] at this; exact this
  have HD : Hid (∀ W a m k bs, Below w.heap.size w W → BytesAt W a bs → bs.length = m → m ≤ k → Calls Tryd.prog 15 #[.slice a m k] W (DecGives W bs (decE bs))) := fun W a m k bs hb hB hl hc => decode_any hB hl hc (hT.kept hb) (hS.kept hb)
  have HPX : Hid (∀ k, k < (enc f).length → decE ((enc f).take k) ≠ 0) := fun k hk => decE_prefix hf h.nums hk
  have HMX : Hid (∀ m, m ≠ [] → decE (enc f ++ m) ≠ 0) := fun m hm => decE_more hf h.nums hm
  have hz := sizeF_bd hf
  have hl := enc_len hf
  obtain ⟨n, hn⟩ : ∃ n, n = (enc f).length := ⟨_, rfl⟩
  have n1 : (n : Int) ≤ 1048 := by omega
  have n2 : (7 : Int) ≤ (n : Int) := by omega
  have n0 : (0 : Int) < (n : Int) := by omega
  have n3 : ¬ ((n : Int) = 0) := by omega
  have n4 : ((n : Int) == 0) = false := by rw [beq_eq_false_iff_ne]; exact n3
  have n5 : IntKind.u64.wrap (n : Int) = (n : Int) := by rw [IntKind.wrap_u64]; omega
  obtain ⟨A, hA, hAl⟩ : ∃ A : Nat, IntKind.u64.wrap z % (n : Int) = (A : Int) ∧ A < n := by
    have h1 := Int.emod_nonneg (IntKind.u64.wrap z) (show (n : Int) ≠ 0 by omega)
    have h2 := Int.emod_lt_of_pos (IntKind.u64.wrap z) n0
    exact ⟨(IntKind.u64.wrap z % (n : Int)).toNat, by omega, by omega⟩
  have hA' : z % 18446744073709551616 % (n : Int) = (A : Int) := by rw [← IntKind.wrap_u64]; exact hA
  have hAt : (IntKind.u64.wrap z).tmod (n : Int) = (A : Int) := by
    rw [Int.tmod_eq_emod_of_nonneg (by rw [IntKind.wrap_u64]; omega)]; exact hA
  have hAw : IntKind.i64.wrap (A : Int) = (A : Int) := by unfold IntKind.wrap; simp [IntKind.bits, IntKind.signed]; omega
  have hAi : (A : Int) ≤ (n : Int) := by omega
  have HAL : Hid (A < n) := hAl
  have HN : Hid (n = (enc f).length) := hn
  have HNB : Hid (n ≤ 1048) := by show n ≤ 1048; omega
  have HM : Hid (BytesAt w am ms) := hM
  have HML : Hid _ := hml
  have HMB : Hid _ := hmb
  have HMN : Hid _ := hmn
  obtain ⟨rfl, _⟩ := h
  clear hf hT hS h2 hz hl hn hAl hM hml hmb hmn
  go_enter Tryd.func7, Tryd.ntmps7
  go_upto_region 1 with (fail)
  refine wp_world fun W0 HWE => ?_
  have HQ0 : Hid (Row W0 w.heap.size (fcells f (.slice da f.data.length dc) (.slice ra f.ranges.length rc) (.slice ma f.mac.length mc)) 27) := by show Row _ _ _ _; rw [HWE.out]; exact Row.new' _ _ _ _ _ rfl rfl
  have HB0 : Hid (Below w.heap.size w W0) := by show Below _ _ _; rw [HWE.out]; exact (Below.refl _ _).alloc (Nat.le_refl _) _
  clear HWE
  go_upto_region 8 with (first
    | (go_at_call 9; refine (HP.out _ HB0.out).mono ?_; rintro e w1 ⟨rfl, hb⟩; have HB1 : Hid _ := HB0.out.trans (hb.mono HB0.out.size); have HQ1 : Hid _ := HQ0.out.kept hb HQ0.out.lt; clear hb)
    | (show wpList _ _ _ (Oper.mk (some 17) (.load 27 (.tmp 3)) _ _ _ _ :: _) _ _; refine HQ1.out.wpLoad 27 (.tmp 3) rfl rfl rfl _ Tryd.underlying27 rfl i27 ?_)
    | (go_at_call 10; refine (HE.out _ HB1.out).mono ?_; rintro e w2 ⟨g, rfl, hg, hR, hb⟩; rw [← HN.out]; have HB2 : Hid _ := HB1.out.trans (hb.mono HB1.out.size); have HQ2 : Hid _ := HQ1.out.kept hb HQ1.out.lt; have HR2 : Hid (Row w2 g (bcells (enc f)) 5) := hR; clear hb hR hg)
    | (show wpList _ _ _ (Oper.mk (some 21) (.load 27 (.tmp 3)) _ _ _ _ :: _) _ _; refine HQ2.out.wpLoad 27 (.tmp 3) rfl rfl rfl _ Tryd.underlying27 rfl i27 ?_)
    | (go_at_call 11; refine (HR.out _ HB2.out).mono ?_; rintro e w3 ⟨rfl, hb⟩; have HB3 : Hid (Below w.heap.size w w3) := HB2.out.trans (hb.mono HB2.out.size); have HR3 : Hid (Row w3 g (bcells (enc f)) 5) := HR2.out.kept hb HR2.out.lt; clear hb))
  clear HB0 HQ0 HB1 HQ1 HB2 HQ2 HR2 HP HE HR
  have HD1 : Hid _ := HD.out w3 (some ⟨g, 0, none⟩) A n ((enc f).take A) HB3.out (by have := HR3.out.bytes; intro k hk; rw [List.length_take] at hk; obtain ⟨g2, o2, e2, c2⟩ := this k (by omega); exact ⟨g2, o2, e2, by rw [List.getElem_take]; exact c2⟩) (by rw [List.length_take, ← HN.out]; have := HAL.out; omega) (by have := HAL.out; omega)
  have HE1 : Hid (decE ((enc f).take A) ≠ 0) := HPX.out A (by rw [← HN.out]; exact HAL.out)
  generalize decE ((enc f).take A) = er1 at *
  have e1 : (er1 != 0) = true := bne_iff_ne.2 HE1.out
  have e1' : ¬ er1 = 0 := HE1.out
  go_upto_region 9 with (first
    | (go_at_call 15; refine Calls.mono HD1.out ?_; rintro e w4 ⟨da', dc', ra', rc', ma', mc', c', rfl, hfr, hb, hf1, hf2, hf3⟩; rw [if_neg e1'] at hfr; have HFR : Hid (FrAt w4 c' Fr.zero da' dc' ra' rc' ma' mc') := hfr; have HB34 : Hid (Below w3.heap.size w3 w4) := hb; clear hfr hb hf1 hf2 hf3)
    | (show wpList _ _ _ (Oper.mk none (.store 27 (.tmp 9) (.tmp 44)) _ _ _ _ :: _) _ _; refine (Row.new' w4 _ (fcells Fr.zero (.slice none 0 0) (.slice none 0 0) (.slice none 0 0)) 27 _ rfl rfl).wpStore' 27 (.tmp 9) (.tmp 44) c' rfl rfl rfl rfl (by rw [HFR.out.cells]; rfl) (by rw [HFR.out.cells]; exact fcells_one _ _ _ _ _ _ _ _ _ _) (by rw [HFR.out.cells]; exact i27) ?_; intro w5 HW))
  have HB45 : Hid (Below w3.heap.size w3 w5) := by show Below _ _ _; rw [HW.out]; exact Go.below_setRow (HB34.out.alloc HB34.out.size _) HB34.out.size _
  have HB5 : Hid (Below w.heap.size w w5) := HB3.out.trans (HB45.out.mono HB3.out.size)
  have HR5 : Hid (Row w5 g (bcells (enc f)) 5) := HR3.out.kept HB45.out HR3.out.lt
  have HM5 : Hid (BytesAt w5 am ms) := HM.out.kept HB5.out
  clear HW HFR HB34 HB45 HR3 HB3 HD1
  have HCP : Hid _ := copy_any (cap := n) HR5.out.bytes HN.out.symm (by have := HNB.out; omega)
  cases am with
  | none =>
    obtain ⟨rfl, rfl⟩ := HMN.out rfl
    go_upto_region 10 with (first
      | (go_at_call 16; refine Calls.mono HCP.out ?_; rintro e w7 ⟨v6, rfl, hO, hb⟩; have HO7 : Hid (w7.ownsRow w5.heap.size 5 1 v6 n (bcells (enc f))) := hO; have HB57 : Hid (Below w5.heap.size w5 w7) := hb; obtain ⟨a6, cap6, hv6, hB6, hnc6⟩ := owned_cap hO HN.out.symm; subst hv6; have HNC6 : Hid _ := hnc6; clear hO hb hB6 hnc6)
      | (at_builtin; refine wpAppendNone (.tmp 47) (.tmp 48) rfl rfl rfl HNC6.out rfl ?_))
    have HE2 : Hid (decE (enc f ++ [1#8]) ≠ 0) := HMX.out _ (by simp)
    have HDT : Hid (∀ W a m k, Below w.heap.size w W → BytesAt W a (enc f ++ [1#8]) → (enc f ++ [1#8]).length = m → m ≤ k → Calls Tryd.prog 15 #[.slice a m k] W (DecGives W (enc f ++ [1#8]) (decE (enc f ++ [1#8])))) := fun W a m k hb hB hl hc => HD.out W a m k _ hb hB hl hc
    obtain ⟨er2, her2⟩ : ∃ er2, er2 = decE (enc f ++ [1#8]) := ⟨_, rfl⟩
    rw [← her2] at HE2 HDT
    have e2 : (er2 != 0) = true := bne_iff_ne.2 HE2.out
    have e2' : ¬ er2 = 0 := HE2.out
    clear her2
    go_upto_region 11 with (first
      | (at_builtin; refine wpAppendA (.tmp 51) (.tmp 52) rfl rfl (base := w5.heap.size) (k := n) (old := enc f) rfl (World.ownsRow.alloc HO7.out _) (Nat.le_trans HB57.out.size (by rw [World.size_alloc]; exact Nat.le_succ _)) (owned_block HO7.out) (bs := [1#8]) rfl rfl ((Row.new _ (bcells [1#8]) 5).bytes) (by have h1 := HNB.out; have h2 := HMB.out; omega) ?_; intro w8 v8 hO8 hb8; obtain ⟨a8, cap8, hv8, hB8, hnc8⟩ := owned_cap hO8.out (by rw [List.length_append, ← HN.out]; rfl); subst hv8; have HB8 : Hid (BytesAt w8 a8 (enc f ++ [1#8])) := (by have := hB8; exact this); have HNC8 : Hid _ := hnc8; have HB58 : Hid (Below w5.heap.size w5 w8) := HB57.out.trans ((((Below.refl _ _).alloc HB57.out.size _)).trans hb8.out); clear hB8 hnc8)
      | (go_at_call 15; refine (HDT.out _ _ _ _ (HB5.out.trans (HB58.out.mono HB5.out.size)) HB8.out (by rw [List.length_append, ← HN.out]; rfl) HNC8.out).mono ?_; rintro e w9 ⟨da2, dc2, ra2, rc2, ma2, mc2, c2, rfl, hfr, hb, hf1, hf2, hf3⟩; rw [if_neg e2'] at hfr; have HFR2 : Hid (FrAt w9 c2 Fr.zero da2 dc2 ra2 rc2 ma2 mc2) := hfr; have HB89 : Hid (Below w8.heap.size w8 w9) := hb; clear hfr hb hf1 hf2 hf3)
      | (show wpList _ _ _ (Oper.mk none (.store 27 (.tmp 12) (.tmp 55)) _ _ _ _ :: _) _ _; refine (Row.new' w9 _ (fcells Fr.zero (.slice none 0 0) (.slice none 0 0) (.slice none 0 0)) 27 _ rfl rfl).wpStore' 27 (.tmp 12) (.tmp 55) c2 rfl rfl rfl rfl (by rw [HFR2.out.cells]; rfl) (by rw [HFR2.out.cells]; exact fcells_one _ _ _ _ _ _ _ _ _ _) (by rw [HFR2.out.cells]; exact i27) ?_; intro w10 HW))
    have HBf : Hid (Below w5.heap.size w5 w10) := by show Below _ _ _; rw [HW.out]; exact HB58.out.trans ((Go.below_setRow (HB89.out.alloc HB89.out.size _) HB89.out.size _).mono HB58.out.size)
    clear HW
    go_wp2
    go_ret
    exact ⟨by first | rfl | simp, HB5.out.trans (HBf.out.mono HB5.out.size)⟩
  | some ad =>
    go_upto_region 10 with (first
      | (go_at_call 16; refine Calls.mono HCP.out ?_; rintro e w6 ⟨v6, rfl, hO, hb⟩; have HO6 : Hid (w6.ownsRow w5.heap.size 5 1 v6 n (bcells (enc f))) := hO; have HB56 : Hid (Below w5.heap.size w5 w6) := hb; clear hO hb)
      | (at_builtin; refine wpAppendA (.tmp 47) (.tmp 48) rfl rfl (base := w5.heap.size) (k := n) (old := enc f) rfl HO6.out HB56.out.size (owned_block HO6.out) (bs := ms) rfl HML.out (HM5.out.kept HB56.out) (by have h1 := HNB.out; have h2 := HMB.out; omega) ?_; intro w7 v7 hO7 hb7; have HO7 : Hid (w7.ownsRow w5.heap.size 5 1 v7 (n + lm) (bcells (enc f ++ ms))) := hO7.out; have HB57 : Hid (Below w5.heap.size w5 w7) := HB56.out.trans hb7.out; clear hO7 hb7))
    have HE2 : Hid (decE (enc f ++ (ms ++ [1#8])) ≠ 0) := HMX.out _ (by simp)
    have HDT : Hid (∀ W a m k, Below w.heap.size w W → BytesAt W a (enc f ++ (ms ++ [1#8])) → (enc f ++ (ms ++ [1#8])).length = m → m ≤ k → Calls Tryd.prog 15 #[.slice a m k] W (DecGives W (enc f ++ (ms ++ [1#8])) (decE (enc f ++ (ms ++ [1#8]))))) := fun W a m k hb hB hl hc => HD.out W a m k _ hb hB hl hc
    obtain ⟨er2, her2⟩ : ∃ er2, er2 = decE (enc f ++ (ms ++ [1#8])) := ⟨_, rfl⟩
    rw [← her2] at HE2 HDT
    have e2 : (er2 != 0) = true := bne_iff_ne.2 HE2.out
    have e2' : ¬ er2 = 0 := HE2.out
    clear her2
    go_upto_region 11 with (first
      | (at_builtin; refine wpAppendA (.tmp 51) (.tmp 52) rfl rfl (base := w5.heap.size) (k := (n + lm)) (old := enc f ++ ms) rfl (World.ownsRow.alloc HO7.out _) (Nat.le_trans HB57.out.size (by rw [World.size_alloc]; exact Nat.le_succ _)) (owned_block HO7.out) (bs := [1#8]) rfl rfl ((Row.new _ (bcells [1#8]) 5).bytes) (by have h1 := HNB.out; have h2 := HMB.out; omega) ?_; intro w8 v8 hO8 hb8; obtain ⟨a8, cap8, hv8, hB8, hnc8⟩ := owned_cap hO8.out (by rw [List.length_append, List.length_append, ← HN.out, HML.out]; rfl); subst hv8; have HB8 : Hid (BytesAt w8 a8 (enc f ++ (ms ++ [1#8]))) := (by have := hB8; rw [List.append_assoc] at this; exact this); have HNC8 : Hid _ := hnc8; have HB58 : Hid (Below w5.heap.size w5 w8) := HB57.out.trans ((((Below.refl _ _).alloc HB57.out.size _)).trans hb8.out); clear hB8 hnc8)
      | (go_at_call 15; refine (HDT.out _ _ _ _ (HB5.out.trans (HB58.out.mono HB5.out.size)) HB8.out (by rw [List.length_append, List.length_append, ← HN.out, HML.out]; simp; omega) HNC8.out).mono ?_; rintro e w9 ⟨da2, dc2, ra2, rc2, ma2, mc2, c2, rfl, hfr, hb, hf1, hf2, hf3⟩; rw [if_neg e2'] at hfr; have HFR2 : Hid (FrAt w9 c2 Fr.zero da2 dc2 ra2 rc2 ma2 mc2) := hfr; have HB89 : Hid (Below w8.heap.size w8 w9) := hb; clear hfr hb hf1 hf2 hf3)
      | (show wpList _ _ _ (Oper.mk none (.store 27 (.tmp 12) (.tmp 55)) _ _ _ _ :: _) _ _; refine (Row.new' w9 _ (fcells Fr.zero (.slice none 0 0) (.slice none 0 0) (.slice none 0 0)) 27 _ rfl rfl).wpStore' 27 (.tmp 12) (.tmp 55) c2 rfl rfl rfl rfl (by rw [HFR2.out.cells]; rfl) (by rw [HFR2.out.cells]; exact fcells_one _ _ _ _ _ _ _ _ _ _) (by rw [HFR2.out.cells]; exact i27) ?_; intro w10 HW))
    have HBf : Hid (Below w5.heap.size w5 w10) := by show Below _ _ _; rw [HW.out]; exact HB58.out.trans ((Go.below_setRow (HB89.out.alloc HB89.out.size _) HB89.out.size _).mono HB58.out.size)
    clear HW
    go_wp2
    go_ret
    exact ⟨by first | rfl | simp, HB5.out.trans (HBf.out.mono HB5.out.size)⟩

theorem cuts_law {w : World} {c : List Value} {f : Fr} {da ra ma : Option Addr} {dc rc mc : Nat} (h : FrAt w c f da dc ra rc ma mc) (hT : CrcTab w) (hS : SizesTab w) (h2 : 2 ≤ w.heap.size) (z : Int)
    {am : Option Addr} {lm cm : Nat} {ms : List (BitVec 8)} (hM : BytesAt w am ms) (hml : ms.length = lm) (hmb : lm ≤ 1048576) (hmn : am = none → lm = 0 ∧ cm = 0) :
    Calls Tryd.prog 7 #[.agg c.toArray, .int .i64 z, .slice am lm cm] w fun e w' => e = .returned (.bool true) ∧ Below w.heap.size w w' := by
  by_cases hf : fit f
  · exact cuts_fit h hf hT hS h2 z hM hml hmb hmn
  · exact cuts_unfit h hf hT hS h2 z _
end Go.Proofs.YtgkfnbbgohdalaaDoor
