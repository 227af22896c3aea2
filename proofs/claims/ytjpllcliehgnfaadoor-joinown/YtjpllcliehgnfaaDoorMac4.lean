import Derived.Test.YtjpllcliehgnfaaDoorMac3
namespace Go.Proofs.YtjpllcliehgnfaaDoor
open Go.RowKit
set_option maxRecDepth 100000

/-- The long sum of a text with a key. -/
def macL (k c : List (BitVec 8)) : List (BitVec 8) := sha (maskL (keyL k) 92#8 ++ sha (maskL (keyL k) 54#8 ++ c))
theorem maskL_len (b : List (BitVec 8)) (m : BitVec 8) : (maskL b m).length = b.length := by simp [maskL]
/-- The frame while the two blocks are made. -/
def frM (k p r kb K v6 v7 v14 v15 v16 v17 : Value) : Act := { tmps := #[k, p, undef, undef, r, kb, v6, v7, undef, undef, undef, undef, k, K, v14, v15, v16, v17, undef, undef, undef, undef, undef, undef, undef, undef, undef, undef, undef, undef, undef, undef, undef, undef, undef], defers := [] }
/-- What has come up of the eight operations, and what lies. -/
def MI (w0 : World) (K : Value) (I O : List (BitVec 8)) (F : Value → Value → Value → Value → Value → Value → Act) (l : List Bool) (a : Act) (w : World) : Prop :=
  ∃ b0 b1 b2 b3 b4 b5 b6 b7 : Bool, ∃ v6 v7 v14 v15 v16 v17 : Value, l = [b0, b1, b2, b3, b4, b5, b6, b7] ∧ a = F v6 v7 v14 v15 v16 v17 ∧ (b0 = true → v14 = K) ∧ (b1 = true → v15 = .agg (bcells I).toArray) ∧ (b2 = true → v16 = K) ∧ (b3 = true → v17 = .agg (bcells O).toArray) ∧
    (b4 = true → ∃ g, v6 = .pointer (some ⟨g, 0, none⟩) ∧ w0.heap.size ≤ g ∧ Row w g (if b6 then bcells I else bcells z64) 92) ∧
    (b5 = true → ∃ g, v7 = .pointer (some ⟨g, 0, none⟩) ∧ w0.heap.size ≤ g ∧ Row w g (if b7 then bcells O else bcells z64) 92) ∧ (b4 = true → b5 = true → v6 ≠ v7) ∧ ((b6 = true ∨ b7 = true) → b4 = true ∧ b5 = true) ∧ Below w0.heap.size w0 w
theorem ptr_ne {g h : Nat} (hne : g ≠ h) : (Value.pointer (some ⟨g, 0, none⟩)) ≠ .pointer (some ⟨h, 0, none⟩) := by
  intro e
  simp only [Value.pointer.injEq, Option.some.injEq, Addr.mk.injEq] at e
  exact hne e.1
theorem ptr_ne' {g h : Nat} (hne : (Value.pointer (some ⟨g, 0, none⟩)) ≠ .pointer (some ⟨h, 0, none⟩)) : g ≠ h := fun e => hne (by rw [e])
theorem parts_two {w : World} {x g h : Nat} {A B : List (BitVec 8)} {ta tb : TypeId} (c : Row w x [.slice (some ⟨g, 0, none⟩) A.length A.length, .slice (some ⟨h, 0, none⟩) B.length B.length] 25) (RA : Row w g (bcells A) ta) (RB : Row w h (bcells B) tb) (hA : A.length ≤ 9223372036854775807) (hB : B.length ≤ 9223372036854775807) : PartsC w (some ⟨x, 0, none⟩) [A, B] := by
  intro k hk
  have hk2 : k < 2 := by simpa using hk
  rcases (show k = 0 ∨ k = 1 by omega) with rfl | rfl
  · exact ⟨x, 0, _, _, rfl, c.cell 0 _ rfl, Row.bytesAt RA, Nat.le_refl _, hA⟩
  · exact ⟨x, 0, _, _, rfl, c.cell 1 _ rfl, Row.bytesAt RB, Nat.le_refl _, hB⟩
set_option maxHeartbeats 800000 in
theorem mac_any {w : World} {a : Option Addr} {cap : Nat} {bs : List (BitVec 8)} {pa : Option Addr} {pcap : Nat} {ps : List (List (BitVec 8))} (hB : BytesAt w a bs) (hle : bs.length ≤ cap) (hcap : 64 < bs.length → cap ≤ 9223372036854775807)
    (hP : PartsC w pa ps) (hlen : ps.length ≤ 9223372036854775807) (hK : KTab w) (h2 : 1 ≤ w.heap.size) :
    Calls Tryd.prog 60 #[.slice a bs.length cap, .slice pa ps.length pcap] w fun e w' => e = .returned (.agg (bcells (macL bs ps.flatten)).toArray) ∧ Below w.heap.size w w' := by
  have HP : Hid (PartsC w pa ps) := hP
  have HK : Hid (KTab w) := hK
  have H2 := hid h2
  have HBY := hid hB
  have HLE := hid hle
  have HCA := hid hcap
  have I39 := hid i39
  have I44 := hid i44
  have I36 := hid i36'
  have hl : (ps.length : Int) ≤ 9223372036854775807 := by omega
  have HLK := hid (keyL_len bs)
  clear hP hK h2 hB hle hcap hlen
  go_enter Tryd.func60, Tryd.ntmps60
  go_upto_region 1 with (fail)
  refine wp_world fun wa HW => ?_
  have HRr : Hid (Row wa w.heap.size (bcells z32) 73) := by show Row _ _ _ _; rw [HW.out]; exact Row.new' _ _ _ _ _ rfl rfl
  have HBa : Hid (Below w.heap.size w wa) := by show Below _ _ _; rw [HW.out]; exact (Below.refl _ _).alloc (Nat.le_refl _) _
  clear HW
  obtain ⟨r, hr⟩ : ∃ r, r = w.heap.size := ⟨_, rfl⟩
  have HRQ := hid hr
  rw [← hr] at HRr
  rw [← hr]
  clear hr
  have HKB := hid (keyBlock_any (HBY.out.kept HBa.out) HLE.out HCA.out (HK.out.kept HBa.out) (by have := H2.out; have := HBa.out.size; omega))
  have HE : Hid (macL bs ps.flatten = sha (maskL (keyL bs) 92#8 ++ sha (maskL (keyL bs) 54#8 ++ ps.flatten))) := rfl
  generalize keyL bs = KK at *
  go_upto_region 2 with (first
    | (go_at_call 68; refine HKB.out.mono ?_; clear HKB; rintro e w1 ⟨rfl, hb1⟩; have HB1 := hid hb1; clear hb1)
    | (show wpList _ _ _ (Oper.mk none (.store 92 (.tmp 5) (.tmp 13)) _ _ _ _ :: _) _ _; refine (Row.new' w1 _ (bcells z64) 92 _ rfl rfl).wpStore' 92 (.tmp 5) (.tmp 13) (bcells KK) rfl rfl rfl rfl (by rw [bcells_len, bcells_len, HLK.out]; rfl) (bcells_one _) (by rw [bcells_len, HLK.out]; exact I36.out) ?_; intro wb HW))
  simp only [Act.put]
  have HRk : Hid (Row wb w1.heap.size (bcells KK) 92) := by show Row _ _ _ _; rw [HW.out]; exact (Row.new' w1 _ (bcells z64) 92 _ rfl rfl).row _
  have HBb : Hid (Below wa.heap.size wa wb) := by show Below _ _ _; rw [HW.out]; exact Go.below_setRow (HB1.out.alloc HB1.out.size _) HB1.out.size _
  have HRb : Hid (Row wb r (bcells z32) 73) := HRr.out.kept HBb.out HRr.out.lt
  have HBw : Hid (Below w.heap.size w wb) := HBa.out.trans (HBb.out.mono HBa.out.size)
  clear HW HB1 HRr HBa HBb
  generalize w1.heap.size = kb at *
  obtain ⟨I, hI⟩ : ∃ I, I = maskL KK 54#8 := ⟨_, rfl⟩
  obtain ⟨O, hO⟩ : ∃ O, O = maskL KK 92#8 := ⟨_, rfl⟩
  have HM1 : Hid (∀ w : World, Calls Tryd.prog 69 #[.agg (bcells KK).toArray, .int .u8 54] w fun e w' => e = .returned (.agg (bcells I).toArray) ∧ Below w.heap.size w w') := fun w => by rw [hI]; exact masked_any w KK 54#8 HLK.out
  have HM2 : Hid (∀ w : World, Calls Tryd.prog 69 #[.agg (bcells KK).toArray, .int .u8 92] w fun e w' => e = .returned (.agg (bcells O).toArray) ∧ Below w.heap.size w w') := fun w => by rw [hO]; exact masked_any w KK 92#8 HLK.out
  have HLI : Hid (I.length = 64) := by show _ = _; rw [hI, maskL_len]; exact HLK.out
  have HLO : Hid (O.length = 64) := by show _ = _; rw [hO, maskL_len]; exact HLK.out
  rw [← hI, ← hO] at HE
  clear hI hO
  go_cut [6, 7] from 12 (fun vi vo wc => ∃ gi go, vi = .pointer (some ⟨gi, 0, none⟩) ∧ vo = .pointer (some ⟨go, 0, none⟩) ∧ gi ≠ go ∧ wb.heap.size ≤ gi ∧ wb.heap.size ≤ go ∧ Row wc gi (bcells I) 92 ∧ Row wc go (bcells O) 92 ∧ Below wb.heap.size wb wc)
  case first =>
    refine wp_region_any (by kernel_rfl) ?_
    obtain ⟨F, hF⟩ : ∃ F, F = frM (.slice a bs.length cap) (.slice pa ps.length pcap) (.pointer (some ⟨r, 0, none⟩)) (.pointer (some ⟨kb, 0, none⟩)) (.agg (bcells KK).toArray) := ⟨_, rfl⟩
    refine wpAny_inv (MI wb (.agg (bcells KK).toArray) I O F) ?hs ?step ?fin 8 [false, false, false, false, false, false, false, false] _ _ ?init (by decide)
    case hs =>
      rintro l a w ⟨b0, b1, b2, b3, b4, b5, b6, b7, v6, v7, v14, v15, v16, v17, rfl, _⟩
      rfl
    case init =>
      refine ⟨false, false, false, false, false, false, false, false, undef, undef, undef, undef, undef, undef, rfl, by rw [hF]; rfl, ?_, ?_, ?_, ?_, ?_, ?_, ?_, ?_, below_drawn (Below.refl _ _) _⟩
      all_goals (intro h; first | exact absurd h (by decide) | (rcases h with h | h <;> cases h))
    case fin =>
      rintro l a' w' ⟨b0, b1, b2, b3, b4, b5, b6, b7, v6, v7, v14, v15, v16, v17, rfl, rfl, h0, h1, h2, h3, h4, h5, hne, h67, hb⟩ hr
      have e0 : b0 = true := by
        refine (?_ : ∀ b0 b1 b2 b3 b4 b5 b6 b7 : Bool, (Region.ready _ _ ([b0, b1, b2, b3, b4, b5, b6, b7] : List Bool).toArray).isEmpty = true → b0 = true) b0 b1 b2 b3 b4 b5 b6 b7 (by rw [hr]; rfl)
        decide +kernel
      have e1 : b1 = true := by
        refine (?_ : ∀ b0 b1 b2 b3 b4 b5 b6 b7 : Bool, (Region.ready _ _ ([b0, b1, b2, b3, b4, b5, b6, b7] : List Bool).toArray).isEmpty = true → b1 = true) b0 b1 b2 b3 b4 b5 b6 b7 (by rw [hr]; rfl)
        decide +kernel
      have e2 : b2 = true := by
        refine (?_ : ∀ b0 b1 b2 b3 b4 b5 b6 b7 : Bool, (Region.ready _ _ ([b0, b1, b2, b3, b4, b5, b6, b7] : List Bool).toArray).isEmpty = true → b2 = true) b0 b1 b2 b3 b4 b5 b6 b7 (by rw [hr]; rfl)
        decide +kernel
      have e3 : b3 = true := by
        refine (?_ : ∀ b0 b1 b2 b3 b4 b5 b6 b7 : Bool, (Region.ready _ _ ([b0, b1, b2, b3, b4, b5, b6, b7] : List Bool).toArray).isEmpty = true → b3 = true) b0 b1 b2 b3 b4 b5 b6 b7 (by rw [hr]; rfl)
        decide +kernel
      have e4 : b4 = true := by
        refine (?_ : ∀ b0 b1 b2 b3 b4 b5 b6 b7 : Bool, (Region.ready _ _ ([b0, b1, b2, b3, b4, b5, b6, b7] : List Bool).toArray).isEmpty = true → b4 = true) b0 b1 b2 b3 b4 b5 b6 b7 (by rw [hr]; rfl)
        decide +kernel
      have e5 : b5 = true := by
        refine (?_ : ∀ b0 b1 b2 b3 b4 b5 b6 b7 : Bool, (Region.ready _ _ ([b0, b1, b2, b3, b4, b5, b6, b7] : List Bool).toArray).isEmpty = true → b5 = true) b0 b1 b2 b3 b4 b5 b6 b7 (by rw [hr]; rfl)
        decide +kernel
      have e6 : b6 = true := by
        refine (?_ : ∀ b0 b1 b2 b3 b4 b5 b6 b7 : Bool, (Region.ready _ _ ([b0, b1, b2, b3, b4, b5, b6, b7] : List Bool).toArray).isEmpty = true → b6 = true) b0 b1 b2 b3 b4 b5 b6 b7 (by rw [hr]; rfl)
        decide +kernel
      have e7 : b7 = true := by
        refine (?_ : ∀ b0 b1 b2 b3 b4 b5 b6 b7 : Bool, (Region.ready _ _ ([b0, b1, b2, b3, b4, b5, b6, b7] : List Bool).toArray).isEmpty = true → b7 = true) b0 b1 b2 b3 b4 b5 b6 b7 (by rw [hr]; rfl)
        decide +kernel
      subst e0 e1 e2 e3 e4 e5 e6 e7
      obtain ⟨gi, rfl, hgi, hri⟩ := h4 rfl
      obtain ⟨go, rfl, hgo, hro⟩ := h5 rfl
      have hn := ptr_ne' (hne rfl rfl)
      clear h4 h5 hne hr
      simp only [hF, frM]
      go_wp2_with fail
      go_meet
      exact ⟨gi, go, rfl, rfl, hn, hgi, hgo, hri, hro, hb⟩
    case step =>
      rintro l a' w' i ⟨b0, b1, b2, b3, b4, b5, b6, b7, v6, v7, v14, v15, v16, v17, rfl, rfl, h0, h1, h2, h3, h4, h5, hne, h67, hb⟩ hf hm
      have hkk : Row w' kb (bcells KK) 92 := HRk.out.kept hb HRk.out.lt
      have hi : i < 8 := by
        have := List.getElem?_eq_some_iff.1 hf
        obtain ⟨h, _⟩ := this
        simpa using h
      rcases (show i = 0 ∨ i = 1 ∨ i = 2 ∨ i = 3 ∨ i = 4 ∨ i = 5 ∨ i = 6 ∨ i = 7 by omega) with rfl | rfl | rfl | rfl | rfl | rfl | rfl | rfl
      · -- the first load
        refine wpOp_of rfl rfl ?_
        refine step_load hkk 0 92 (.tmp 5) rfl (by rw [hF]; rfl) (bcells KK) _ (fun j v hv => by rw [Nat.zero_add]; exact hv) Tryd.underlying92 rfl (by rw [bcells_len, HLK.out]; exact I36.out) ?_
        exact ⟨true, b1, b2, b3, b4, b5, b6, b7, v6, v7, _, v15, v16, v17, rfl, by rw [hF]; rfl, fun _ => rfl, h1, h2, h3, h4, h5, hne, h67, hb⟩
      · -- the first call
        have d : b0 = true := by
          refine (?_ : ∀ b0 b1 b2 b3 b4 b5 b6 b7 : Bool, 1 ∈ Region.ready _ _ ([b0, b1, b2, b3, b4, b5, b6, b7] : List Bool).toArray → b0 = true) b0 b1 b2 b3 b4 b5 b6 b7 hm
          decide +kernel
        subst d
        obtain rfl := h0 rfl
        refine wpOp_of rfl rfl ?_
        refine step_call29 (x := .tmp 14) (y := .const (.int .u8 54)) rfl (by rw [hF]; rfl) rfl (HM1.out w') ?_
        intro w2 hb2
        refine ⟨true, true, b2, b3, b4, b5, b6, b7, v6, v7, _, _, v16, v17, rfl, by rw [hF]; rfl, fun _ => rfl, fun _ => rfl, h2, h3, fun h => ?_, fun h => ?_, hne, h67, hb.trans (hb2.mono hb.size)⟩
        · obtain ⟨g, e, hg, hr⟩ := h4 h
          exact ⟨g, e, hg, hr.kept hb2 hr.lt⟩
        · obtain ⟨g, e, hg, hr⟩ := h5 h
          exact ⟨g, e, hg, hr.kept hb2 hr.lt⟩
      · -- the second load
        refine wpOp_of rfl rfl ?_
        refine step_load hkk 0 92 (.tmp 5) rfl (by rw [hF]; rfl) (bcells KK) _ (fun j v hv => by rw [Nat.zero_add]; exact hv) Tryd.underlying92 rfl (by rw [bcells_len, HLK.out]; exact I36.out) ?_
        exact ⟨b0, b1, true, b3, b4, b5, b6, b7, v6, v7, v14, v15, _, v17, rfl, by rw [hF]; rfl, h0, h1, fun _ => rfl, h3, h4, h5, hne, h67, hb⟩
      · -- the second call
        have d : b2 = true := by
          refine (?_ : ∀ b0 b1 b2 b3 b4 b5 b6 b7 : Bool, 3 ∈ Region.ready _ _ ([b0, b1, b2, b3, b4, b5, b6, b7] : List Bool).toArray → b2 = true) b0 b1 b2 b3 b4 b5 b6 b7 hm
          decide +kernel
        subst d
        obtain rfl := h2 rfl
        refine wpOp_of rfl rfl ?_
        refine step_call29 (x := .tmp 16) (y := .const (.int .u8 92)) rfl (by rw [hF]; rfl) rfl (HM2.out w') ?_
        intro w2 hb2
        refine ⟨b0, b1, true, true, b4, b5, b6, b7, v6, v7, v14, v15, _, _, rfl, by rw [hF]; rfl, h0, h1, fun _ => rfl, fun _ => rfl, fun h => ?_, fun h => ?_, hne, h67, hb.trans (hb2.mono hb.size)⟩
        · obtain ⟨g, e, hg, hr⟩ := h4 h
          exact ⟨g, e, hg, hr.kept hb2 hr.lt⟩
        · obtain ⟨g, e, hg, hr⟩ := h5 h
          exact ⟨g, e, hg, hr.kept hb2 hr.lt⟩
      · -- the first block
        have d4 : b4 = false := by simpa using hf
        subst d4
        have d : b6 = false := by
          cases b6 with
          | false => rfl
          | true => exact absurd (h67 (.inl rfl)).1 (by decide)
        subst d
        have d7 : b7 = false := by
          cases b7 with
          | false => rfl
          | true => exact absurd (h67 (.inr rfl)).1 (by decide)
        subst d7
        refine wpOp_of rfl rfl ?_
        refine step_alloc36 rfl ?_
        have hb2 : Below w'.heap.size w' (w'.alloc (.cells (bcells z64).toArray 92)) := (Below.refl _ _).alloc (Nat.le_refl _) _
        refine ⟨b0, b1, b2, b3, true, b5, false, false, _, v7, v14, v15, v16, v17, rfl, by rw [hF]; rfl, h0, h1, h2, h3, fun _ => ⟨w'.heap.size, rfl, hb.size, Row.new' _ _ _ _ _ rfl rfl⟩, fun h => ?_, fun _ h => ?_, (by rintro (h | h) <;> cases h), hb.trans (hb2.mono hb.size)⟩
        · obtain ⟨g, e, hg, hr⟩ := h5 h
          exact ⟨g, e, hg, hr.kept hb2 hr.lt⟩
        · obtain ⟨g, e, hg, hr⟩ := h5 h
          rw [e]
          exact ptr_ne (Nat.ne_of_gt hr.lt)
      · -- the second block
        have d5 : b5 = false := by simpa using hf
        subst d5
        have d : b7 = false := by
          cases b7 with
          | false => rfl
          | true => exact absurd (h67 (.inr rfl)).2 (by decide)
        subst d
        have d6 : b6 = false := by
          cases b6 with
          | false => rfl
          | true => exact absurd (h67 (.inl rfl)).2 (by decide)
        subst d6
        refine wpOp_of rfl rfl ?_
        refine step_alloc36 rfl ?_
        have hb2 : Below w'.heap.size w' (w'.alloc (.cells (bcells z64).toArray 92)) := (Below.refl _ _).alloc (Nat.le_refl _) _
        refine ⟨b0, b1, b2, b3, b4, true, false, false, v6, _, v14, v15, v16, v17, rfl, by rw [hF]; rfl, h0, h1, h2, h3, fun h => ?_, fun _ => ⟨w'.heap.size, rfl, hb.size, Row.new' _ _ _ _ _ rfl rfl⟩, fun h _ => ?_, (by rintro (h | h) <;> cases h), hb.trans (hb2.mono hb.size)⟩
        · obtain ⟨g, e, hg, hr⟩ := h4 h
          exact ⟨g, e, hg, hr.kept hb2 hr.lt⟩
        · obtain ⟨g, e, hg, hr⟩ := h4 h
          rw [e]
          exact ptr_ne (Nat.ne_of_lt hr.lt)
      · -- the first store
        have d : b1 = true ∧ b4 = true ∧ b5 = true := by
          refine (?_ : ∀ b0 b1 b2 b3 b4 b5 b6 b7 : Bool, 6 ∈ Region.ready _ _ ([b0, b1, b2, b3, b4, b5, b6, b7] : List Bool).toArray → b1 = true ∧ b4 = true ∧ b5 = true) b0 b1 b2 b3 b4 b5 b6 b7 hm
          decide +kernel
        obtain ⟨rfl, rfl, rfl⟩ := d
        have d6 : b6 = false := by simpa using hf
        subst d6
        obtain rfl := h1 rfl
        obtain ⟨gi, rfl, hgi, hri⟩ := h4 rfl
        obtain ⟨go, rfl, hgo, hro⟩ := h5 rfl
        have hn := ptr_ne' (hne rfl rfl)
        simp only [Bool.false_eq_true, if_false] at hri
        refine wpOp_of rfl rfl ?_
        refine step_store hri 0 92 (.tmp 6) (.tmp 15) rfl (by rw [hF]; rfl) (bcells I) (by rw [hF]; rfl) (by rw [bcells_len, bcells_len, HLI.out]; decide) (bcells_one _) (by rw [bcells_len, HLI.out]; exact I36.out) ?_
        intro w2 HW2
        have e2 : w2 = w'.setRow gi (bcells I).toArray := by
          have := HW2.out
          rwa [List.take_zero, List.nil_append, List.drop_eq_nil_of_le (by rw [bcells_len, bcells_len, HLI.out]; decide), List.append_nil] at this
        refine ⟨b0, true, b2, b3, true, true, true, b7, _, _, v14, _, v16, v17, rfl, by rw [hF]; rfl, h0, fun _ => rfl, h2, h3, fun _ => ⟨gi, rfl, hgi, ?_⟩, fun _ => ⟨go, rfl, hgo, ?_⟩, hne, fun _ => ⟨rfl, rfl⟩, ?_⟩
        · rw [e2]; exact hri.row _
        · rw [e2]; exact hro.rowOther hn.symm _
        · rw [e2]; exact Go.below_setRow hb hgi _
      · -- the second store
        have d : b3 = true ∧ b4 = true ∧ b5 = true := by
          refine (?_ : ∀ b0 b1 b2 b3 b4 b5 b6 b7 : Bool, 7 ∈ Region.ready _ _ ([b0, b1, b2, b3, b4, b5, b6, b7] : List Bool).toArray → b3 = true ∧ b4 = true ∧ b5 = true) b0 b1 b2 b3 b4 b5 b6 b7 hm
          decide +kernel
        obtain ⟨rfl, rfl, rfl⟩ := d
        have d7 : b7 = false := by simpa using hf
        subst d7
        obtain rfl := h3 rfl
        obtain ⟨gi, rfl, hgi, hri⟩ := h4 rfl
        obtain ⟨go, rfl, hgo, hro⟩ := h5 rfl
        have hn := ptr_ne' (hne rfl rfl)
        simp only [Bool.false_eq_true, if_false] at hro
        refine wpOp_of rfl rfl ?_
        refine step_store hro 0 92 (.tmp 7) (.tmp 17) rfl (by rw [hF]; rfl) (bcells O) (by rw [hF]; rfl) (by rw [bcells_len, bcells_len, HLO.out]; decide) (bcells_one _) (by rw [bcells_len, HLO.out]; exact I36.out) ?_
        intro w2 HW2
        have e2 : w2 = w'.setRow go (bcells O).toArray := by
          have := HW2.out
          rwa [List.take_zero, List.nil_append, List.drop_eq_nil_of_le (by rw [bcells_len, bcells_len, HLO.out]; decide), List.append_nil] at this
        refine ⟨b0, b1, b2, true, true, true, b6, true, _, _, v14, v15, v16, _, rfl, by rw [hF]; rfl, h0, h1, h2, fun _ => rfl, fun _ => ⟨gi, rfl, hgi, ?_⟩, fun _ => ⟨go, rfl, hgo, ?_⟩, hne, fun _ => ⟨rfl, rfl⟩, ?_⟩
        · rw [e2]; exact hri.rowOther hn _
        · rw [e2]; exact hro.row _
        · rw [e2]; exact Go.below_setRow hb hgo _
  case rest =>
    obtain ⟨gi, go, rfl, rfl, hne, hgi, hgo, hri, hro, hbc⟩ := hcut
    have HRI := hid hri
    have HRO := hid hro
    have HBc := hid (HBw.out.trans (hbc.mono HBw.out.size))
    have HRc : Hid (Row wc r (bcells z32) 73) := HRb.out.kept hbc HRb.out.lt
    have HGI : Hid (gi < wc.heap.size ∧ go < wc.heap.size ∧ w.heap.size ≤ go) := ⟨hri.lt, hro.lt, Nat.le_trans HBw.out.size hgo⟩
    have HNG := hid hne
    clear hne hgi hgo hri hro hbc HRk HRb HBw HM1 HM2
    have hz39 := z39
    go_upto_region 4 with (first
      | (go_at_call 56; refine (fresh_any _).mono ?_; rintro e w2 ⟨rfl, hb2⟩; have HB2 := hid hb2; clear hb2)
      | (show wpList _ _ _ (Oper.mk none (.store 94 (.tmp 8) (.tmp 18)) _ _ _ _ :: _) _ _; refine (Row.new w2 hz 94).wpStore' 94 (.tmp 8) (.tmp 18) (hcells st0 z64 0) rfl rfl rfl rfl (by rw [hz_len, hcells_len _ _ _ (by rfl)]) (hcells_one _ _ _) (by rw [hcells_len _ _ _ (by rfl)]; exact I39.out) ?_; intro wd HW))
    simp only [Act.put]
    have HHd : Hid (HashAt wd w2.heap.size []) := ⟨st0, z64, Took.nil _ rfl, by rw [HW.out]; exact (Row.new w2 hz 94).row _⟩
    have HBd : Hid (Below wc.heap.size wc wd) := by show Below _ _ _; rw [HW.out]; exact Go.below_setRow (HB2.out.alloc HB2.out.size _) HB2.out.size _
    have HQ : Hid (wc.heap.size ≤ w2.heap.size) := HB2.out.size
    have HRd : Hid (Row wd r (bcells z32) 73) := HRc.out.kept HBd.out HRc.out.lt
    have HRId : Hid (Row wd gi (bcells I) 92) := HRI.out.kept HBd.out HRI.out.lt
    have HROd : Hid (Row wd go (bcells O) 92) := HRO.out.kept HBd.out HRO.out.lt
    have HBwd : Hid (Below w.heap.size w wd) := HBc.out.trans (HBd.out.mono HBc.out.size)
    have HRL : Hid (r < wc.heap.size) := HRc.out.lt
    clear HW HB2 HRI HRO HRc HBd HBc hz39
    generalize w2.heap.size = q at *
    have Hq2 : Hid (1 ≤ q) := by show 1 ≤ q; have := H2.out; have := HRQ.out; have := HRL.out; have := HQ.out; omega
    have HT := hid (take_len (n := 64) (cap := 64) HHd.out Hq2.out (HK.out.kept HBwd.out) HLI.out (Row.bytesOff HRId.out (by have := HGI.out; have := HQ.out; omega)) (by decide) (by decide))
    rw [List.nil_append] at HT
    go_upto_region 5 with (go_at_call 57; refine HT.out.mono ?_; clear HT; rintro e w3 ⟨rfl, hh, ho⟩; have HH3 := hid hh; have HO3 := hid ho; clear hh ho)
    have HR3 : Hid (Row w3 r (bcells z32) 73) := HO3.out.row HRd.out (by have := HRL.out; have := HQ.out; omega)
    have HRO3 : Hid (Row w3 go (bcells O) 92) := HO3.out.row HROd.out (by have := HGI.out; have := HQ.out; omega)
    have HWQ : Hid (w.heap.size ≤ q) := by show _ ≤ _; have := HRL.out; have := HQ.out; have := HRQ.out; omega
    have HB3 : Hid (Below w.heap.size w w3) := HBwd.out.trans (HO3.out.below HBwd.out.size HWQ.out)
    clear HHd HRd HRId HROd HBwd HO3
    go_wp2
    go_loopw [23] (fun i wr => ∃ k : Nat, k ≤ ps.length ∧ i = .int .i64 k ∧ HashAt wr q (I ++ (ps.take k).flatten) ∧ Row wr r (bcells z32) 73 ∧ Row wr go (bcells O) 92 ∧ Below w.heap.size w wr) (fun i _ => ps.length - (intOf i).toNat)
    case atStart => exact ⟨0, Nat.zero_le _, rfl, by simpa using HH3.out, HR3.out, HRO3.out, HB3.out⟩
    case round =>
      clear HH3 HR3 HRO3 HB3
      obtain ⟨k, hk, rfl, hH, hR, hRO, hb⟩ := hrel
      by_cases hlt : k < ps.length
      · obtain ⟨g, o, ad, pc, rfl, c1, c2, c3, c4⟩ := HP.out k hlt
        have d1 := cell_kept hb c1
        have HT := hid (take_any (w := wr) hH Hq2.out (HK.out.kept hb) ((c2.off HWQ.out).kept hb) c3 c4)
        have HS := hid (flat_snoc ps k hlt)
        generalize ps[k] = b at *
        have HR := hid hR
        have HRO := hid hRO
        have HB := hid hb
        have HLT := hid hlt
        clear c1 c2 c3 c4 hH hR hRO hb
        go_wp2_with (go_at_call 57; refine HT.out.mono ?_; clear HT; rintro e w4 ⟨rfl, hh, ho⟩; have HH4 := hid hh; have HO4 := hid ho; clear hh ho)
        go_roundw
        case rel => exact ⟨k + 1, HLT.out, by go_num, by rw [HS.out, ← List.append_assoc]; exact HH4.out, HO4.out.row HR.out (by have := HRL.out; have := HQ.out; omega), HO4.out.row HRO.out (by have := HGI.out; have := HQ.out; omega), HB.out.trans (HO4.out.below HB.out.size HWQ.out)⟩
        case measure =>
          simp [intOf]
          have := HLT.out
          omega
      · have e : k = ps.length := by omega
        subst e
        rw [List.take_length] at hH
        have HD := hid (digest_any hH Hq2.out (HK.out.kept hb))
        obtain ⟨E1, hE1⟩ : ∃ E1, E1 = sha (I ++ ps.flatten) := ⟨_, rfl⟩
        have HL1 : Hid (E1.length = 32) := by show _ = _; rw [hE1]; exact sha_len _
        rw [← hE1] at HD HE
        have HR := hid hR
        have HRO := hid hRO
        have HB := hid hb
        clear hH hR hRO hb hE1 hlt hk
        go_upto_region 11 with (first
          | (go_at_call 58; refine HD.out.mono ?_; clear HD; rintro e w5 ⟨rfl, hb5⟩; have HB5 := hid hb5; clear hb5)
          | (show wpList _ _ _ (Oper.mk none (.store 73 (.tmp 11) (.tmp 30)) _ _ _ _ :: _) _ _; refine (Row.new' w5 _ (bcells z32) 73 _ rfl rfl).wpStore' 73 (.tmp 11) (.tmp 30) (bcells E1) rfl rfl rfl rfl (by rw [bcells_len, bcells_len, HL1.out]; rfl) (bcells_one _) (by rw [bcells_len, HL1.out]; exact I44.out) ?_; intro we HW))
        simp only [Act.put]
        have HRe0 : Hid (Row we w5.heap.size (bcells E1) 73) := by show Row _ _ _ _; rw [HW.out]; exact (Row.new' w5 _ (bcells z32) 73 _ rfl rfl).row _
        have HBe0 : Hid (Below wr.heap.size wr we) := by show Below _ _ _; rw [HW.out]; exact Go.below_setRow (HB5.out.alloc HB5.out.size _) HB5.out.size _
        have HRre : Hid (Row ({ we with drawn := we.drawn + 1 } : World) r (bcells z32) 73) := (HR.out.kept HBe0.out HR.out.lt).drawn _
        have HROe : Hid (Row ({ we with drawn := we.drawn + 1 } : World) go (bcells O) 92) := (HRO.out.kept HBe0.out HRO.out.lt).drawn _
        have HREe : Hid (Row ({ we with drawn := we.drawn + 1 } : World) w5.heap.size (bcells E1) 73) := HRe0.out.drawn _
        have HBe : Hid (Below w.heap.size w ({ we with drawn := we.drawn + 1 } : World)) := below_drawn (HB.out.trans (HBe0.out.mono HB.out.size)) _
        clear HW HB5 HR HRO HB HRe0 HBe0
        generalize w5.heap.size = eb at *
        refine wp_region_still_tail 2 (by kernel_rfl) (by decide +kernel) ?_
        generalize ({ we with drawn := we.drawn + 1 } : World) = wq at *
        simp only [List.take_succ_cons, List.take_zero, List.drop_succ_cons, List.drop_zero]
        iterate 2 still_step
        refine wpStill_nil ?_
        have b1 : Below wq.heap.size wq (wq.alloc (.cells #[.slice (some ⟨go, 0, none⟩) 64 64, .slice (some ⟨eb, 0, none⟩) 32 32] 25)) := (Below.refl _ _).alloc (Nat.le_refl _) _
        have HOF : Hid (Calls Tryd.prog 49 #[.slice (some ⟨wq.heap.size, 0, none⟩) 2 2] (wq.alloc (.cells #[.slice (some ⟨go, 0, none⟩) 64 64, .slice (some ⟨eb, 0, none⟩) 32 32] 25)) fun e w' => e = .returned (.agg (bcells (sha (O ++ E1))).toArray) ∧ Below wq.heap.size wq w') := by
          have RX : Row (wq.alloc (.cells #[.slice (some ⟨go, 0, none⟩) 64 64, .slice (some ⟨eb, 0, none⟩) 32 32] 25)) wq.heap.size [.slice (some ⟨go, 0, none⟩) O.length O.length, .slice (some ⟨eb, 0, none⟩) E1.length E1.length] 25 := by
            rw [HLO.out, HL1.out]
            exact Row.new _ _ _
          have := of_any (cap := 2) (parts_two RX (HROe.out.kept b1 HROe.out.lt) (HREe.out.kept b1 HREe.out.lt) (by rw [HLO.out]; decide) (by rw [HL1.out]; decide)) (by simp) ((HK.out.kept HBe.out).kept b1) (by have := H2.out; have := HBe.out.size; have := b1.size; omega)
          rw [show [O, E1].flatten = O ++ E1 by simp] at this
          refine this.mono ?_
          rintro e w' ⟨he, hb⟩
          exact ⟨he, b1.trans (hb.mono b1.size)⟩
        have HLS : Hid ((sha (O ++ E1)).length = 32) := sha_len _
        clear b1
        generalize sha (O ++ E1) = Z at *
        go_wp2_with (first
          | (go_at_call 49; refine HOF.out.mono ?_; clear HOF; rintro e w6 ⟨rfl, hb6⟩; have HB6 := hid hb6; clear hb6)
          | (show wpList _ _ _ (Oper.mk none (.store 73 (.tmp 4) (.tmp 34)) _ _ _ _ :: _) _ _; refine (HRre.out.kept HB6.out HRre.out.lt).wpStore' 73 (.tmp 4) (.tmp 34) (bcells Z) rfl rfl rfl rfl (by rw [bcells_len, bcells_len, HLS.out]; rfl) (bcells_one _) (by rw [bcells_len, HLS.out]; exact I44.out) ?_; intro wz HZ))
        have R : Row wz r (bcells Z) 73 := by rw [HZ.out]; exact (HRre.out.kept HB6.out HRre.out.lt).row _
        have hB : Below w.heap.size w wz := by rw [HZ.out]; exact Go.below_setRow (HBe.out.trans (HB6.out.mono HBe.out.size)) (Nat.le_of_eq HRQ.out.symm) _
        exact bodyPost_ret (v := .agg (bcells Z).toArray) (R.result Tryd.results60 _ rfl _ Tryd.underlying73 rfl (by rw [bcells_len, HLS.out]; exact I44.out)) rfl ⟨by rw [HE.out], hB⟩
end Go.Proofs.YtjpllcliehgnfaaDoor
