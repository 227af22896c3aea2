import Derived.Test.YtaklbofbhanjgaaDoorBs
namespace Go.Proofs.YtaklbofbhanjgaaDoor
open Go.RowKit
set_option maxRecDepth 100000
/-- The bytes and the path lie there. -/
theorem two_laid {XA XG : List Value} (eA : bcells (leafS tA) = XA) (eG : bcells (leafS tG) = XG) (w : World) (bs : List (BitVec 8)) (k : Nat) :
    BytesAt (((w.alloc (.cells (bcells bs).toArray 5)).freeze ⟨w.heap.size, k, none⟩ 1).alloc (.cells (XA ++ XG).toArray 25)) (some ⟨w.heap.size, 0, none⟩) bs ∧ SumsAt (((w.alloc (.cells (bcells bs).toArray 5)).freeze ⟨w.heap.size, k, none⟩ 1).alloc (.cells (XA ++ XG).toArray 25)) (some ⟨((w.alloc (.cells (bcells bs).toArray 5)).freeze ⟨w.heap.size, k, none⟩ 1).heap.size, 0, none⟩) [leafS tA, leafS tG] ∧ Below w.heap.size w (((w.alloc (.cells (bcells bs).toArray 5)).freeze ⟨w.heap.size, k, none⟩ 1).alloc (.cells (XA ++ XG).toArray 25)) := by
  obtain ⟨c1, c2⟩ := const_bytes w bs k
  subst eA eG
  generalize (w.alloc (.cells (bcells bs).toArray 5)).freeze ⟨w.heap.size, k, none⟩ 1 = w1 at *
  exact ⟨c1.kept (below_new w1 _), sums_two (Row.new w1 _ _) (sha_len _), c2.trans ((below_new w1 _).mono c2.size)⟩
theorem al_rows {w w8 wz w9 : World} {p mm b5 b6 : Nat} {XA XG : List Value} {v' : Value} {Y' : List Value} (h : AlI w w8 p mm ∧ Row w8 b5 XA 25 ∧ Row w8 b6 XG 25) (hb : Below w8.heap.size w8 wz) (hs : StAt w9 p v' mfX Y' [(1, 2)]) (hb9 : Below w.heap.size w w9) (hf : Fr (fun k => k = p) wz w9) :
    StAt w9 p v' mfX Y' [(1, 2)] ∧ Below w.heap.size w w9 ∧ Row w9 b5 XA 25 ∧ Row w9 b6 XG 25 := by
  have ne : ∀ b X, Row w8 b X 25 → b ≠ p := fun b X hr e => by
    have h2 := h.1.st.row.at_
    rw [← e, hr.at_] at h2
    cases h2
  exact ⟨hs, hb9, hf.row (h.2.1.kept hb h.2.1.lt) (ne _ _ h.2.1), hf.row (h.2.2.kept hb h.2.2.lt) (ne _ _ h.2.2)⟩
theorem al_fin {w w9 wz wA : World} {p : Nat} {v' : Value} {Y' : List Value} (hs : StAt w9 p v' mfX Y' [(1, 2)]) (hb : Below w.heap.size w w9) (h1 : Below w9.heap.size w9 wz) (h2 : Below wz.heap.size wz wA) : StAt wA p v' mfX Y' [(1, 2)] ∧ Below w.heap.size w wA :=
  ⟨(hs.kept h1).kept h2, (hb.trans (h1.mono hb.size)).trans (h2.mono (Nat.le_trans hb.size h1.size))⟩
theorem al_row5 {w : World} {g : Nat} {c : List Value} {bs : List (BitVec 8)} (h : Row w g c 25) (k : Nat) : Row ((w.alloc (.cells (bcells bs).toArray 5)).freeze ⟨w.heap.size, k, none⟩ 1) g c 25 := h.kept (const_bytes w bs k).2 h.lt
set_option maxHeartbeats 8000000 in
theorem alive_any {w : World} (hK : KTab w) (h2 : 2 ≤ w.heap.size) : Calls Tryd.prog 20 #[] w fun e w' => e = .returned (.bool true) ∧ Below w.heap.size w w' := by
  have HK := hid hK
  have H2 := hid h2
  have hcv := cv7
  have HDe : Hid (∀ w' : World, Below w.heap.size w w' → ∀ g, BytesAt w' (some ⟨g, 0, none⟩) tAll → Calls Tryd.prog 24 #[.string ⟨#[120]⟩, .slice (some ⟨g, 0, none⟩) 7 7, .int .i64 3] w' fun e w2 => e = .returned (.tuple #[.agg mfX.cells.toArray, .int .i64 0]) ∧ Below w'.heap.size w' w2) := fun w' hb g hr => describe_ok (nm := ⟨#[120]⟩) (bs := tAll) (n := 7) (P := 3) hr rfl (by decide) (by decide) fitX (hK.kept hb) (Nat.le_trans h2 hb.size)
  have HNe : Hid (∀ w', Calls Tryd.prog 46 #[.agg mfX.cells.toArray] w' fun e w2 => ∃ p mm, e = .returned (.tuple #[.pointer (some ⟨p, 0, none⟩), .int .i64 0]) ∧ NewAt w' w2 mfX p mm) := fun w' => new_ok (rootF_len tAll 3) fitX
  have HCo : Hid (∀ w', Calls Tryd.prog 28 #[.agg mfX.cells.toArray] w' fun e w2 => e = .returned (.int .i64 3) ∧ Below w'.heap.size w' w2) := fun w' => by
    have := count_any (m := mfX) (w := w') (rootF_len tAll 3)
    rwa [show cntI mfX = 3 from cntX] at this
  have HL : Hid (mfX.cells.length = 35 ∧ mfX.cells[1]? = some (.int .i64 7)) := ⟨Mf.cells_len (rootF_len tAll 3), rfl⟩
  have HC1 : Hid (∀ v ∈ mfX.cells, v.oneCell' = true) := Mf.cells_one _
  have I35 := hid iMf
  generalize hX : mfX.cells = C at *
  clear hK h2
  go_enter Tryd.func20, Tryd.ntmps20
  go_upto_region 2 with (first
    | (go_at_call 24; refine Calls.mono (HDe.out _ (const_bytes w tAll 7).2 _ (const_bytes w tAll 7).1) ?_; rintro e w1 ⟨rfl, hb1⟩; have HB1 := hid ((const_bytes w tAll 7).2.trans (hb1.mono (const_bytes w tAll 7).2.size)); clear hb1 hcv)
    | (show wpList _ _ _ (Oper.mk none (.store 39 (.tmp 1) (.tmp 15)) _ _ _ _ :: _) _ _; refine (Row.new' w1 _ mfZ.cells 39 _ rfl rfl).wpStore' 39 (.tmp 1) (.tmp 15) C rfl rfl rfl rfl (by rw [HL.out.1]; rfl) HC1.out (by rw [HL.out.1]; exact I35.out) ?_; intro w2 HZ))
  have HS2 : Hid (Row w2 w1.heap.size C 39 ∧ Below w.heap.size w w2) := by
    show _ ∧ _
    rw [HZ.out]
    exact ⟨(Row.new w1 mfZ.cells 39).row _, Go.below_setRow (HB1.out.trans ((below_new w1 _).mono HB1.out.size)) HB1.out.size _⟩
  obtain ⟨b1, e1⟩ : ∃ b, w1.heap.size = b := ⟨_, rfl⟩
  rw [e1] at HS2 ⊢
  clear HZ HB1 e1 HDe
  go_upto_region 3 with (first
    | (show wpList _ _ _ (Oper.mk (some 18) (.load 39 (.tmp 1)) _ _ _ _ :: _) _ _; refine HS2.out.1.wpLoad 39 (.tmp 1) rfl rfl rfl _ Tryd.underlying39 rfl (by rw [HL.out.1]; exact I35.out) ?_)
    | (go_at_call 46; refine Calls.mono (HNe.out _) ?_; rintro e w3 ⟨p, mm, rfl, hn3⟩; have HN3 := hid hn3; clear hn3))
  have HS3 : Hid (Row w3 b1 C 39 ∧ Below w.heap.size w w3 ∧ StAt w3 p (.slice none 0 0) mfX [.slice none 0 0, .int .i64 3, .map (some mm)] [] ∧ w.heap.size ≤ p ∧ b1 < p) := by
    have n := HN3.out
    refine ⟨HS2.out.1.kept n.bl HS2.out.1.lt, HS2.out.2.trans (n.bl.mono HS2.out.2.size), ⟨⟨n.st, rfl, .inl ⟨rfl, rfl⟩⟩, rootF_len tAll 3, fitX⟩, Nat.le_trans HS2.out.2.size n.p0, Nat.lt_of_lt_of_le HS2.out.1.lt n.p0⟩
  clear HS2 HN3 HNe
  have d1 := HS3.out.1.cell 1 _ HL.out.2
  go_upto_region 5 with (first
    | (show wpList _ _ _ (Oper.mk (some 38) (.load 39 (.tmp 1)) _ _ _ _ :: _) _ _; refine Row.wpLoadF HS3.out.1 39 (.tmp 1) (j := 15) rfl rfl rfl rfl _ Tryd.underlying39 rfl (by rw [HL.out.1]; exact I35.out) ?_)
    | (go_at_call 28; refine Calls.mono (HCo.out _) ?_; rintro e w4 ⟨rfl, hb4⟩; have HB4 := hid hb4; clear hb4 d1))
  have HS4 : Hid (AlI w w4 p mm) := by
    obtain ⟨h1, h2, h3, h4, h5⟩ := HS3.out
    exact ⟨h3.kept HB4.out, h2.trans (HB4.out.mono h2.size), h4⟩
  clear HS3 HB4
  have HLF : Hid (∀ (w' : World) (bs : List (BitVec 8)) (n k : Nat), Below w.heap.size w w' → bs.length = n → n ≤ 16777216 → Calls Tryd.prog 8 #[.slice (some ⟨w'.heap.size, 0, none⟩) n n] ((w'.alloc (.cells (bcells bs).toArray 5)).freeze ⟨w'.heap.size, k, none⟩ 1) fun e w2 => e = .returned (.agg (bcells (leafS bs)).toArray) ∧ Below w'.heap.size w' w2) := fun w' bs n k hb hn hm => by
    obtain ⟨c1, c2⟩ := const_bytes w' bs k
    have c3 := hb.trans (c2.mono hb.size)
    refine (leaf_any c1 hn (Nat.le_refl _) (by omega) (HK.out.kept c3) (Nat.le_trans H2.out c3.size)).mono ?_
    rintro e w2 ⟨rfl, h⟩
    exact ⟨rfl, c2.trans (h.mono c2.size)⟩
  have HLL : Hid (∀ bs, (leafS bs).length = 32) := fun bs => sha_len _
  have I32 := hid i44
  have hcvA := cvA
  go_upto_region 6 with (first
    | (go_at_call 8; refine Calls.mono (HLF.out w4 tA 3 3 HS4.out.bl rfl (by decide)) ?_; rintro e w5 ⟨rfl, hb5⟩; have HS5 := hid (HS4.out.kept hb5); clear hb5 hcvA)
    | (show wpList _ _ _ (Oper.mk none (.store 25 (.tmp 5) (.tmp 44)) _ _ _ _ :: _) _ _; refine (Row.new' w5 _ (bcells z32) 25 _ rfl rfl).wpStore' 25 (.tmp 5) (.tmp 44) (bcells (leafS tA)) rfl rfl rfl rfl (by rw [bcells_len, bcells_len, HLL.out]; rfl) (bcells_one _) (by rw [bcells_len, HLL.out]; exact I32.out) ?_; intro w6 HZ))
  obtain ⟨b5, e5⟩ : ∃ b, w5.heap.size = b := ⟨_, rfl⟩
  have HS6 : Hid (AlI w w6 p mm ∧ Row w6 b5 (bcells (leafS tA)) 25 ∧ b5 ≠ p) := by
    show _ ∧ _
    have hb : Below w5.heap.size w5 w6 := by rw [HZ.out]; exact Go.below_setRow (below_new w5 _) (Nat.le_refl _) _
    exact ⟨HS5.out.kept hb, by rw [HZ.out, ← e5]; exact (Row.new w5 (bcells z32) 25).row _, by rw [← e5]; have := HS5.out.st.row.lt; omega⟩
  rw [e5]
  clear HZ HS5 HS4 e5
  simp only [Act.put]
  have hcvG := cvG
  go_upto_region 7 with (first
    | (go_at_call 8; refine Calls.mono (HLF.out w6 tG 1 1 HS6.out.1.bl rfl (by decide)) ?_; rintro e w7 ⟨rfl, hb7⟩; have HS7 := hid (And.intro (HS6.out.1.kept hb7) (HS6.out.2.1.kept hb7 HS6.out.2.1.lt)); clear hb7 hcvG)
    | (show wpList _ _ _ (Oper.mk none (.store 25 (.tmp 6) (.tmp 47)) _ _ _ _ :: _) _ _; refine (Row.new' w7 _ (bcells z32) 25 _ rfl rfl).wpStore' 25 (.tmp 6) (.tmp 47) (bcells (leafS tG)) rfl rfl rfl rfl (by rw [bcells_len, bcells_len, HLL.out]; rfl) (bcells_one _) (by rw [bcells_len, HLL.out]; exact I32.out) ?_; intro w8 HZ))
  obtain ⟨b6, e6⟩ : ∃ b, w7.heap.size = b := ⟨_, rfl⟩
  have HS8 : Hid (AlI w w8 p mm ∧ Row w8 b5 (bcells (leafS tA)) 25 ∧ Row w8 b6 (bcells (leafS tG)) 25) := by
    have hb : Below w7.heap.size w7 w8 := by rw [HZ.out]; exact Go.below_setRow (below_new w7 _) (Nat.le_refl _) _
    exact ⟨HS7.out.1.kept hb, HS7.out.2.kept hb HS7.out.2.lt, by rw [HZ.out, ← e6]; exact (Row.new w7 (bcells z32) 25).row _⟩
  rw [e6]
  clear HZ HS7 HS6 e6
  simp only [Act.put]
  have hcvD := cvD
  clear HLF HCo HC1
  have HLA : Hid ((bcells (leafS tA)).length = 32) := by show _ = _; rw [bcells_len]; exact HLL.out _
  have HLG : Hid ((bcells (leafS tG)).length = 32) := by show _ = _; rw [bcells_len]; exact HLL.out _
  obtain ⟨XA, eA⟩ : ∃ x, bcells (leafS tA) = x := ⟨_, rfl⟩
  obtain ⟨XG, eG⟩ : ∃ x, bcells (leafS tG) = x := ⟨_, rfl⟩
  rw [eA] at HS8 HLA ⊢
  rw [eG] at HS8 HLG ⊢
  have HEA := hid (And.intro eA eG)
  clear eA eG HLL
  go_upto_region 8 with (first
    | (show wpList _ _ _ (Oper.mk (some 52) (.load 25 (.tmp 5)) _ _ _ _ :: _) _ _; refine Row.wpLoad (al_row5 HS8.out.2.1 3) 25 (.tmp 5) rfl rfl rfl _ Tryd.underlying25 rfl (by rw [HLA.out]; exact I32.out) ?_)
    | (show wpList _ _ _ (Oper.mk (some 53) (.load 25 (.tmp 6)) _ _ _ _ :: _) _ _; refine Row.wpLoad (al_row5 HS8.out.2.2 3) 25 (.tmp 6) rfl rfl rfl _ Tryd.underlying25 rfl (by rw [HLG.out]; exact I32.out) ?_)
    | (show wpList _ _ _ (Oper.mk (some 54) (.buildSlice 23 2 _) _ _ _ _ :: _) _ _; refine wpList_bslice (parts' := #[(0, .agg XA.toArray), (1, .agg XG.toArray)]) rfl rfl (by first | rfl | (simp [Act.eval, Act.put]; done)) (bs23 HLA.out HLG.out _) ?_)
    | (go_at_call 32; refine Calls.mono (al_put (HS8.out.1.kept (two_laid HEA.out.1 HEA.out.2 w8 tD 3).2.2) HK.out H2.out (two_laid HEA.out.1 HEA.out.2 w8 tD 3).1 (Nat.ne_of_gt HS8.out.1.st.row.lt) (two_laid HEA.out.1 HEA.out.2 w8 tD 3).2.1) ?_; rintro e w9 ⟨rfl, ⟨v', Y', hs9⟩, hb9, hf9⟩; have HS9 := hid (al_rows HS8.out (two_laid HEA.out.1 HEA.out.2 w8 tD 3).2.2 hs9 hb9 hf9); clear hs9 hb9 hf9 hcvD))
  clear HS8
  have hcvX := cvX
  go_upto_region 9 with (first
    | (show wpList _ _ _ (Oper.mk (some 62) (.load 25 (.tmp 5)) _ _ _ _ :: _) _ _; refine Row.wpLoad (al_row5 HS9.out.2.2.1 3) 25 (.tmp 5) rfl rfl rfl _ Tryd.underlying25 rfl (by rw [HLA.out]; exact I32.out) ?_)
    | (show wpList _ _ _ (Oper.mk (some 63) (.load 25 (.tmp 6)) _ _ _ _ :: _) _ _; refine Row.wpLoad (al_row5 HS9.out.2.2.2 3) 25 (.tmp 6) rfl rfl rfl _ Tryd.underlying25 rfl (by rw [HLG.out]; exact I32.out) ?_)
    | (show wpList _ _ _ (Oper.mk (some 64) (.buildSlice 23 2 _) _ _ _ _ :: _) _ _; refine wpList_bslice (parts' := #[(0, .agg XA.toArray), (1, .agg XG.toArray)]) rfl rfl (by first | rfl | (simp [Act.eval, Act.put]; done)) (bs23 HLA.out HLG.out _) ?_)
    | (go_at_call 32; refine Calls.mono (al_bad (HS9.out.1.kept (two_laid HEA.out.1 HEA.out.2 w9 tX 3).2.2) (HS9.out.2.1.trans ((two_laid HEA.out.1 HEA.out.2 w9 tX 3).2.2.mono HS9.out.2.1.size)) HK.out H2.out (two_laid HEA.out.1 HEA.out.2 w9 tX 3).1 (two_laid HEA.out.1 HEA.out.2 w9 tX 3).2.1) ?_; rintro e wA ⟨rfl, hbA⟩; have HSA := hid (al_fin HS9.out.1 HS9.out.2.1 (two_laid HEA.out.1 HEA.out.2 w9 tX 3).2.2 hbA); clear hbA hcvX))
  clear HS9
  have HHv : Hid (Calls Tryd.prog 27 #[.pointer (some ⟨p, 0, none⟩)] wA fun e w' => e = .returned (.int .i64 1) ∧ Below wA.heap.size wA w') := have_st HSA.out.1 fit_12 (by decide) (by decide)
  go_wp2_with (go_at_call 27; refine Calls.mono HHv.out ?_; rintro e wB ⟨rfl, hbB⟩; have HBB := hid hbB; clear hbB)
  go_ret
  exact ⟨rfl, HSA.out.2.trans (HBB.out.mono HSA.out.2.size)⟩
end Go.Proofs.YtaklbofbhanjgaaDoor
