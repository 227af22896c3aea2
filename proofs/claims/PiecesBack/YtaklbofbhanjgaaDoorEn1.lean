import Derived.Test.YtaklbofbhanjgaaDoorEn0
namespace Go.Proofs.YtaklbofbhanjgaaDoor
open Go.RowKit
set_option maxRecDepth 100000
/-- While a manifest's bytes are laid: its box, and the row. -/
structure EnS (wa w' : World) (b : Nat) (C : List Value) (v : Value) (l : List (BitVec 8)) : Prop where
  row : Row wa b C 39
  own : OwnBy w' wa.heap.size v l
  bl : Below wa.heap.size wa w'
theorem EnS.cell {wa w' : World} {b : Nat} {C : List Value} {v : Value} {l : List (BitVec 8)} (h : EnS wa w' b C v l) (j : Nat) (x : Value) (hx : C[j]? = some x) : w'.cell? ⟨b, j, none⟩ = some x := cell_kept h.bl (h.row.cell j x hx)
theorem EnS.on {wa w1 w2 : World} {b : Nat} {C : List Value} {v v' : Value} {l l' : List (BitVec 8)} (h : EnS wa w1 b C v l) (ho : OwnBy w2 wa.heap.size v' l') (hb : Below wa.heap.size w1 w2) : EnS wa w2 b C v' l' := ⟨h.row, ho, h.bl.trans hb⟩
theorem own_app {w : World} {B : Nat} {v : Value} {l : List (BitVec 8)} {x : List (BitVec 8)} {n : Nat} (h : w.ownsRow B 5 1 v (l.length + n) (bcells (l ++ x))) (hn : x.length = n) : OwnBy w B v (l ++ x) := by
  subst hn; rw [← List.length_append] at h; exact h
theorem own_less {w : World} {base b2 : Nat} {e : TypeId} {size : Nat} {v : Value} {n : Nat} {xs : List Value} (h : w.ownsRow base e size v n xs) (hb : b2 ≤ base) : w.ownsRow b2 e size v n xs := by
  refine ⟨h.1, h.2.imp id ?_⟩
  rintro ⟨g, cap, cur, h1, h2, h3⟩
  exact ⟨g, cap, cur, h1, Nat.le_trans hb h2, h3⟩
set_option maxHeartbeats 8000000 in
theorem encode_ok {m : Mf} {w : World} (hr : m.rt.length = 32) (hE : fitE m = 0) (hT : CrcTab w) : Calls Tryd.prog 21 #[.agg m.cells.toArray] w fun e w' => ∃ v, e = .returned (.tuple #[v, .int .i64 0]) ∧ OwnBy w' w.heap.size v (encB m) ∧ Below w.heap.size w w' := by
  obtain ⟨hnm, a1, a2, a3, a4⟩ := fitE_ok hE
  have hsz : m.nm.size ≤ 255 := by
    unfold namedB at hnm
    simp at hnm
    omega
  have HFC : Hid (∀ w, Calls Tryd.prog 22 #[.agg m.cells.toArray] w fun e w' => e = .returned (.int .i64 0) ∧ Below w.heap.size w w') := fun w => hE ▸ fit_any
  have HL : Hid (m.cells.length = 35) := Mf.cells_len hr
  have I35 : Hid ((Tryd.prog.info? 39).map (·.size) = some 35) := iMf
  have HT : Hid (CrcTab w) := hT
  have HRT : Hid (∀ j x, (bcells m.rt)[j]? = some x → m.cells[3 + j]? = some x) := fun j x hx => by
    unfold Mf.cells
    rw [show 3 + j = j + 1 + 1 + 1 by omega]
    simpa using hx
  have HPRE : Hid (encB m = preB m ++ be4 (crc (preB m)) ∧ preB m = magicB ++ [BitVec.ofNat 8 m.nm.size] ++ bsOf m.nm ++ be4 (BitVec.ofNat 32 m.sz.toNat) ++ be4 (BitVec.ofNat 32 m.pc.toNat) ++ m.rt) := ⟨rfl, rfl⟩
  obtain ⟨nm, sz, pc, rt⟩ := m
  obtain ⟨N, hN⟩ : ∃ N : Nat, sz = N := ⟨sz.toNat, by dsimp only at a3; omega⟩
  obtain ⟨P, hP⟩ : ∃ P : Nat, pc = P := ⟨pc.toNat, by dsimp only at a1; omega⟩
  subst hN hP
  dsimp only at hr hsz a1 a2 a3 a4 HRT HPRE
  generalize encB ⟨nm, (N : Int), (P : Int), rt⟩ = EB at *
  generalize preB ⟨nm, (N : Int), (P : Int), rt⟩ = PB at *
  obtain ⟨C, hC⟩ : ∃ C, Mf.cells ⟨nm, (N : Int), (P : Int), rt⟩ = C := ⟨_, rfl⟩
  have hc0 : C[0]? = some (.string nm) := by rw [← hC]; rfl
  have hc1 : C[1]? = some (.int .i64 (N : Int)) := by rw [← hC]; rfl
  have hc2 : C[2]? = some (.int .i64 (P : Int)) := by rw [← hC]; rfl
  rw [hC] at HFC HL HRT ⊢
  have HC : Hid (C[0]? = some (.string nm) ∧ C[1]? = some (.int .i64 (N : Int)) ∧ C[2]? = some (.int .i64 (P : Int))) := ⟨hc0, hc1, hc2⟩
  have HB : Hid (N ≤ 16777216 ∧ P ≤ 65536 ∧ nm.size ≤ 255 ∧ rt.length = 32) := ⟨by omega, by omega, hsz, hr⟩
  have q1 : (nm.size : Int) ≤ 255 := by omega
  have q2 : (N : Int) ≤ 16777216 := by omega
  have q3 : (P : Int) ≤ 65536 := by omega
  clear hC hc0 hc1 hc2 hnm hsz hE hT hr a1 a2 a3 a4
  go_enter Tryd.func21, Tryd.ntmps21
  go_upto_region 1 with (fail)
  refine wp_world fun w0 HW => ?_
  have HBa : Hid (Below w.heap.size w w0) := by show Below _ _ _; rw [HW.out]; exact nb_new _ _
  have HR : Hid (Row w0 w.heap.size C 39) := by show Row _ _ _ _; rw [HW.out]; exact Row.new' _ _ _ _ _ rfl rfl
  clear HW
  obtain ⟨b, hb⟩ : ∃ b, w.heap.size = b := ⟨_, rfl⟩
  rw [hb] at HR ⊢
  have HBB : Hid (w.heap.size = b) := hb
  clear hb
  go_upto_region 4 with (first
    | (show wpList _ _ _ (Oper.mk (some 6) (.load 39 (.tmp 1)) _ _ _ _ :: _) _ _; refine HR.out.wpLoad 39 (.tmp 1) rfl rfl rfl _ Tryd.underlying39 rfl (by rw [HL.out]; exact I35.out) ?_)
    | (go_at_call 22; refine Calls.mono (HFC.out _) ?_; rintro e wa ⟨rfl, hba⟩; have HRa : Hid (Row wa b C 39 ∧ Below w.heap.size w wa) := ⟨HR.out.kept hba HR.out.lt, HBa.out.trans (hba.mono HBa.out.size)⟩; clear hba))
  clear HR HBa HFC
  have d0 := HRa.out.1.cell 0 _ HC.out.1
  have hm0 : ∀ w, (Instr.makeSlice 22 (.int .i64 0) (.int .i64 (49 + (nm.size : Int)))).run Tryd.prog w = .ok (.slice (some ⟨w.heap.size, 0, none⟩) 0 (49 + nm.size)) (w.alloc (.cells (bcells (List.replicate (49 + nm.size) 0#8)).toArray 5)) := fun w => by
    have := make0_run w (49 + nm.size) (by omega)
    rw [show (((49 + nm.size : Nat) : Int)) = 49 + (nm.size : Int) by omega] at this
    exact this
  go_upto_region 5 with (fail)
  have HS4 : Hid (EnS wa (wa.alloc (.cells (bcells (List.replicate (49 + nm.size) 0#8)).toArray 5)) b C (.slice (some ⟨wa.heap.size, 0, none⟩) 0 (49 + nm.size)) []) := ⟨HRa.out.1, make0_own wa _ (by omega), nb_new _ _⟩
  clear hm0 d0
  generalize wa.alloc (.cells (bcells (List.replicate (49 + nm.size) 0#8)).toArray 5) = w4 at *
  generalize (Value.slice (some ⟨wa.heap.size, 0, none⟩) 0 (49 + nm.size)) = v4 at *
  have HLN : Hid ((bsOf nm).length = nm.size) := bsOf_len nm
  go_upto_region 6 with (at_builtin; refine wpAppendS (.tmp 16) (.const (.string ⟨#[66, 82, 80, 49]⟩)) rfl rfl rfl HS4.out.own HS4.out.bl.size rfl (by decide) ?_; intro w5 v5 h5 g5)
  have HS5 : Hid (EnS wa w5 b C v5 magicB) := HS4.out.on (by have := h5.out; rw [magic_bs] at this; exact this) g5.out
  clear h5 g5 HS4
  have d0 := HS5.out.cell 0 _ HC.out.1
  have hb1 := bs1
  have HY : Hid (BytesAt (w5.alloc (.cells #[.int .u8 (nm.size : Int)] 5)) (some ⟨w5.heap.size, 0, none⟩) [BitVec.ofNat 8 nm.size]) := byte_one w5 nm.size (by omega)
  go_upto_region 7 with (at_builtin; refine wpAppendA (.tmp 18) (.tmp 23) rfl rfl (base := wa.heap.size) rfl (own_below HS5.out.own (nb_new w5 _)) (Nat.le_trans HS5.out.bl.size (nb_new w5 _).size) rfl (fun e => by cases e) (bs := [BitVec.ofNat 8 nm.size]) rfl HY.out (by decide) ?_; intro w6 v6 h6 g6)
  have HS6 : Hid (EnS wa w6 b C v6 (magicB ++ [BitVec.ofNat 8 nm.size])) := HS5.out.on (own_app h6.out rfl) (own_grow HS5.out.own ((nb_new w5 _).mono HS5.out.bl.size) g6.out.1 HS5.out.bl.size)
  clear h6 g6 HS5 HY hb1 d0
  have d0 := HS6.out.cell 0 _ HC.out.1
  go_upto_region 8 with (at_builtin; refine wpAppendS (.tmp 25) (.tmp 27) rfl rfl rfl HS6.out.own HS6.out.bl.size rfl (by have := HB.out; simp [magicB]; omega) ?_; intro w7 v7 h7 g7)
  have HS7 : Hid (EnS wa w7 b C v7 (magicB ++ [BitVec.ofNat 8 nm.size] ++ bsOf nm)) := HS6.out.on h7.out g7.out
  clear h7 g7 HS6 d0
  have d1 := HS7.out.cell 1 _ HC.out.2.1
  have H8 : Hid (Calls Tryd.prog 47 #[v7, .int .u32 (N : Int)] w7 fun e w' => ∃ v', e = .returned v' ∧ OwnBy w' wa.heap.size v' ((magicB ++ [BitVec.ofNat 8 nm.size] ++ bsOf nm) ++ be4 (BitVec.ofNat 32 N)) ∧ Below wa.heap.size w7 w') := numbered_nat N (by omega) HS7.out.own HS7.out.bl.size (by have := HB.out; have := HLN.out; simp [magicB]; omega)
  go_upto_region 9 with (go_at_call 47; refine Calls.mono H8.out ?_; rintro e w8 ⟨v8, rfl, h8, g8⟩; have HS8 : Hid (EnS wa w8 b C v8 _) := HS7.out.on h8 g8; clear h8 g8)
  clear HS7 H8 d1
  have d2 := HS8.out.cell 2 _ HC.out.2.2
  have H9 : Hid (Calls Tryd.prog 47 #[v8, .int .u32 (P : Int)] w8 fun e w' => ∃ v', e = .returned v' ∧ OwnBy w' wa.heap.size v' (((magicB ++ [BitVec.ofNat 8 nm.size] ++ bsOf nm) ++ be4 (BitVec.ofNat 32 N)) ++ be4 (BitVec.ofNat 32 P)) ∧ Below wa.heap.size w8 w') := numbered_nat P (by omega) HS8.out.own HS8.out.bl.size (by have := HB.out; have := HLN.out; simp [magicB, be4_len]; omega)
  go_upto_region 10 with (go_at_call 47; refine Calls.mono H9.out ?_; rintro e w9 ⟨v9, rfl, h9, g9⟩; have HS9 : Hid (EnS wa w9 b C v9 _) := HS8.out.on h9 g9; clear h9 g9)
  clear HS8 H9 d2
  have HRB : Hid (BytesAt w9 (some ⟨b, 3, none⟩) rt) := fun j hj => ⟨b, 3, rfl, HS9.out.cell (3 + j) _ (HRT.out j _ (bcells_get hj))⟩
  go_upto_region 11 with (at_builtin; refine wpAppendA (.tmp 39) (.tmp 41) rfl rfl (base := wa.heap.size) rfl HS9.out.own HS9.out.bl.size rfl (fun e => by cases e) (bs := rt) HB.out.2.2.2 HRB.out (by have := HB.out; have := HLN.out; simp [magicB, be4_len]; omega) ?_; intro wx vx hx gx)
  have HSX : Hid (EnS wa wx b C vx PB) := by
    show EnS _ _ _ _ _ _
    rw [HPRE.out.2]
    have := HS9.out.on (own_app hx.out HB.out.2.2.2) (own_grow HS9.out.own (Below.refl _ _) gx.out.1 HS9.out.bl.size)
    simpa using this
  have HPL : Hid (PB.length ≤ 400) := by show _ ≤ _; rw [HPRE.out.2]; have := HB.out; have := HLN.out; simp [magicB, be4_len]; omega
  clear hx gx HS9 HRB
  obtain ⟨aX, cX, eX, hBX, -⟩ := ownBy_shape HSX.out.own
  subst eX
  have hbs := bs102
  have HCR : Hid (Calls Tryd.prog 48 #[.slice (some ⟨wx.heap.size, 0, none⟩) 1 1] (wx.alloc (.cells #[.slice aX PB.length cX] 22)) fun e w' => e = .returned (.int .u32 (u (crc PB))) ∧ w' = wx.alloc (.cells #[.slice aX PB.length cX] 22)) := by
    have hp : PartsAt (wx.alloc (.cells #[.slice aX PB.length cX] 22)) (some ⟨wx.heap.size, 0, none⟩) [PB] := fun k hk => by
      obtain rfl : k = 0 := by simpa using hk
      exact ⟨wx.heap.size, 0, aX, cX, rfl, (Row.new' wx #[.slice aX PB.length cX] [.slice aX PB.length cX] 22 _ rfl rfl).cell 0 _ rfl, hBX.kept (nb_new wx _), by have := HPL.out; show PB.length ≤ _; omega⟩
    have h := crc_any (cap := 1) hp ((HT.out.kept (HRa.out.2.trans (HSX.out.bl.mono HRa.out.2.size))).kept (nb_new wx _)) (by show 1 ≤ _; omega)
    simp at h
    exact h
  have HNB : Hid (Calls Tryd.prog 47 #[.slice aX PB.length cX, .int .u32 (u (crc PB))] (wx.alloc (.cells #[.slice aX PB.length cX] 22)) fun e w' => ∃ v', e = .returned v' ∧ OwnBy w' wa.heap.size v' (PB ++ be4 (crc PB)) ∧ Below wa.heap.size (wx.alloc (.cells #[.slice aX PB.length cX] 22)) w') := numbered_any (crc PB) (own_below HSX.out.own (nb_new wx _)) (Nat.le_trans HSX.out.bl.size (nb_new wx _).size) (by have := HPL.out; omega)
  have HBX : Hid (Below w.heap.size w (wx.alloc (.cells #[.slice aX PB.length cX] 22)) ∧ w.heap.size ≤ wa.heap.size) := ⟨(HRa.out.2.trans (HSX.out.bl.mono HRa.out.2.size)).trans ((nb_new wx _).mono (Nat.le_trans HRa.out.2.size HSX.out.bl.size)), HRa.out.2.size⟩
  clear hBX
  go_wp2_with (first
    | (go_at_call 48; refine Calls.mono HCR.out ?_; rintro e wy ⟨rfl, rfl⟩)
    | (go_at_call 47; refine Calls.mono HNB.out ?_; rintro e wz ⟨vz, rfl, hz, gz⟩; have HZ : Hid (OwnBy wz w.heap.size vz (PB ++ be4 (crc PB)) ∧ Below w.heap.size w wz) := ⟨own_less hz HBX.out.2, HBX.out.1.trans (gz.mono HBX.out.2)⟩; clear hz gz))
  go_ret2
  exact ⟨vz, rfl, by rw [HPRE.out.1]; exact HZ.out.1, HZ.out.2⟩
end Go.Proofs.YtaklbofbhanjgaaDoor
