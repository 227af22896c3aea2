import Derived.Test.YtgfefopihkiihaaCa1
import Derived.Test.YtgfefopihkiihaaMk
namespace Go.Proofs.Ytgfefopihkiihaa
open Go.RowKit Go.Maps
set_option maxRecDepth 100000

set_option maxHeartbeats 8000000 in
theorem packetOf_any {w : World} {e : Evt} (h : EvtOk w e) (hl : e.bs.length ≤ 262132) :
    Calls Try.prog 26 #[.agg (ecells e).toArray] w fun en w' => PkNew w w' e 1000 en := by
  have HE := hid h
  obtain ⟨n, hn⟩ : ∃ n, e.bs.length = n := ⟨_, rfl⟩
  have hn0 : (0 : Int) ≤ (n : Int) := by omega
  have hn1 : (n : Int) ≤ 262132 := by omega
  have R := Row.new w (ecells e) 33
  have R2 := Row.new (w.alloc (.cells (ecells e).toArray 33)) pz 58
  have R1 := R.alloc (.cells pz.toArray 58)
  have hs1 : (w.alloc (.cells (ecells e).toArray 33)).heap.size = w.heap.size + 1 := by simp
  rw [hs1] at R2
  have HB1 := hid ((below_new w (.cells (ecells e).toArray 33)).trans ((below_new (w.alloc (.cells (ecells e).toArray 33)) (.cells pz.toArray 58)).mono (below_new w _).size))
  clear R
  go_enter Try.func26, Try.ntmps26
  go_upto_region 1 with fail
  refine wp_world fun w1 HW1 => ?_
  obtain ⟨b, hb⟩ : ∃ b, w.heap.size = b := ⟨_, rfl⟩
  have R1' : Row w1 b (ecells e) 33 := by rw [HW1.out, ← hb]; exact R1
  have HR2 : Hid (Row w1 (b + 1) pz 58) := by rw [HW1.out, ← hb]; exact R2
  have HB1' : Hid (Below b w w1) := by rw [HW1.out, ← hb]; exact HB1.out
  have HE1 := hid (HE.out.at_.kept (hb ▸ HB1'.out))
  rw [hb]
  have HBB := hid hb
  have HR1 := hid R1'
  have x0 : w1.cell? ⟨b, 0, none⟩ = some (.int .i64 e.what) := R1'.cell 0 _ rfl
  have x1 : w1.cell? ⟨b, 1, none⟩ = some (.int .i64 e.side) := R1'.cell 1 _ rfl
  have x2 : w1.cell? ⟨b, 2, none⟩ = some (.int .i64 e.path) := R1'.cell 2 _ rfl
  have x4 : w1.cell? ⟨b, 4, none⟩ = some (.slice e.fa n e.fc) := by rw [← hn]; exact R1'.cell 4 _ rfl
  have hm : ∀ w, (Instr.makeSlice 31 (.int .i64 0) (.int .i64 (12 + (n : Int)))).run Try.prog w = .ok (.slice (some ⟨w.heap.size, 0, none⟩) 0 (12 + n)) (w.alloc (.cells (bcells (List.replicate (12 + n) 0#8)).toArray 5)) := fun w => by
    have := make0_run w (12 + n) (by omega)
    rwa [show ((12 + n : Nat) : Int) = 12 + (n : Int) by omega] at this
  clear R1 R2 HB1 h hb HW1 R1'
  go_upto_region 2 with fail
  refine wp_world fun w2 HW2 => ?_
  have hO2 : OwnBy w2 w1.heap.size (.slice (some ⟨w1.heap.size, 0, none⟩) 0 (12 + n)) [] := by rw [HW2.out]; exact make0_own w1 (12 + n) (by omega)
  have hB2 : Below w1.heap.size w1 w2 := by rw [HW2.out]; exact below_new _ _
  obtain ⟨B, hB⟩ : ∃ B, w1.heap.size = B := ⟨_, rfl⟩
  rw [hB] at hO2 hB2 ⊢
  have hbB : b < B := by rw [← hB]; exact HR1.out.lt
  have hB2s : B ≤ w2.heap.size := by rw [← hB]; exact hB2.size
  have HO2 := hid hO2
  have HB2 := hid hB2
  have HBS := hid hB
  have x0' := (hB2.cell (p := ⟨b, 0, none⟩) hbB).trans x0
  have x1' := (hB2.cell (p := ⟨b, 1, none⟩) hbB).trans x1
  have x2' := (hB2.cell (p := ⟨b, 2, none⟩) hbB).trans x2
  clear x0 x1 x2 x4 hm HW2 hO2 hB2 hB
  go_upto_region 3 with (at_builtin; refine wpAppendA (.tmp 10) (.tmp 20) rfl rfl (base := B) (v := .slice (some ⟨B, 0, none⟩) 0 (12 + n)) (old := []) rfl (own_below HO2.out (below_new _ _)) (Nat.le_trans hB2s (below_new _ _).size) rfl (fun e => by cases e) rfl (bytes_four (x := 98#8) rfl (u8_of _) (u8_of _) (u8_of _)) (by simp) ?_; intro w3 v3 hO3 hg3)
  have HB3 : Hid (Below B w1 w3) := HB2.out.trans ((below_new w2 _).mono hB2s |>.trans (grown_below hg3.out.1 (fun g e => own_ge HO2.out e) (Nat.le_trans hB2s (below_new _ _).size)))
  have hO3' : OwnBy w3 B v3 [98#8, BitVec.ofInt 8 e.what, BitVec.ofInt 8 e.side, BitVec.ofInt 8 e.path] := hO3.out
  have hs3 : B ≤ w3.heap.size := by have := HB3.out.size; have := HBS.out; omega
  have HLY := hid (lay_any (x := e.clock) (k := 8) hO3' hs3 (by decide) (by simp))
  have x3 : w3.cell? ⟨b, 3, none⟩ = some (.int .u64 e.clock) := (HB3.out.cell (p := ⟨b, 3, none⟩) hbB).trans (HR1.out.cell 3 _ rfl)
  have HO3 := hid hO3'
  clear hO3 hO3' hg3 x0' x1' x2' HO2 HB2
  go_upto_region 4 with (go_at_call 41; refine HLY.out.mono ?_; rintro en w4 ⟨v4, rfl, hO4, hF4⟩)
  have HB4 : Hid (Below B w1 w4) := HB3.out.trans (hF4.below (fun g e => own_ge HO3.out e) hs3)
  have HO4 := hid hO4
  have hs4 : B ≤ w4.heap.size := by have := HB4.out.size; have := HBS.out; omega
  have x4 : w4.cell? ⟨b, 4, none⟩ = some (.slice e.fa n e.fc) := (HB4.out.cell (p := ⟨b, 4, none⟩) hbB).trans (by rw [← hn]; exact HR1.out.cell 4 _ rfl)
  have HE4 := hid (HE1.out.kept (HBS.out ▸ HB4.out))
  have hl4 : ([98#8, BitVec.ofInt 8 e.what, BitVec.ofInt 8 e.side, BitVec.ofInt 8 e.path] ++ be e.clock 8).length + n ≤ 140737488355328 := by simp [be_len]; omega
  clear hO4 hF4 HLY HO3 x3 HB3 HE1
  go_upto_region 5 with (at_builtin; refine wpAppendA (.tmp 27) (.tmp 29) rfl rfl rfl HO4.out hs4 rfl HE.out.nil hn HE4.out hl4 ?_; intro w5 v5 hO5 hg5)
  have hO5' : OwnBy w5 B v5 (dat e) := by
    have h1 := hO5.out
    have e2 : (98#8 :: BitVec.ofInt 8 e.what :: BitVec.ofInt 8 e.side :: BitVec.ofInt 8 e.path :: (be e.clock 8 ++ e.bs)) = ([98#8, BitVec.ofInt 8 e.what, BitVec.ofInt 8 e.side, BitVec.ofInt 8 e.path] ++ be e.clock 8) ++ e.bs := by simp
    have e3 : (dat e).length = ([98#8, BitVec.ofInt 8 e.what, BitVec.ofInt 8 e.side, BitVec.ofInt 8 e.path] ++ be e.clock 8).length + n := by rw [dat_len]; simp [be_len]; omega
    show w5.ownsRow B 5 1 v5 (dat e).length (bcells (dat e))
    rw [e3]
    unfold dat
    rw [e2]
    exact h1
  have HB5 : Hid (Below B w1 w5) := HB4.out.trans (grown_below hg5.out.1 (fun g e => own_ge HO4.out e) hs4)
  have hdl : (dat e).length = n + 12 := by rw [dat_len]; omega
  obtain ⟨a5, c5, rfl, -⟩ := ownBy_shape hO5'
  rw [hdl]
  have HO5 : Hid (OwnBy w5 B (.slice a5 (n + 12) c5) (dat e)) := by have := hO5'; rw [hdl] at this; exact this
  have hmod : ((n + 12 : Nat) : Int) % 4294967296 = (n : Int) + 12 := by omega
  clear hO5 hO5' hg5 HB4 HO4 x4 HE4 hl4
  go_upto_region 6 with fail
  refine wp_world fun w6 HW6 => ?_
  obtain ⟨D, hD⟩ : ∃ D, w5.heap.size = D := ⟨_, rfl⟩
  have R6 : Row w6 D [.int .u32 0, .int .u32 0, .int .u32 ((n : Int) + 12), .slice a5 (n + 12) c5] 58 := by rw [HW6.out, ← hD]; exact Row.new w5 _ 58
  have hB6 : Below D w5 w6 := by rw [HW6.out, ← hD]; exact below_new w5 _
  have hBD : B ≤ D := by have := HB5.out.size; have := HBS.out; omega
  have HB6 : Hid (Below B w1 w6) := HB5.out.trans (hB6.mono hBD)
  have HO6 : Hid (OwnBy w6 B (.slice a5 (n + 12) c5) (dat e)) := own_below HO5.out (hD ▸ hB6)
  have HR26 := hid (HR2.out.kept HB6.out (by have := HR2.out.lt; have := HBS.out; omega))
  have x3 : w6.cell? ⟨b, 3, none⟩ = some (.int .u64 e.clock) := (HB6.out.cell (p := ⟨b, 3, none⟩) hbB).trans (HR1.out.cell 3 _ rfl)
  rw [hD]
  have HM := hid (moment_any (w := w6) false HE.out.c0 HE.out.c1)
  simp only [mul, Bool.false_eq_true, if_false] at HM
  have d0 := R6.cell 0 _ rfl
  have d1 := R6.cell 1 _ rfl
  have f0 := R6.frozen 0
  have f1 := R6.frozen 1
  have hbD : b + 1 ≠ D := by have := HR2.out.lt; have := HBS.out; omega
  let C : List Value := [.int .u32 (e.clock / 1000 % 4294967296), .int .u32 (e.clock % 1000 * 1000), .int .u32 ((n : Int) + 12), .slice a5 (n + 12) c5]
  have R7 : Row ((w6.setCell ⟨D, 0, none⟩ (.int .u32 (e.clock / 1000 % 4294967296))).setCell ⟨D, 1, none⟩ (.int .u32 (e.clock % 1000 * 1000))) D C 58 := (R6.set 0 _).set 1 _
  have R27 : Row ((w6.setCell ⟨D, 0, none⟩ (.int .u32 (e.clock / 1000 % 4294967296))).setCell ⟨D, 1, none⟩ (.int .u32 (e.clock % 1000 * 1000))) (b + 1) pz 58 := (HR26.out.setOther ⟨D, 0, none⟩ hbD _).setOther ⟨D, 1, none⟩ hbD _
  have hF7 : Fr (fun k => k = D) w6 ((w6.setCell ⟨D, 0, none⟩ (.int .u32 (e.clock / 1000 % 4294967296))).setCell ⟨D, 1, none⟩ (.int .u32 (e.clock % 1000 * 1000))) := ((Fr.refl (fun k => k = D) w6).setCell D 0 _ (.inl rfl)).setCell D 1 _ (.inl rfl)
  have HR6 := hid R6
  have HR7 := hid R7
  have HR27 := hid R27
  have HF7 := hid hF7
  have HD := hid hD
  have hC1 : ∀ u ∈ C, u.oneCell' = true := by
    intro u hu
    simp only [C, List.mem_cons, List.not_mem_nil, or_false] at hu
    rcases hu with rfl | rfl | rfl | rfl <;> rfl
  have HC1 := hid hC1
  clear R6 hB6 HB5 HO5 HW6 hD R7 R27 hF7 hC1
  go_upto_region 7 with (go_at_call 42; refine HM.out.mono ?_; rintro en w7 ⟨rfl, hw7⟩; obtain rfl := hw7.symm)
  go_wp2_with (first
    | (show wpList _ _ _ (Oper.mk _ (.load 58 (.tmp 4)) _ _ _ _ :: _) _ _; refine HR7.out.wpLoad 58 (.tmp 4) rfl rfl rfl _ Try.underlying58 rfl info_58 ?_)
    | (show wpList _ _ _ (Oper.mk none (.store 58 (.tmp 2) (.tmp 44)) _ _ _ _ :: _) _ _; refine HR27.out.wpStore' 58 (.tmp 2) (.tmp 44) C rfl rfl rfl rfl rfl HC1.out info_58 ?_; intro w9 HW9))
  have R9 : Row w9 (b + 1) C 58 := by rw [HW9.out]; exact HR27.out.row _
  have hB9 : Below b w w9 := by
    have h1 : Below b w1 w6 := HB6.out.mono (by omega)
    have h2 : Below b w w6 := HB1'.out.trans h1
    have h3 := h2.trans (HF7.out.below (fun x e => by omega) (by have := HB6.out.size; have := HBS.out; omega))
    rw [HW9.out]
    exact below_setRow h3 (by omega) _
  have hO9 : OwnBy w9 B (.slice a5 (n + 12) c5) (dat e) := by
    have h1 := HF7.out.own HO6.out (fun g e' e => own_row HO6.out HR6.out (by decide) (e'.trans (by rw [e])))
    have hF9 : Fr (fun k => k = b + 1) ((w6.setCell ⟨D, 0, none⟩ (.int .u32 (e.clock / 1000 % 4294967296))).setCell ⟨D, 1, none⟩ (.int .u32 (e.clock % 1000 * 1000))) w9 := by rw [HW9.out]; exact fr_row _ _ _
    exact hF9.own h1 (fun g e' e => by have := own_ge h1 e'; have := HR2.out.lt; have := HBS.out; omega)
  have hBb : Below w.heap.size w w9 := HBB.out.symm ▸ hB9
  refine bodyPost_ret (v := .agg C.toArray) (R9.result Try.results26 _ rfl _ Try.underlying58 rfl info_58) rfl ⟨⟨e.clock / 1000 % 4294967296, e.clock % 1000 * 1000, (n : Int) + 12, a5, c5, dat e⟩, ?_, ?_, ?_, hBb⟩
  · simp only [pcells, Pkt.val, hdl]
    rfl
  · simp only [Pkt.view, Evt.pk, hn]
    rw [show ((n : Int) + 12) % 4294967296 = (n : Int) + 12 by omega]
  · simp only [Pkt.val, hdl]
    exact own_less hO9 (by have := HBB.out; omega)
end Go.Proofs.Ytgfefopihkiihaa
