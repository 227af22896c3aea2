import Derived.Test.YtaklbofbhanjgaaDoorNm0
import Derived.Test.YtaklbofbhanjgaaDoorLd1
namespace Go.Proofs.YtaklbofbhanjgaaDoor
open Go.RowKit
set_option maxRecDepth 100000
/-! A manifest: what is wrong with it, how many pieces the file has, how many bytes a piece. -/
structure Mf where
  nm : ByteArray
  sz : Int
  pc : Int
  rt : List (BitVec 8)
def Mf.cells (m : Mf) : List Value := .string m.nm :: .int .i64 m.sz :: .int .i64 m.pc :: bcells m.rt
theorem Mf.cells_len {m : Mf} (h : m.rt.length = 32) : m.cells.length = 35 := by simp [Mf.cells, bcells_len, h]
theorem iMf : (Tryd.prog.info? 39).map (·.size) = some 35 := by kernel_rfl
def fitE (m : Mf) : Int := if namedB m.nm = false then 220 else if m.pc < 1 ∨ 65536 < m.pc then 221 else if m.sz < 0 ∨ 16777216 < m.sz then 222 else 0
set_option maxHeartbeats 2000000 in
theorem fit_any {m : Mf} {w : World} : Calls Tryd.prog 22 #[.agg m.cells.toArray] w fun e w' => e = .returned (.int .i64 (fitE m)) ∧ Below w.heap.size w w' := by
  obtain ⟨nm, sz, pc, rt⟩ := m
  have hN : ∀ w, Calls Tryd.prog 49 #[.string nm] w fun e w' => e = .returned (.bool (namedB nm)) ∧ w' = w := fun w => named_any
  obtain ⟨N, hE⟩ : ∃ N, namedB nm = N := ⟨_, rfl⟩
  rw [hE] at hN
  have HF : Hid (fitE ⟨nm, sz, pc, rt⟩ = if N = false then 220 else if pc < 1 ∨ 65536 < pc then 221 else if sz < 0 ∨ 16777216 < sz then 222 else 0) := by show _ = _; rw [← hE]; rfl
  have HNN := hid hN
  obtain ⟨C, hC⟩ : ∃ C, Mf.cells ⟨nm, sz, pc, rt⟩ = C := ⟨_, rfl⟩
  have hc0 : C[0]? = some (.string nm) := by rw [← hC]; rfl
  have hc1 : C[1]? = some (.int .i64 sz) := by rw [← hC]; rfl
  have hc2 : C[2]? = some (.int .i64 pc) := by rw [← hC]; rfl
  rw [hC]
  have HC := hid (And.intro hc0 (And.intro hc1 hc2))
  clear hC hE hN hc0 hc1 hc2
  go_enter Tryd.func22, Tryd.ntmps22
  go_upto_region 1 with (fail)
  refine wp_world fun wa HW => ?_
  have HBa : Hid (Below w.heap.size w wa) := by show Below _ _ _; rw [HW.out]; exact below_new _ _
  have HR : Hid (Row wa w.heap.size C 39) := by show Row _ _ _ _; rw [HW.out]; exact Row.new' _ _ _ _ _ rfl rfl
  have d0 := HR.out.cell 0 _ HC.out.1
  have d1 := HR.out.cell 1 _ HC.out.2.1
  have d2 := HR.out.cell 2 _ HC.out.2.2
  clear HW HR HC
  cases N with
  | false =>
    go_wp2_with (go_at_call 49; refine (HNN.out _).mono ?_; rintro e w2 ⟨rfl, rfl⟩)
    go_ret
    exact ⟨by rw [HF.out]; rfl, HBa.out⟩
  | true =>
    by_cases h1 : pc < 1
    · have HQ : Hid (fitE ⟨nm, sz, pc, rt⟩ = 221) := by show _ = _; rw [HF.out, if_neg (by decide), if_pos (Or.inl h1)]
      go_wp2_with (go_at_call 49; refine (HNN.out _).mono ?_; rintro e w2 ⟨rfl, rfl⟩)
      go_ret
      exact ⟨by rw [HQ.out]; rfl, HBa.out⟩
    by_cases h2 : 65536 < pc
    · have HQ : Hid (fitE ⟨nm, sz, pc, rt⟩ = 221) := by show _ = _; rw [HF.out, if_neg (by decide), if_pos (Or.inr h2)]
      go_wp2_with (go_at_call 49; refine (HNN.out _).mono ?_; rintro e w2 ⟨rfl, rfl⟩)
      go_ret
      exact ⟨by rw [HQ.out]; rfl, HBa.out⟩
    by_cases h3 : sz < 0
    · have HQ : Hid (fitE ⟨nm, sz, pc, rt⟩ = 222) := by show _ = _; rw [HF.out, if_neg (by decide), if_neg (by omega), if_pos (Or.inl h3)]
      go_wp2_with (go_at_call 49; refine (HNN.out _).mono ?_; rintro e w2 ⟨rfl, rfl⟩)
      go_ret
      exact ⟨by rw [HQ.out]; rfl, HBa.out⟩
    by_cases h4 : 16777216 < sz
    · have HQ : Hid (fitE ⟨nm, sz, pc, rt⟩ = 222) := by show _ = _; rw [HF.out, if_neg (by decide), if_neg (by omega), if_pos (Or.inr h4)]
      go_wp2_with (go_at_call 49; refine (HNN.out _).mono ?_; rintro e w2 ⟨rfl, rfl⟩)
      go_ret
      exact ⟨by rw [HQ.out]; rfl, HBa.out⟩
    have HQ : Hid (fitE ⟨nm, sz, pc, rt⟩ = 0) := by show _ = _; rw [HF.out, if_neg (by decide), if_neg (by omega), if_neg (by omega)]
    go_wp2_with (go_at_call 49; refine (HNN.out _).mono ?_; rintro e w2 ⟨rfl, rfl⟩)
    go_ret
    exact ⟨by rw [HQ.out]; rfl, HBa.out⟩
def cntI (m : Mf) : Int := if fitE m = 0 then (m.sz + m.pc - 1).tdiv m.pc else 0
theorem fitE_ok {m : Mf} (h : fitE m = 0) : namedB m.nm = true ∧ 1 ≤ m.pc ∧ m.pc ≤ 65536 ∧ 0 ≤ m.sz ∧ m.sz ≤ 16777216 := by
  unfold fitE at h
  split at h
  · omega
  · rename_i h1
    split at h
    · omega
    · split at h
      · omega
      · exact ⟨by simpa using h1, by omega, by omega, by omega, by omega⟩
set_option maxHeartbeats 2000000 in
theorem count_any {m : Mf} {w : World} (hr : m.rt.length = 32) : Calls Tryd.prog 28 #[.agg m.cells.toArray] w fun e w' => e = .returned (.int .i64 (cntI m)) ∧ Below w.heap.size w w' := by
  have HFC : Hid (∀ w, Calls Tryd.prog 22 #[.agg m.cells.toArray] w fun e w' => e = .returned (.int .i64 (fitE m)) ∧ Below w.heap.size w w') := fun w => fit_any
  have HL : Hid (m.cells.length = 35) := Mf.cells_len hr
  have I35 := hid iMf
  have HOK := hid (fun h => fitE_ok (m := m) h)
  have HQ : Hid (cntI m = if fitE m = 0 then (m.sz + m.pc - 1).tdiv m.pc else 0) := rfl
  obtain ⟨nm, sz, pc, rt⟩ := m
  generalize fitE ⟨nm, sz, pc, rt⟩ = E at *
  generalize cntI ⟨nm, sz, pc, rt⟩ = N at *
  obtain ⟨C, hC⟩ : ∃ C, Mf.cells ⟨nm, sz, pc, rt⟩ = C := ⟨_, rfl⟩
  have hc1 : C[1]? = some (.int .i64 sz) := by rw [← hC]; rfl
  have hc2 : C[2]? = some (.int .i64 pc) := by rw [← hC]; rfl
  rw [hC] at HFC HL ⊢
  have HC := hid (And.intro hc1 hc2)
  clear hC hc1 hc2 hr
  go_enter Tryd.func28, Tryd.ntmps28
  go_upto_region 1 with (fail)
  refine wp_world fun wa HW => ?_
  have HBa : Hid (Below w.heap.size w wa) := by show Below _ _ _; rw [HW.out]; exact below_new _ _
  have HR : Hid (Row wa w.heap.size C 39) := by show Row _ _ _ _; rw [HW.out]; exact Row.new' _ _ _ _ _ rfl rfl
  clear HW
  by_cases hE : E = 0
  · subst hE
    obtain ⟨-, a1, a2, a3, a4⟩ := HOK.out rfl
    dsimp only at a1 a2 a3 a4 HQ
    rw [if_pos rfl] at HQ
    have q1 : 0 ≤ (sz + pc - 1).tdiv pc := Int.tdiv_nonneg (by omega) (by omega)
    have q2 : (sz + pc - 1).tdiv pc ≤ sz + pc - 1 := Int.tdiv_le_self _ (by omega)
    have q3 : ¬ pc = 0 := by omega
    have q4 : IntKind.i64.wrap ((sz + pc - 1).tdiv pc) = (sz + pc - 1).tdiv pc := by rw [IntKind.wrap_i64]; omega
    go_upto_region 2 with (first
      | (show wpList _ _ _ (Oper.mk (some 3) (.load 39 (.tmp 1)) _ _ _ _ :: _) _ _; refine HR.out.wpLoad 39 (.tmp 1) rfl rfl rfl _ Tryd.underlying39 rfl (by rw [HL.out]; exact I35.out) ?_)
      | (go_at_call 22; refine Calls.mono (HFC.out _) ?_; rintro e w2 ⟨rfl, hb2⟩
         have HB2 := hid hb2
         have d1 := (HR.out.kept hb2 HR.out.lt).cell 1 _ HC.out.1
         have d2 := (HR.out.kept hb2 HR.out.lt).cell 2 _ HC.out.2
         clear hb2))
    go_wp2
    go_ret
    exact ⟨by rw [HQ.out]; rfl, HBa.out.trans (HB2.out.mono HBa.out.size)⟩
  · have hE2 : (E != 0) = true := by simpa using hE
    rw [if_neg hE] at HQ
    go_wp2_with (first
      | (show wpList _ _ _ (Oper.mk (some 3) (.load 39 (.tmp 1)) _ _ _ _ :: _) _ _; refine HR.out.wpLoad 39 (.tmp 1) rfl rfl rfl _ Tryd.underlying39 rfl (by rw [HL.out]; exact I35.out) ?_)
      | (go_at_call 22; refine Calls.mono (HFC.out _) ?_; rintro e w2 ⟨rfl, hb2⟩; have HB2 := hid hb2; clear hb2))
    go_ret
    exact ⟨by rw [HQ.out]; rfl, HBa.out.trans (HB2.out.mono HBa.out.size)⟩
theorem Row.wpLoadF {P : Program} {w : World} {g : Nat} {c : List Value} {t : TypeId} {ops : Array Oper} {rest : List Oper} {o : Oper} {a : Act} {Q : Exit → Act → World → Prop} (h : Row w g c t) (ty : TypeId) (x : Operand) {j : Nat} (hgd : o.guard = some (j, false)) (hy : yielded ops a.tmps j = some false) (ho : o.op = .load ty x)
    (hx : a.eval x = .pointer (some ⟨g, 0, none⟩)) (d : TypeDesc) (hu : P.underlying ty = some d) (hd : (match d with | .struct _ | .array _ _ => true | _ => false) = true) (hi : (P.info? ty).map (·.size) = some c.length)
    (k : wpList P ops Q rest (a.put o.dst (.agg c.toArray)) w) : wpList P ops Q (o :: rest) a w := by
  have hr := h.load (P := P) ty d hu hd hi
  refine wpList_step fun K hK => ?_
  rw [if_pos (by simp [Region.wanted, hgd, hy])]
  have e : (execOp a.eval o).run P w = .ok (.value (.agg c.toArray)) w := by
    generalize a.eval = r at *
    simp [execOp, ho, hx, hr]
  unfold Oper.wp
  rw [e, Oper.upon_value]
  exact hK _ _ k
def sizI (m : Mf) (i : Int) : Int := if i < 0 ∨ cntI m ≤ i then 0 else min m.pc (m.sz - i * m.pc)
theorem cntI_ok {m : Mf} {i : Int} (h : 0 ≤ i) (h2 : i < cntI m) : fitE m = 0 ∧ 0 ≤ i * m.pc ∧ i * m.pc < m.sz := by
  unfold cntI at h2
  split at h2
  · rename_i hE
    obtain ⟨-, a1, a2, a3, a4⟩ := fitE_ok hE
    refine ⟨hE, Int.mul_nonneg h (by omega), ?_⟩
    rw [Int.tdiv_eq_ediv_of_nonneg (by omega)] at h2
    have h3 : (i + 1) * m.pc ≤ m.sz + m.pc - 1 := Int.le_trans (Int.mul_le_mul_of_nonneg_right (by omega) (by omega)) (Int.ediv_mul_le _ (by omega))
    rw [Int.add_mul, Int.one_mul] at h3
    omega
  · omega
set_option maxHeartbeats 2000000 in
theorem size_any {m : Mf} {i : Int} {w : World} (hr : m.rt.length = 32) : Calls Tryd.prog 30 #[.agg m.cells.toArray, .int .i64 i] w fun e w' => e = .returned (.int .i64 (sizI m i)) ∧ Below w.heap.size w w' := by
  have HFC : Hid (∀ w, Calls Tryd.prog 28 #[.agg m.cells.toArray] w fun e w' => e = .returned (.int .i64 (cntI m)) ∧ Below w.heap.size w w') := fun w => count_any hr
  have HL : Hid (m.cells.length = 35) := Mf.cells_len hr
  have I35 := hid iMf
  have HOK := hid (fun h1 h2 => cntI_ok (m := m) (i := i) h1 h2)
  have HFO := hid (fun h => fitE_ok (m := m) h)
  have HQ : Hid (sizI m i = if i < 0 ∨ cntI m ≤ i then 0 else min m.pc (m.sz - i * m.pc)) := rfl
  obtain ⟨nm, sz, pc, rt⟩ := m
  generalize cntI ⟨nm, sz, pc, rt⟩ = N at *
  generalize sizI ⟨nm, sz, pc, rt⟩ i = A at *
  obtain ⟨C, hC⟩ : ∃ C, Mf.cells ⟨nm, sz, pc, rt⟩ = C := ⟨_, rfl⟩
  have hc1 : C[1]? = some (.int .i64 sz) := by rw [← hC]; rfl
  have hc2 : C[2]? = some (.int .i64 pc) := by rw [← hC]; rfl
  rw [hC] at HFC HL ⊢
  have HC := hid (And.intro hc1 hc2)
  clear hC hc1 hc2 hr
  go_enter Tryd.func30, Tryd.ntmps30
  go_upto_region 1 with (fail)
  refine wp_world fun wa HW => ?_
  have HBa : Hid (Below w.heap.size w wa) := by show Below _ _ _; rw [HW.out]; exact below_new _ _
  have HR : Hid (Row wa w.heap.size C 39) := by show Row _ _ _ _; rw [HW.out]; exact Row.new' _ _ _ _ _ rfl rfl
  clear HW
  by_cases h0 : i < 0
  · rw [if_pos (Or.inl h0)] at HQ
    go_wp2_with fail
    go_ret
    exact ⟨by rw [HQ.out]; rfl, HBa.out⟩
  have h0d : decide (i < 0) = false := decide_eq_false h0
  by_cases hN : N ≤ i
  · have hNd : decide (N ≤ i) = true := decide_eq_true hN
    rw [if_pos (Or.inr hN)] at HQ
    go_wp2_with (first
      | (show wpList _ _ _ (Oper.mk (some 9) (.load 39 (.tmp 2)) _ _ _ _ :: _) _ _; refine Row.wpLoadF HR.out 39 (.tmp 2) (j := 2) rfl rfl rfl rfl _ Tryd.underlying39 rfl (by rw [HL.out]; exact I35.out) ?_)
      | (go_at_call 28; refine Calls.mono (HFC.out _) ?_; rintro e w2 ⟨rfl, hb2⟩; have HB2 := hid hb2; clear hb2))
    go_ret
    exact ⟨by rw [HQ.out]; rfl, HBa.out.trans (HB2.out.mono HBa.out.size)⟩
  · have hNd : decide (N ≤ i) = false := decide_eq_false hN
    rw [if_neg (by omega)] at HQ
    obtain ⟨hE, a5, a6⟩ := HOK.out (by omega) (by omega)
    obtain ⟨-, a1, a2, a3, a4⟩ := HFO.out hE
    dsimp only at a1 a2 a3 a4 a5 a6 HQ
    clear hE
    obtain ⟨L, hL⟩ : ∃ L, i * pc = L := ⟨_, rfl⟩
    rw [hL] at a5 a6 HQ
    go_upto_region 2 with (first
      | (show wpList _ _ _ (Oper.mk (some 9) (.load 39 (.tmp 2)) _ _ _ _ :: _) _ _; refine Row.wpLoadF HR.out 39 (.tmp 2) (j := 2) rfl rfl rfl rfl _ Tryd.underlying39 rfl (by rw [HL.out]; exact I35.out) ?_)
      | (go_at_call 28; refine Calls.mono (HFC.out _) ?_; rintro e w2 ⟨rfl, hb2⟩
         have HB2 := hid hb2
         have d1 := (HR.out.kept hb2 HR.out.lt).cell 1 _ HC.out.1
         have d2 := (HR.out.kept hb2 HR.out.lt).cell 2 _ HC.out.2
         clear hb2))
    go_wp2
    go_ret
    exact ⟨by rw [HQ.out]; rfl, HBa.out.trans (HB2.out.mono HBa.out.size)⟩
end Go.Proofs.YtaklbofbhanjgaaDoor
