import Derived.Test.YtoeldomhkeancaaNl0
namespace Go.Proofs.Ytoeldomhkeancaa
open Go.RowKit Go.Maps
set_option maxRecDepth 100000

/-- 'append' of cells that may be none to an own row, bounded by bytes. -/
theorem wpAppend2 {t e bytes : Nat} {i : TypeInfo} {z : Value} (ht : Try.prog.underlying t = some (.slice e)) (i1 : Try.prog.info? e = some i) (i2 : i.zero = some z) (i3 : i.size = 1) (i4 : i.bytes = bytes) (hz1 : z.cells.size = 1)
    {ops : Array Oper} {rest : List Oper} {o : Oper} {a : Act} {w : World} {Q : Exit → Act → World → Prop} (s x : Operand) (hgd : o.guard = none) (ho : o.op = .call { callee := .builtin .append, args := #[s, x], argTypes := #[t, t] })
    {base k : Nat} {v : Value} {old : List Value} (hs : a.eval s = v) (hown : w.ownsRow base e 1 v k old) (hbase : base ≤ w.heap.size)
    {ax : Option Addr} {n c : Nat} {bs : List Value} (hx : a.eval x = .slice ax n c) (hz : ax = none → c = 0) (hn : bs.length = n) (hB : ElAt w ax bs) (h1 : ∀ u ∈ bs, u.oneCell' = true) (hl : (k + n) * bytes ≤ 140737488355328) (hl2 : k + n ≤ 140737488355328)
    (h : ∀ w' v', Hid (w'.ownsRow base e 1 v' (k + n) (old ++ bs)) → Hid (w.grownBy w' v.ownBlock ∧ (v'.ownBlock = v.ownBlock ∨ v'.ownBlock = some w.heap.size)) → wpList Try.prog ops Q rest (a.put o.dst v') w') : wpList Try.prog ops Q (o :: rest) a w := by
  subst hn
  cases ax with
  | none =>
    obtain rfl : bs = [] := by
      cases bs with
      | nil => rfl
      | cons b l => obtain ⟨g, o, e, _⟩ := hB 0 b rfl; cases e
    obtain rfl : c = 0 := hz rfl
    refine wpList_append_own_none hgd s x t ho base e i 1 ht i1 v k old hs hown hx (h w v ?_ ⟨World.grownBy.refl _ _, .inl rfl⟩)
    show World.ownsRow _ _ _ _ _ _ _
    rw [List.append_nil]
    exact hown
  | some ad =>
    refine wpList_append_own_at w hgd s x t ho base e i z 1 bytes ht i1 i2 i3 i4 hz1 (by decide) v k old hs hown ad bs.length c bs hx (by omega) ?_ h1 (by unfold maxLen; omega) hl hbase ?_
    · intro j u hv
      obtain ⟨g2, o2, e2, c2⟩ := hB j u hv
      cases e2
      rw [Addr.add_mid]
      exact c2
    · intro v' w' hown' hgrow _ hat
      exact h w' v' hown' ⟨hgrow, hat⟩
theorem own_pos {w : World} {base t n : Nat} {v : Value} {xs : List Value} (h : w.ownsRow base t 1 v n xs) (hn : 0 < n) : ∃ g cap, v = .slice (some ⟨g, 0, none⟩) n cap ∧ n ≤ cap ∧ cap ≤ maxLen ∧ base ≤ g := by
  obtain ⟨hl, ⟨rfl, hn0⟩ | ⟨g, cap, cur, rfl, hb, hg, hnc, hcm, hcs, htk⟩⟩ := h
  · omega
  · exact ⟨g, cap, rfl, hnc, hcm, hb⟩
theorem grown_below {base : Nat} {w w' : World} {v : Value} (hg : w.grownBy w' v.ownBlock) (hb : ∀ g, v.ownBlock = some g → base ≤ g) (hs : base ≤ w.heap.size) : Below base w w' := (Below.refl _ _).grown hg hs hb
theorem Row.result3 {P : Program} {w : World} {g : Nat} {c : List Value} {t : TypeId} {fn : Func} {p u1 u2 : Tmp} {ty : TypeId} (h : Row w g c t) (hr : fn.results = #[.cell p ty, .tmp u1, .tmp u2]) (tmps : Array Value) (hp : tmps.getD p undef = .pointer (some ⟨g, 0, none⟩)) (d : TypeDesc)
    (hu : P.underlying ty = some d) (hd : (match d with | .struct _ | .array _ _ => true | _ => false) = true) (hi : (P.info? ty).map (·.size) = some c.length) : (results fn tmps).run P w = .ok (.tuple #[.agg c.toArray, tmps.getD u1 undef, tmps.getD u2 undef]) w := by
  have hp' : tmps[p]?.getD undef = .pointer (some ⟨g, 0, none⟩) := by simpa using hp
  simp [results, hr, hp', asAddr, run_loadVar_row w g t ty c.toArray (0, 0) d h.at_ hu hd (by simpa using hi)]
theorem info28c : (Try.prog.info? 28).map (·.size) = some 5 := by kernel_rfl
/-- What copied comes to. -/
def CopP (w : World) (r d q : Int) (loss : List Bool) (jit : List Int) (e : Ending) (w' : World) : Prop :=
  ∃ (g1 c1 g2 c2 : Nat), e = .returned (.tuple #[.agg (confC r d q (.slice (some ⟨g1, 0, none⟩) loss.length c1) (.slice (some ⟨g2, 0, none⟩) jit.length c2)).toArray, .slice (some ⟨g1, 0, none⟩) (loss.length + 1) c1, .slice (some ⟨g2, 0, none⟩) (jit.length + 1) c2]) ∧
    w'.ownsRow w.heap.size 4 1 (.slice (some ⟨g1, 0, none⟩) (loss.length + 1) c1) (loss.length + 1) (loss.map Value.bool ++ [.bool true]) ∧
    w'.ownsRow w.heap.size 3 1 (.slice (some ⟨g2, 0, none⟩) (jit.length + 1) c2) (jit.length + 1) (jit.map (Value.int .i64) ++ [.int .i64 77]) ∧ Below w.heap.size w w'
theorem bool_one {l : List Bool} : ∀ u ∈ l.map Value.bool, u.oneCell' = true := by intro u hu; obtain ⟨x, _, rfl⟩ := List.mem_map.1 hu; rfl
theorem int_one {l : List Int} : ∀ u ∈ l.map (Value.int .i64), u.oneCell' = true := by intro u hu; obtain ⟨x, _, rfl⟩ := List.mem_map.1 hu; rfl
theorem el_new (w : World) (v : Value) (t : TypeId) : ElAt (w.alloc (.cells #[v] t)) (some ⟨w.heap.size, 0, none⟩) [v] := fun k x hx => by
  have hk : k < 1 := (List.getElem?_eq_some_iff.1 hx).1
  obtain rfl : k = 0 := by omega
  exact ⟨w.heap.size, 0, rfl, (Row.new w [v] t).cell 0 _ hx⟩
set_option maxHeartbeats 8000000 in
theorem copied_any {w : World} {r d q : Int} {la ja : Option Addr} {lc jc : Nat} {loss : List Bool} {jit : List Int} (hlo : ElAt w la (loss.map Value.bool)) (hj : ElAt w ja (jit.map (Value.int .i64))) (hzl : la = none → lc = 0) (hzj : ja = none → jc = 0) (hll : loss.length + 1 ≤ 140737488355328) (hjl : jit.length + 1 ≤ 17592186044416) :
    Calls Try.prog 28 #[.agg (confC r d q (.slice la loss.length lc) (.slice ja jit.length jc)).toArray] w fun e w' => CopP w r d q loss jit e w' := by
  have hb1 := below_new w (.cells #[.int .i64 r, .int .i64 d, .int .i64 q, .slice la loss.length lc, .slice ja jit.length jc] 28)
  have R1 := Row.new w (confC r d q (.slice la loss.length lc) (.slice ja jit.length jc)) 28
  simp only [confC] at R1 ⊢
  go_enter Try.func28, Try.ntmps28
  go_upto_region 2 with fail
  refine wp_world fun w3 HW => ?_
  have R2 := R1.alloc (.cells #[.int .i64 0, .int .i64 0, .int .i64 0, .slice none 0 0, .slice none 0 0] 28)
  obtain ⟨b1, hb⟩ : ∃ b1, w.heap.size = b1 := ⟨_, rfl⟩
  have hs1 : (w.alloc (.cells #[.int .i64 r, .int .i64 d, .int .i64 q, .slice la loss.length lc, .slice ja jit.length jc] 28)).heap.size = b1 + 1 := by rw [← hb]; simp
  have R3 := Row.new (w.alloc (.cells #[.int .i64 r, .int .i64 d, .int .i64 q, .slice la loss.length lc, .slice ja jit.length jc] 28)) [.int .i64 0, .int .i64 0, .int .i64 0, .slice none 0 0, .slice none 0 0] 28
  rw [hs1] at R3
  have HB3 : Hid (Below w.heap.size w w3) := by
    show Below _ _ _
    rw [HW.out]
    exact below_two hb1 (below_new _ _) (Nat.le_refl _)
  have HR2 : Hid (Row w3 b1 [.int .i64 r, .int .i64 d, .int .i64 q, .slice la loss.length lc, .slice ja jit.length jc] 28) := by show Row w3 _ _ _; rw [HW.out, ← hb]; exact R2
  have HR3 : Hid (Row w3 (b1 + 1) [.int .i64 0, .int .i64 0, .int .i64 0, .slice none 0 0, .slice none 0 0] 28) := by show Row w3 _ _ _; rw [HW.out]; exact R3
  have HBB := hid hb
  rw [hb]
  have HLO := hid (hlo.kept HB3.out)
  have HJI := hid (hj.kept HB3.out)
  have HZL := hid hzl
  have HZJ := hid hzj
  clear HW R1 R2 R3 hb1 hs1 hb hlo hj hzl hzj
  obtain ⟨b2, hb2⟩ : ∃ b2, b1 + 1 = b2 := ⟨_, rfl⟩
  have HW3 := hid hb2
  rw [hb2] at HR3 ⊢
  clear hb2
  have hb12 : b1 < b2 := by have := HW3.out; omega
  have x3 := HR2.out.cell 3 _ rfl
  have x4 := HR2.out.cell 4 _ rfl
  obtain ⟨i, i1, i2, i3, i4⟩ := inf4
  obtain ⟨j, j1, j2, j3, j4⟩ := inf3
  have HO0 : ∀ t, Hid (w3.ownsRow w3.heap.size t 1 (.slice none 0 0) 0 []) := fun t => ⟨rfl, .inl ⟨rfl, rfl⟩⟩
  go_upto_region 3 with (at_builtin; refine wpAppend2 Try.underlying25 i1 i2 i3 i4 rfl (.tmp 7) (.tmp 9) rfl rfl (base := w3.heap.size) (v := .slice none 0 0) (old := []) rfl (HO0 4).out (Nat.le_refl _) rfl HZL.out (by simp) HLO.out bool_one (by omega) (by omega) ?_; intro w4 v4 hO4 hb4)
  have HB4 : Hid (Below w3.heap.size w3 w4) := grown_below hb4.out.1 (fun g e => by simp [Value.ownBlock] at e) (Nat.le_refl _)
  have hO4' : Hid (w4.ownsRow w3.heap.size 4 1 v4 loss.length (loss.map Value.bool)) := by have := hO4.out; rwa [Nat.zero_add, List.nil_append] at this
  have HV4 : Hid (∀ g, v4.ownBlock = some g → w3.heap.size ≤ g) := fun g e => by
    rcases hb4.out.2 with h | h
    · rw [h] at e; simp [Value.ownBlock] at e
    · rw [h] at e; injection e with e; omega
  clear hO4 hb4 x3 x4
  have HA4 := hid (below_new w4 (.cells #[.bool true] 4))
  go_upto_region 4 with (at_builtin; refine wpAppend2 Try.underlying25 i1 i2 i3 i4 rfl (.tmp 11) (.tmp 12) rfl rfl (base := w3.heap.size) (v := v4) (old := loss.map Value.bool) rfl (own_below hO4'.out HA4.out) (Nat.le_trans HB4.out.size HA4.out.size) rfl (fun e => by cases e) rfl (el_new w4 (.bool true) 4) (by intro u hu; simp at hu; rw [hu]; rfl) (by omega) (by omega) ?_; intro w5 v5 hO5 hb5)
  have HB5 : Hid (Below w3.heap.size w3 w5) := (HB4.out.trans (HA4.out.mono HB4.out.size)).trans (grown_below hb5.out.1 HV4.out (Nat.le_trans HB4.out.size HA4.out.size))
  obtain ⟨g1, c1, rfl, hc1, hm1, hg1⟩ := own_pos hO5.out (Nat.succ_pos _)
  clear hb5 HB4 hO4' HV4 HA4
  have y4 := cell_kept HB5.out (HR2.out.cell 4 _ rfl)
  have HO0b : Hid (w5.ownsRow w5.heap.size 3 1 (.slice none 0 0) 0 []) := ⟨rfl, .inl ⟨rfl, rfl⟩⟩
  go_upto_region 6 with (at_builtin; refine wpAppend2 Try.underlying26 j1 j2 j3 j4 rfl (.tmp 14) (.tmp 16) rfl rfl (base := w5.heap.size) (v := .slice none 0 0) (old := []) rfl HO0b.out (Nat.le_refl _) rfl HZJ.out (by simp) (HJI.out.kept HB5.out) int_one (by omega) (by omega) ?_; intro w6 v6 hO6 hb6)
  have HB6 : Hid (Below w5.heap.size w5 w6) := grown_below hb6.out.1 (fun g e => by simp [Value.ownBlock] at e) (Nat.le_refl _)
  have hO6' : Hid (w6.ownsRow w5.heap.size 3 1 v6 jit.length (jit.map (Value.int .i64))) := by have := hO6.out; rwa [Nat.zero_add, List.nil_append] at this
  have HV6 : Hid (∀ g, v6.ownBlock = some g → w5.heap.size ≤ g) := fun g e => by
    rcases hb6.out.2 with h | h
    · rw [h] at e; simp [Value.ownBlock] at e
    · rw [h] at e; injection e with e; omega
  clear hO6 hb6 y4
  have HA6 := hid (below_new w6 (.cells #[.int .i64 77] 3))
  go_upto_region 7 with (at_builtin; refine wpAppend2 Try.underlying26 j1 j2 j3 j4 rfl (.tmp 18) (.tmp 19) rfl rfl (base := w5.heap.size) (v := v6) (old := jit.map (Value.int .i64)) rfl (own_below hO6'.out HA6.out) (Nat.le_trans HB6.out.size HA6.out.size) rfl (fun e => by cases e) rfl (el_new w6 (.int .i64 77) 3) (by intro u hu; simp at hu; rw [hu]; rfl) (by omega) (by omega) ?_; intro w7 v7 hO7 hb7)
  have HB7 : Hid (Below w5.heap.size w5 w7) := (HB6.out.trans (HA6.out.mono HB6.out.size)).trans (grown_below hb7.out.1 HV6.out (Nat.le_trans HB6.out.size HA6.out.size))
  obtain ⟨g2, c2, rfl, hc2, hm2, hg2⟩ := own_pos hO7.out (Nat.succ_pos _)
  clear hb7 HB6 hO6' HV6 HA6
  have HB37 := hid (below_two HB5.out HB7.out (Nat.le_refl _))
  have HRa := hid (HR2.out.kept HB37.out HR2.out.lt)
  have HRb := hid (HR3.out.kept HB37.out HR3.out.lt)
  have HOa := hid (own_below hO5.out HB7.out)
  have z3 := HRa.out.cell 3 _ rfl
  have f3 := HRa.out.frozen 3
  have HRc := hid (HRa.out.set 3 (.slice (some ⟨g1, 0, none⟩) loss.length c1))
  have z4 := HRc.out.cell 4 _ rfl
  have f4 := HRc.out.frozen 4
  have hc1i : (loss.length : Int) + 1 ≤ (c1 : Int) := by omega
  have hc2i : (jit.length : Int) + 1 ≤ (c2 : Int) := by omega
  have hm1i : (c1 : Int) ≤ 9223372036854775807 := by unfold maxLen at hm1; omega
  have hm2i : (c2 : Int) ≤ 9223372036854775807 := by unfold maxLen at hm2; omega
  go_upto_region 9 with fail
  have HRd := hid (HRc.out.set 4 (.slice (some ⟨g2, 0, none⟩) jit.length c2))
  have HRe := hid ((HRb.out.setOther ⟨b1, 3, none⟩ (show b2 ≠ b1 by omega) (.slice (some ⟨g1, 0, none⟩) loss.length c1)).setOther ⟨b1, 4, none⟩ (show b2 ≠ b1 by omega) (.slice (some ⟨g2, 0, none⟩) jit.length c2))
  have HF := hid (((Fr.refl (fun j => j = b1) w7).setCell b1 3 (.slice (some ⟨g1, 0, none⟩) loss.length c1) (.inl rfl)).setCell b1 4 (.slice (some ⟨g2, 0, none⟩) jit.length c2) (.inl rfl))
  have HPa := hid (HF.out.own HOa.out (fun g e e' => own_row HOa.out HRa.out (by decide) (e' ▸ e)))
  have HPb := hid (HF.out.own hO7.out (fun g e e' => own_row hO7.out HRa.out (by decide) (e' ▸ e)))
  have HBw : Hid (Below w.heap.size w w7) := below_two HB3.out HB37.out (Nat.le_refl _)
  have HBx : Hid (Below w.heap.size w ((w7.setCell ⟨b1, 3, none⟩ (.slice (some ⟨g1, 0, none⟩) loss.length c1)).setCell ⟨b1, 4, none⟩ (.slice (some ⟨g2, 0, none⟩) jit.length c2))) := HBw.out.trans (HF.out.below (fun x e => by have := HBB.out; omega) HBw.out.size)
  have HS5 := hid (Nat.le_trans HB3.out.size HB5.out.size)
  clear z3 f3 z4 f4 HRc HRa HRb HF HOa hO5 hO7
  revert HRd HRe HPa HPb HBx
  generalize (w7.setCell ⟨b1, 3, none⟩ (.slice (some ⟨g1, 0, none⟩) loss.length c1)).setCell ⟨b1, 4, none⟩ (.slice (some ⟨g2, 0, none⟩) jit.length c2) = w8
  intro HRd HRe HPa HPb HBx
  have hco : ∀ u ∈ confC r d q (.slice (some ⟨g1, 0, none⟩) loss.length c1) (.slice (some ⟨g2, 0, none⟩) jit.length c2), u.oneCell' = true := by
    intro u hu
    simp only [confC, List.mem_cons, List.not_mem_nil, or_false] at hu
    rcases hu with rfl | rfl | rfl | rfl | rfl <;> rfl
  go_wp2_with (first
    | (show wpList _ _ _ (Oper.mk _ (.load 28 (.tmp 1)) _ _ _ _ :: _) _ _; refine HRd.out.wpLoad 28 (.tmp 1) rfl rfl rfl _ Try.underlying28 rfl info28c ?_)
    | (show wpList _ _ _ (Oper.mk none (.store 28 (.tmp 2) (.tmp 33)) _ _ _ _ :: _) _ _; refine HRe.out.wpStore' 28 (.tmp 2) (.tmp 33) (confC r d q (.slice (some ⟨g1, 0, none⟩) loss.length c1) (.slice (some ⟨g2, 0, none⟩) jit.length c2)) rfl rfl rfl rfl rfl hco info28c ?_; intro w9 HW9))
  have R9 : Row w9 b2 (confC r d q (.slice (some ⟨g1, 0, none⟩) loss.length c1) (.slice (some ⟨g2, 0, none⟩) jit.length c2)) 28 := by rw [HW9.out]; exact HRe.out.row _
  have F9 : Fr (fun j => j = b2) w8 w9 := by rw [HW9.out]; exact fr_row _ _ _
  have B9 : Below w.heap.size w w9 := HBx.out.trans (F9.below (fun x e => by have := HBB.out; omega) HBx.out.size)
  have P1 := own_less (F9.own HPa.out (fun g e e' => own_row HPa.out HRe.out (by decide) (e' ▸ e))) HB3.out.size
  have P2 := own_less (F9.own HPb.out (fun g e e' => own_row HPb.out HRe.out (by decide) (e' ▸ e))) HS5.out
  exact bodyPost_ret (v := .tuple #[.agg (confC r d q (.slice (some ⟨g1, 0, none⟩) loss.length c1) (.slice (some ⟨g2, 0, none⟩) jit.length c2)).toArray, .slice (some ⟨g1, 0, none⟩) (loss.length + 1) c1, .slice (some ⟨g2, 0, none⟩) (jit.length + 1) c2]) (R9.result3 Try.results28 _ rfl _ Try.underlying28 rfl info28c) rfl ⟨g1, c1, g2, c2, rfl, P1, P2, B9⟩
end Go.Proofs.Ytoeldomhkeancaa
