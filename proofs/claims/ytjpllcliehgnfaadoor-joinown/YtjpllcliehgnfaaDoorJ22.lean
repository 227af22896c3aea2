import Derived.Test.YtjpllcliehgnfaaDoorJ20
namespace Go.Proofs.YtjpllcliehgnfaaDoor
open Go.RowKit Go.Sort
set_option maxRecDepth 100000

/-- append(nil, b...) -/
theorem wpAppendN {ops : Array Oper} {rest : List Oper} {o : Oper} {a : Act} {w : World} {Q : Exit → Act → World → Prop} (s x : Operand) (hgd : o.guard = none) (ho : o.op = .call { callee := .builtin .append, args := #[s, x], argTypes := #[25, 25] })
    (hs : a.eval s = .slice none 0 0) {ad : Option Addr} {c : Nat} {bs : List (BitVec 8)} (hx : a.eval x = .slice ad bs.length c) (hB : BytesAt w ad bs) (hl : bs.length ≤ 1000)
    (h : ∀ w' v, Hid (OwnB w' w.heap.size v bs) → Hid (Below w.heap.size w w') → wpList Tryd.prog ops Q rest (a.put o.dst v) w') : wpList Tryd.prog ops Q (o :: rest) a w := by
  cases ad with
  | none =>
    cases bs with
    | cons b bs => obtain ⟨_, _, e, _⟩ := hB 0 (by simp); cases e
    | nil =>
      obtain ⟨i, h1, h2, h3, h4⟩ := info5
      refine wpList_plain hgd fun K hK => ?_
      have hr : (Builtin.append_ #[25, 25] o.type #[.slice none 0 0, .slice none 0 c]).run Tryd.prog w = .ok (.slice none 0 0) w := by
        simp [Builtin.append_, run_underlying Tryd.underlying25, sizeOf, typeInfo, h1, Builtin.lenOf, Builtin.firstCells]
      unfold Oper.wp execOp
      simp only [ho, resolve, invoke, builtin, Sem.run_bind, Sem.run_pure, Result.andThen_ok, List.map_toArray, List.map_cons, List.map_nil, hs, hx, List.length_nil, hr]
      exact hK _ _ (h w _ (OwnB.nil _ _) (Below.refl _ _))
  | some d =>
    refine wpAppendB s x hgd ho (B := w.heap.size) (xs := []) (ys := bs) hs ⟨rfl, .inl ⟨rfl, rfl⟩⟩ rfl hx hB (by simpa using hl) (Nat.le_refl _) fun w' v' HO HB => ?_
    exact h w' v' HO.out HB.out
set_option maxHeartbeats 400000 in
theorem copy_any {w : World} {a : Option Addr} {n c : Nat} {bs : List (BitVec 8)} (hB : BytesAt w a bs) (hn : bs.length = n) (hl : n ≤ 1000) :
    Calls Tryd.prog 35 #[.slice a n c] w fun e w' => ∃ v, e = .returned v ∧ OwnB w' w.heap.size v bs ∧ Below w.heap.size w w' := by
  subst hn
  have HB := hid hB
  have HL := hid hl
  clear hB hl
  go_enter Tryd.func35, Tryd.ntmps35
  go_wp2_with (at_builtin; refine wpAppendN (.tmp 4) (.tmp 5) rfl rfl rfl rfl HB.out HL.out fun w1 v1 HO1 HB1 => ?_)
  go_ret
  exact ⟨_, rfl, HO1.out, HB1.out⟩

/-- A frame's cells, with Data of its own. -/
def frD (k p : Int) (tok non : BitVec 32) (d mac : Value) (bk : Bool) : List Value := [.int .i64 k, .int .i64 p, .int .u64 0, .int .u64 0, .int .u64 0, d, .slice none 0 0, .int .u32 (u tok), .int .u32 (u non), mac, .bool bk, .int .i64 0]
theorem frD_one (k p : Int) (tok non : BitVec 32) (s t : Option Addr) (n c n' c' : Nat) (bk : Bool) : ∀ v ∈ frD k p tok non (.slice s n c) (.slice t n' c') bk, v.oneCell' = true := by
  intro v hv
  simp [frD] at hv
  rcases hv with rfl | rfl | rfl | rfl | rfl | rfl | rfl | rfl | rfl | rfl <;> rfl
/-- A frame that says f, its Data and its Mac in memory of their own. -/
def FrK (B : Nat) (f : Fo) (v : Value) (w : World) : Prop := ∃ d m, v = .agg (frD f.k f.p f.tok f.non d m f.bk).toArray ∧ OwnB w B d [] ∧ OwnB w B m f.bs
set_option maxHeartbeats 1000000 in
theorem copied_any {w : World} (f : Fo) {a : Option Addr} {c : Nat} (hB : BytesAt w a f.bs) (hl : f.bs.length ≤ 1000) :
    Calls Tryd.prog 19 #[frV f.k f.p f.tok f.non (.slice a f.bs.length c) f.bk] w fun e w' => ∃ v, e = .returned v ∧ FrK w.heap.size f v w' ∧ Below w.heap.size w w' := by
  have HY := hid hB
  have HL := hid hl
  clear hB hl
  unfold frV frC
  go_enter Tryd.func19, Tryd.ntmps19
  go_upto_region 1 with fail
  refine wp_world fun wa HW => ?_
  have HI : Hid (Row wa w.heap.size (frC f.k f.p f.tok f.non (.slice a f.bs.length c) f.bk) 29) := by show Row _ _ _ _; rw [HW.out]; exact (Row.new' _ _ _ _ _ rfl rfl).alloc _
  have HX : Hid (Row wa (w.heap.size + 1) frZ 29) := by show Row _ _ _ _; rw [HW.out]; exact Row.new' _ _ _ _ _ (by simp) rfl
  have HB : Hid (Below w.heap.size w wa) := by show Below _ _ _; rw [HW.out]; exact ((Below.refl _ _).alloc (Nat.le_refl _) _).alloc (by simp) _
  clear HW
  have c9 := HI.out.cell 9 _ rfl
  go_upto_region 2 with (go_at_call 35; refine (copy_any (HY.out.kept HB.out) rfl HL.out).mono ?_; rintro e w1 ⟨v1, rfl, ho1, hb1⟩; obtain ⟨a1, c1, rfl, _, _⟩ := ho1.shape; have HO1 := hid ho1; have HB1 := hid hb1; have c9' := (HI.out.kept hb1 HI.out.lt).cell 9 _ rfl; have f9' := (HI.out.kept hb1 HI.out.lt).frozen 9; clear ho1 hb1 c9)
  have HI1 := hid (HI.out.kept HB1.out HI.out.lt)
  have HX1 := hid (HX.out.kept HB1.out HX.out.lt)
  have HI2 := hid (HI1.out.set 9 (.slice a1 f.bs.length c1))
  have HX2 := hid (HX1.out.setOther ⟨w.heap.size, 9, none⟩ (by show w.heap.size + 1 ≠ w.heap.size; omega) (.slice a1 f.bs.length c1))
  have HB2 : Hid (Below w.heap.size w (w1.setCell ⟨w.heap.size, 9, none⟩ (.slice a1 f.bs.length c1))) := (HB.out.trans (HB1.out.mono HB.out.size)).setCell (show w.heap.size ≤ w.heap.size from Nat.le_refl _) _
  have HO2 : Hid (OwnB (w1.setCell ⟨w.heap.size, 9, none⟩ (.slice a1 f.bs.length c1)) wa.heap.size (.slice a1 f.bs.length c1) f.bs) := OwnB.only HO1.out ((Only.refl w.heap.size w1).setCell 9 _) HI.out.lt
  have HS2 : Hid (wa.heap.size ≤ (w1.setCell ⟨w.heap.size, 9, none⟩ (.slice a1 f.bs.length c1)).heap.size) := Nat.le_trans HB1.out.size ((Only.refl w.heap.size w1).setCell 9 (.slice a1 f.bs.length c1)).size
  clear c9' f9' HI1 HX1 HO1 HB1
  generalize w1.setCell ⟨w.heap.size, 9, none⟩ (.slice a1 f.bs.length c1) = w2 at *
  have c5 := HI2.out.cell 5 _ rfl
  go_upto_region 3 with (go_at_call 35; refine (copy_any (bytes_nil w2) rfl (by decide)).mono ?_; rintro e w3 ⟨v3, rfl, ho3, hb3⟩; obtain ⟨a3, c3, rfl⟩ := OwnB.nilShape ho3; have HO3 := hid ho3; have HB3 := hid hb3; have c5' := (HI2.out.kept hb3 HI2.out.lt).cell 5 _ rfl; have f5' := (HI2.out.kept hb3 HI2.out.lt).frozen 5; clear ho3 hb3 c5)
  have HI3 := hid ((HI2.out.kept HB3.out HI2.out.lt).set 5 (.slice a3 0 c3))
  have HX3 := hid ((HX2.out.kept HB3.out HX2.out.lt).setOther ⟨w.heap.size, 5, none⟩ (by show w.heap.size + 1 ≠ w.heap.size; omega) (.slice a3 0 c3))
  have HB4 : Hid (Below w.heap.size w (w3.setCell ⟨w.heap.size, 5, none⟩ (.slice a3 0 c3))) := (HB2.out.trans (HB3.out.mono HB2.out.size)).setCell (show w.heap.size ≤ w.heap.size from Nat.le_refl _) _
  have HO4 : Hid (OwnB (w3.setCell ⟨w.heap.size, 5, none⟩ (.slice a3 0 c3)) wa.heap.size (.slice a1 f.bs.length c1) f.bs) := OwnB.only (HO2.out.kept HB3.out) ((Only.refl w.heap.size w3).setCell 5 _) HI.out.lt
  have HO5 : Hid (OwnB (w3.setCell ⟨w.heap.size, 5, none⟩ (.slice a3 0 c3)) wa.heap.size (.slice a3 0 c3) []) := OwnB.only (HO3.out.less HS2.out) ((Only.refl w.heap.size w3).setCell 5 _) HI.out.lt
  clear c5' f5' HO2 HO3 HB2 HB3 HI2 HX2
  generalize w3.setCell ⟨w.heap.size, 5, none⟩ (.slice a3 0 c3) = w4 at *
  go_wp2_with (first
    | (show wpList _ _ _ (Oper.mk (some 11) (.load 29 (.tmp 1)) _ _ _ _ :: _) _ _; refine HI3.out.wpLoad 29 (.tmp 1) rfl rfl rfl _ Tryd.underlying29 rfl i29 ?_)
    | (show wpList _ _ _ (Oper.mk none (.store 29 (.tmp 2) (.tmp 11)) _ _ _ _ :: _) _ _; refine HX3.out.wpStore' 29 (.tmp 2) (.tmp 11) (frD f.k f.p f.tok f.non (.slice a3 0 c3) (.slice a1 f.bs.length c1) f.bk) rfl rfl rfl rfl rfl (frD_one _ _ _ _ _ _ _ _ _ _ _) i29 ?_; intro wz HZ))
  have hz : Row wz (w.heap.size + 1) (frD f.k f.p f.tok f.non (.slice a3 0 c3) (.slice a1 f.bs.length c1) f.bk) 29 := by rw [HZ.out]; exact HX3.out.row _
  have hb : Below w.heap.size w wz := by rw [HZ.out]; exact Go.below_setRow HB4.out (Nat.le_succ _) _
  have o1 : OwnB wz wa.heap.size (.slice a1 f.bs.length c1) f.bs := by rw [HZ.out]; exact ownB_set HO4.out HX.out.lt _
  have o2 : OwnB wz wa.heap.size (.slice a3 0 c3) [] := by rw [HZ.out]; exact ownB_set HO5.out HX.out.lt _
  exact bodyPost_ret (hz.result Tryd.results19 _ rfl _ Tryd.underlying29 rfl i29) rfl ⟨_, rfl, ⟨_, _, rfl, o2.less HB.out.size, o1.less HB.out.size⟩, hb⟩
end Go.Proofs.YtjpllcliehgnfaaDoor
