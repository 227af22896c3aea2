import Derived.Test.YtjpllcliehgnfaaDoorJ22
namespace Go.Proofs.YtjpllcliehgnfaaDoor
open Go.RowKit Go.Sort
set_option maxRecDepth 100000

theorem ownB_row {w : World} {B : Nat} {v : Value} {bs : List (BitVec 8)} (h : OwnB w B v bs) (hp : 0 < bs.length) : ∃ g c cur, v = .slice (some ⟨g, 0, none⟩) bs.length c ∧ B ≤ g ∧ w.heap[g]? = some (.cells cur 5 (0, 0)) ∧ bs.length ≤ c ∧ c ≤ maxLen ∧ cur.size = c ∧ cur.toList.take bs.length = bcells bs := by
  rcases h.2 with ⟨_, hn⟩ | ⟨g, cap, cur, e, hB, hg, hc, hm, hs, ht⟩
  · omega
  · rw [Nat.mul_one] at hs ht
    exact ⟨g, cap, cur, e, hB, hg, hc, hm, hs, ht⟩
theorem bytes_row' {w : World} {g : Nat} {bs : List (BitVec 8)} {cur : Array Value} {t : TypeId} (h : w.heap[g]? = some (.cells cur t (0, 0))) (ht : cur.toList.take bs.length = bcells bs) : BytesAt w (some ⟨g, 0, none⟩) bs := by
  intro k hk
  refine ⟨g, 0, rfl, ?_⟩
  rw [Nat.zero_add, cell_of_row w g k cur t (0, 0) h, ← bcells_get hk, ← ht, List.getElem?_take, if_pos hk]
  simp
/-- One byte of an own row is written. -/
theorem ownB_put {w : World} {B : Nat} {g c : Nat} {bs : List (BitVec 8)} (h : OwnB w B (.slice (some ⟨g, 0, none⟩) bs.length c) bs) {j : Nat} (hj : j < bs.length) (x : BitVec 8) : OwnB (w.setCell ⟨g, j, none⟩ (.int .u8 (ub x))) B (.slice (some ⟨g, 0, none⟩) bs.length c) (bs.set j x) := by
  obtain ⟨g', c', cur, e, hB, hg, hc, hm, hs, ht⟩ := ownB_row h (by omega)
  cases e
  have R : Row w g cur.toList 5 := ⟨by simpa using hg⟩
  have R2 := R.set j (.int .u8 (ub x))
  refine ⟨by rw [bcells_len, Nat.mul_one], .inr ⟨g, c, (cur.toList.set j (.int .u8 (ub x))).toArray, by rw [List.length_set], hB, R2.at_, by rw [List.length_set]; exact hc, hm, by simp [hs], ?_⟩⟩
  rw [Nat.mul_one, List.length_set, List.toList_toArray, List.take_set, ht, bcells_set]
theorem setCell_row {w : World} {a : Addr} {cur : Array Value} {t : TypeId} (hg : w.heap[a.block]? = some (.cells cur t (0, 0))) (x : Value) : ∃ cur2 : Array Value, cur2.size = cur.size ∧ (w.setCell a x).heap[a.block]? = some (.cells cur2 t (0, 0)) := by
  refine ⟨if a.spot.isSome then cur else cur.setIfInBounds a.off x, by split <;> simp, ?_⟩
  simp [World.setCell, Array.getElem?_modify, hg]
theorem ownNil_set {w : World} {B : Nat} {v : Value} (h : OwnB w B v []) (a : Addr) (x : Value) : OwnB (w.setCell a x) B v [] := by
  refine ⟨rfl, ?_⟩
  rcases h.2 with e | ⟨g, cap, cur, hv, h1, hg, h2, h3, h4, h5⟩
  · exact .inl e
  · by_cases hga : g = a.block
    · subst hga
      have R2 : ∃ cur2 : Array Value, cur2.size = cur.size ∧ (w.setCell a x).heap[a.block]? = some (.cells cur2 5 (0, 0)) := setCell_row hg x
      obtain ⟨cur2, hs2, hg2⟩ := R2
      exact .inr ⟨a.block, cap, cur2, hv, h1, hg2, h2, h3, by rw [hs2]; exact h4, by simp [bcells]⟩
    · exact .inr ⟨g, cap, cur, hv, h1, by rw [Below.heap_setCell w a x g hga]; exact hg, h2, h3, h4, h5⟩
theorem xor_ne {x m : BitVec 8} (h : ¬ m = 0#8) : ¬ (x ^^^ m) = x := by
  intro e
  apply h
  have := congrArg (fun y => x ^^^ y) e
  simpa [← BitVec.xor_assoc] using this
theorem set_ne {bs : List (BitVec 8)} {j : Nat} (hj : j < bs.length) {m : BitVec 8} (h : ¬ m = 0#8) : ¬ bs.set j (bs.getD j 0 ^^^ m) = bs := by
  intro e
  have := congrArg (fun l => l.getD j 0) e
  simp only [List.getD_eq_getElem?_getD] at this
  rw [List.getElem?_set_self hj] at this
  exact xor_ne h this
def Fo.turn (f : Fo) (j : Nat) (m : BitVec 8) : Fo := { f with bs := f.bs.set j (f.bs.getD j 0 ^^^ m) }
def LTn (w : World) (f : Fo) (m : BitVec 8) (e : Ending) (w' : World) : Prop := ∃ v j, e = .returned v ∧ j < f.bs.length ∧ FrK w.heap.size (f.turn j m) v w' ∧ Below w.heap.size w w'
set_option maxHeartbeats 1000000 in
theorem lturned_any {w : World} (f : Fo) {a : Option Addr} {c : Nat} (hB : BytesAt w a f.bs) (h0 : 0 < f.bs.length) (hl : f.bs.length ≤ 1000) (t : Int) (m : BitVec 8) :
    Calls Tryd.prog 18 #[frV f.k f.p f.tok f.non (.slice a f.bs.length c) f.bk, .int .i64 t, .int .u8 (ub m)] w (LTn w f m) := by
  have HY := hid hB
  have HL := hid hl
  have H0 := hid h0
  clear hB hl h0
  unfold frV frC
  go_enter Tryd.func18, Tryd.ntmps18
  go_upto_region 1 with fail
  refine wp_world fun wa HW => ?_
  have HI : Hid (Row wa w.heap.size (frC f.k f.p f.tok f.non (.slice a f.bs.length c) f.bk) 29) := by show Row _ _ _ _; rw [HW.out]; exact (Row.new' _ _ _ _ _ rfl rfl).alloc _
  have HX : Hid (Row wa (w.heap.size + 1) frZ 29) := by show Row _ _ _ _; rw [HW.out]; exact Row.new' _ _ _ _ _ (by simp) rfl
  have HB : Hid (Below w.heap.size w wa) := by show Below _ _ _; rw [HW.out]; exact ((Below.refl _ _).alloc (Nat.le_refl _) _).alloc (by simp) _
  clear HW
  go_upto_region 2 with (first
    | (show wpList _ _ _ (Oper.mk (some 8) (.load 29 (.tmp 3)) _ _ _ _ :: _) _ _; refine HI.out.wpLoad 29 (.tmp 3) rfl rfl rfl _ Tryd.underlying29 rfl i29 ?_)
    | (go_at_call 19; refine (copied_any f (HY.out.kept HB.out) HL.out).mono ?_; rintro e w1 ⟨v1, rfl, ⟨d, m1, hv, od, om⟩, hb1⟩; obtain ⟨da, dc, rfl⟩ := OwnB.nilShape od; obtain ⟨ma, mc, rfl, _, _⟩ := om.shape; have HOD := hid od; have HOM := hid om; have HV1 := hid hv; have HB1 := hid hb1; clear od om hv hb1)
    | (show wpList _ _ _ (Oper.mk none (.store 29 (.tmp 3) (.tmp 9)) _ _ _ _ :: _) _ _; refine (HI.out.kept HB1.out HI.out.lt).wpStore' 29 (.tmp 3) (.tmp 9) (frD f.k f.p f.tok f.non (.slice da 0 dc) (.slice ma f.bs.length mc) f.bk) rfl rfl rfl HV1.out rfl (frD_one _ _ _ _ _ _ _ _ _ _ _) i29 ?_; intro w2 HZ2))
  have HI2 : Hid (Row w2 w.heap.size (frD f.k f.p f.tok f.non (.slice da 0 dc) (.slice ma f.bs.length mc) f.bk) 29) := by show Row _ _ _ _; rw [HZ2.out]; exact (HI.out.kept HB1.out HI.out.lt).row _
  have HX2 : Hid (Row w2 (w.heap.size + 1) frZ 29) := by show Row _ _ _ _; rw [HZ2.out]; exact (HX.out.kept HB1.out HX.out.lt).rowOther (by omega) _
  have HB2 : Hid (Below w.heap.size w w2) := by show Below _ _ _; rw [HZ2.out]; exact Go.below_setRow (HB.out.trans (HB1.out.mono HB.out.size)) (Nat.le_refl _) _
  have HD2 : Hid (OwnB w2 wa.heap.size (.slice da 0 dc) []) := by show OwnB _ _ _ _; rw [HZ2.out]; exact ownB_set HOD.out HI.out.lt _
  have HM2 : Hid (OwnB w2 wa.heap.size (.slice ma f.bs.length mc) f.bs) := by show OwnB _ _ _ _; rw [HZ2.out]; exact ownB_set HOM.out HI.out.lt _
  clear HZ2 HB1 HOD HOM HV1
  obtain ⟨g, mc', cur, em, hgB, hgc, hlc, hmc, hcs, hct⟩ := ownB_row HM2.out H0.out
  cases em
  have HGB := hid hgB
  have HGL : Hid (g < w2.heap.size) := (Array.getElem?_eq_some_iff.1 hgc).1
  obtain ⟨N, hN⟩ : ∃ N, N = f.bs.length := ⟨_, rfl⟩
  have hNp : (0 : Int) < (N : Int) := by have := H0.out; omega
  have hN1 : (N : Int) ≤ 1000 := by have := HL.out; omega
  obtain ⟨U, hU⟩ : ∃ U : Nat, IntKind.u64.wrap t = (U : Int) := ⟨(IntKind.u64.wrap t).toNat, by rw [IntKind.wrap_u64]; omega⟩
  have hU2 : t % 18446744073709551616 = (U : Int) := by rw [← IntKind.wrap_u64]; exact hU
  obtain ⟨J, hJ⟩ : ∃ J : Nat, (U : Int) % (N : Int) = (J : Int) := ⟨U % N, by omega⟩
  have hJN : J < N := by
    have h1 := Int.emod_lt_of_pos (U : Int) hNp
    omega
  have hJi : (J : Int) < (N : Int) := by omega
  have hJ0 : (0 : Int) ≤ (J : Int) := by omega
  have hJc : w2.cell? ⟨g, J, none⟩ = some (.int .u8 (ub (f.bs.getD J 0))) := by
    obtain ⟨g2, o2, e2, c2⟩ := (show BytesAt w2 (some ⟨g, 0, none⟩) f.bs from bytes_row' hgc hct) J (by omega)
    cases e2
    rw [Nat.zero_add] at c2
    rw [c2]
    simp [List.getD_eq_getElem?_getD, show J < f.bs.length by omega]
  have hJf : w2.frozen? ⟨g, J, none⟩ = false := by
    have R : Row w2 g cur.toList 5 := ⟨by simpa using hgc⟩
    exact R.frozen J
  clear hgB hgc hlc hmc hcs hct
  have HJN := hid (show J < f.bs.length by omega)
  generalize hx : f.bs.getD J 0 = x at *
  have HXX := hid hx
  have c9 := HI2.out.cell 9 _ rfl
  rw [← hN] at c9
  have HN := hid hN
  clear hN hx hJN
  go_upto_region 4 with fail
  have hNw : IntKind.u64.wrap (N : Int) = (N : Int) := by rw [IntKind.wrap_u64]; omega
  have hJw : IntKind.i64.wrap (J : Int) = (J : Int) := by rw [IntKind.wrap_i64]; omega
  have hN0 : ¬ (N : Int) = 0 := by omega
  have hN0n : ¬ N = 0 := by omega
  have hJm : U % N = J := by omega
  have hJb : J < N := by omega
  have hJt : (U : Int).tmod (N : Int) = (J : Int) := by rw [Int.tmod_eq_emod_of_nonneg (by omega)]; exact hJ
  have c9d := cell_drawn (w2.drawn + 1) c9
  have hJd := cell_drawn (w2.drawn + 1) hJc
  refine wp_region_still_tail 13 (by kernel_rfl) ?hB ?_
  case hB => decide +kernel
  simp only [List.take_succ_cons, List.take_zero, List.drop_succ_cons, List.drop_zero]
  repeat still_step
  refine wpStill_nil ?_
  have HI3 := hid (HI2.out.drawn (w2.drawn + 1))
  have HX3 := hid (HX2.out.drawn (w2.drawn + 1))
  have HB3 := hid (below_drawn HB2.out (w2.drawn + 1))
  have hbd : Below w2.heap.size w2 { w2 with drawn := w2.drawn + 1 } := below_drawn (Below.refl _ _) _
  have HD3 := hid (HD2.out.kept hbd)
  have HM3 := hid (HM2.out.kept hbd)
  have HG3 : Hid (g < ({ w2 with drawn := w2.drawn + 1 } : World).heap.size) := HGL.out
  have hJf' : ({ w2 with drawn := w2.drawn + 1 } : World).frozen? ⟨g, J, none⟩ = false := hJf
  clear c9 hJc hJf c9d HI2 HX2 HB2 HD2 HM2 HGL hbd
  generalize ({ w2 with drawn := w2.drawn + 1 } : World) = w3 at *
  go_upto_region 5 with fail
  have hgw : w.heap.size ≠ g := by have := HGB.out; have := HI.out.lt; omega
  have hgx : w.heap.size + 1 ≠ g := by have := HGB.out; have := HX.out.lt; omega
  have HI4 := hid (HI3.out.setOther ⟨g, J, none⟩ hgw (.int .u8 (ub (x ^^^ m))))
  have HX4 := hid (HX3.out.setOther ⟨g, J, none⟩ hgx (.int .u8 (ub (x ^^^ m))))
  have HB4 : Hid (Below w.heap.size w (w3.setCell ⟨g, J, none⟩ (.int .u8 (ub (x ^^^ m))))) := HB3.out.setCell (show w.heap.size ≤ g from Nat.le_trans HB.out.size HGB.out) _
  have HM4 : Hid (OwnB (w3.setCell ⟨g, J, none⟩ (.int .u8 (ub (x ^^^ m)))) wa.heap.size (.slice (some ⟨g, 0, none⟩) f.bs.length mc) (f.turn J m).bs) := by
    show OwnB _ _ _ (f.bs.set J (f.bs.getD J 0 ^^^ m))
    rw [HXX.out]
    exact ownB_put HM3.out HJN.out (x ^^^ m)
  have HD4 : Hid (OwnB (w3.setCell ⟨g, J, none⟩ (.int .u8 (ub (x ^^^ m)))) wa.heap.size (.slice da 0 dc) []) := ownNil_set HD3.out _ _
  clear hJd hJf' HI3 HX3 HB3 HD3 HM3 HG3
  generalize w3.setCell ⟨g, J, none⟩ (.int .u8 (ub (x ^^^ m))) = w4 at *
  rw [HN.out] at *
  go_wp2_with (first
    | (show wpList _ _ _ (Oper.mk (some 28) (.load 29 (.tmp 3)) _ _ _ _ :: _) _ _; refine HI4.out.wpLoad 29 (.tmp 3) rfl rfl rfl _ Tryd.underlying29 rfl i29 ?_)
    | (show wpList _ _ _ (Oper.mk none (.store 29 (.tmp 6) (.tmp 28)) _ _ _ _ :: _) _ _; refine HX4.out.wpStore' 29 (.tmp 6) (.tmp 28) (frD f.k f.p f.tok f.non (.slice da 0 dc) (.slice (some ⟨g, 0, none⟩) f.bs.length mc) f.bk) rfl rfl rfl rfl rfl (frD_one _ _ _ _ _ _ _ _ _ _ _) i29 ?_; intro wz HZ))
  have hz : Row wz (w.heap.size + 1) (frD f.k f.p f.tok f.non (.slice da 0 dc) (.slice (some ⟨g, 0, none⟩) f.bs.length mc) f.bk) 29 := by rw [HZ.out]; exact HX4.out.row _
  have hb : Below w.heap.size w wz := by rw [HZ.out]; exact Go.below_setRow HB4.out (Nat.le_succ _) _
  have o1 : OwnB wz wa.heap.size (.slice (some ⟨g, 0, none⟩) f.bs.length mc) (f.turn J m).bs := by rw [HZ.out]; exact ownB_set HM4.out HX.out.lt _
  have o2 : OwnB wz wa.heap.size (.slice da 0 dc) [] := by rw [HZ.out]; exact ownB_set HD4.out HX.out.lt _
  exact bodyPost_ret (hz.result Tryd.results18 _ rfl _ Tryd.underlying29 rfl i29) rfl ⟨_, J, rfl, HJN.out, ⟨_, _, rfl, o2.less HB.out.size, o1.less HB.out.size⟩, hb⟩
end Go.Proofs.YtjpllcliehgnfaaDoor
