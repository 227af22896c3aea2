import Derived.Test.YtnflgkobedbemaaGreatDoorHMac3
import Derived.StillTailTactics
import Derived.Laws.AppendOwn
namespace Go.Proofs.YtnflgkobedbemaaGreatDoor.Sh
open Go.RowKit
set_option maxRecDepth 100000

/-! A region that draws its order, and whose every operation has a slot of its own: what each slot holds once its operation has come up. -/
structure SI (G : List Bool → World → Prop) (ops : Array Oper) (A : Act) (Spec : Nat → Value → World → Prop) (l : List Bool) (a : Act) (w : World) : Prop where
  len : l.length = ops.size
  defers : a.defers = A.defers
  size : a.tmps.size = A.tmps.size
  old : ∀ (t : Nat), (∀ (i : Nat) (o : Oper), ops[i]? = some o → o.dst ≠ some t) → a.tmps[t]? = A.tmps[t]?
  new : ∀ (i : Nat) (o : Oper) (d : Nat), l[i]? = some true → ops[i]? = some o → o.dst = some d → ∃ v, a.tmps[d]? = some v ∧ Spec i v w
  bel : G l w
section
variable {G : List Bool → World → Prop} {w w' : World} {ops : Array Oper} {A a : Act} {Spec : Nat → Value → World → Prop} {l : List Bool} {o : Oper} {i d : Nat} {v : Value}
theorem ready_dep {md : Region.Mode} (hm : i ∈ Region.ready md ops l.toArray) (ho : ops[i]? = some o) {j : Nat} (h : (o.after.any fun e => Region.binds md e && e.on == j) = true) : l[j]? = some true := by
  unfold Region.ready at hm
  have h1 := (List.mem_filter.1 hm).2
  rw [ho] at h1
  simp only [Option.map_some, Option.getD_some, Bool.and_eq_true] at h1
  rw [Array.any_eq_true'] at h
  obtain ⟨e, he, hb⟩ := h
  simp only [Bool.and_eq_true, beq_iff_eq] at hb
  have h2 := Array.all_eq_true'.1 h1.2 e he
  rw [hb.1] at h2
  simp only [Bool.not_true, Bool.false_or] at h2
  rw [← hb.2]
  have h3 : ∃ h : e.on < l.length, l[e.on] = true := by simpa [Array.getD] using h2
  obtain ⟨h4, h5⟩ := h3
  rw [List.getElem?_eq_getElem h4, h5]
theorem SI.step (h : SI G ops A Spec l a w) (ho : ops[i]? = some o) (hd : o.dst = some d) (hdl : d < A.tmps.size) (hu : ((List.range ops.size).all fun j => j == i || ((ops[j]?).map fun o' => o'.dst != some d).getD true) = true) (hs : Spec i v w') (hb : G (l.set i true) w') (hm : ∀ j v, j ≠ i → Spec j v w → Spec j v w') : SI G ops A Spec (l.set i true) (a.put o.dst v) w' := by
  refine ⟨by rw [List.length_set]; exact h.len, by rw [hd]; exact h.defers, by rw [hd]; simp [Act.put]; exact h.size, ?_, ?_, hb⟩
  · intro t ht
    rw [hd]
    have hne : d ≠ t := fun e => ht i o ho (by rw [hd, e])
    simp only [Act.put]
    rw [Array.getElem?_setIfInBounds_ne hne]
    exact h.old t ht
  · intro j o' d' hl ho' hd'
    rw [hd]
    simp only [Act.put]
    by_cases hj : j = i
    · subst hj
      rw [ho] at ho'
      cases ho'
      rw [hd] at hd'
      cases hd'
      exact ⟨v, by rw [Array.getElem?_setIfInBounds_self_of_lt (by rw [h.size]; exact hdl)], hs⟩
    · rw [List.getElem?_set_ne (Ne.symm hj)] at hl
      obtain ⟨x, hx, hsx⟩ := h.new j o' d' hl ho' hd'
      have hne : d ≠ d' := fun e => by
        have hjs : j < ops.size := (Array.getElem?_eq_some_iff.1 ho').1
        have h1 := List.all_eq_true.1 hu j (by simpa using hjs)
        rw [ho'] at h1
        simp only [Option.map_some, Option.getD_some, Bool.or_eq_true, beq_iff_eq, bne_iff_ne] at h1
        rcases h1 with h1 | h1
        · exact hj h1
        · exact h1 (by rw [hd', e])
      exact ⟨x, by rw [Array.getElem?_setIfInBounds_ne hne]; exact hx, hm j x hj hsx⟩
theorem eval_tmp {t : Nat} (h : a.tmps[t]? = some v) : a.eval (.tmp t) = v := by
  show a.tmps.getD t undef = v
  rw [Array.getD_eq_getD_getElem?, h]; rfl
theorem SI.oldv (h : SI G ops A Spec l a w) {t : Nat} (hc : (ops.all fun o => o.dst != some t) = true) (hA : A.tmps[t]? = some v) : a.eval (.tmp t) = v := by
  refine eval_tmp ((h.old t ?_).trans hA)
  intro i o ho
  have h1 := Array.all_eq_true'.1 hc o (Array.mem_of_getElem? ho)
  simpa using h1
theorem SI.val (h : SI G ops A Spec l a w) (hm : i ∈ Region.ready .any ops l.toArray) (ho : ops[i]? = some o) {j : Nat} {o' : Oper} (hj : ops[j]? = some o') (hd : o'.dst = some d) (he : (o.after.any fun e => Region.binds .any e && e.on == j) = true) : ∃ v, a.eval (.tmp d) = v ∧ Spec j v w := by
  obtain ⟨v, hv, hs⟩ := h.new j o' d (ready_dep hm ho he) hj hd
  exact ⟨v, eval_tmp hv, hs⟩
/-- What has come up, and all that it waited for. -/
def Closed (ops : Array Oper) (l : List Bool) : Prop := ∀ (k : Nat) (o : Oper) (j : Nat), l[k]? = some true → ops[k]? = some o → (o.after.any fun e => Region.binds .any e && e.on == j) = true → l[j]? = some true
theorem Closed.step (h : Closed ops l) (hm : i ∈ Region.ready .any ops l.toArray) : Closed ops (l.set i true) := by
  intro k o' j hk ho' ha
  have key : l[j]? = some true := by
    by_cases hki : k = i
    · subst hki
      exact ready_dep hm ho' ha
    · rw [List.getElem?_set_ne (Ne.symm hki)] at hk
      exact h k o' j hk ho' ha
  by_cases hji : j = i
  · subst hji
    rw [List.getElem?_set_self (List.getElem?_eq_some_iff.1 key).1]
  · rw [List.getElem?_set_ne (Ne.symm hji)]
    exact key
end
end Go.Proofs.YtnflgkobedbemaaGreatDoor.Sh

namespace Go.Proofs.YtnflgkobedbemaaGreatDoor.Sh
open Go.RowKit
set_option maxRecDepth 100000

/-- A row of bytes of its own that is handed out: not below B, as long as told. -/
def OwnB (w : World) (B : Nat) (v : Value) (bs : List (BitVec 8)) : Prop := w.ownsRow B 5 1 v bs.length (bcells bs)
theorem OwnB.new (w : World) (bs : List (BitVec 8)) (n : Nat) (hn : bs.length = n) (h : n ≤ 1000) : OwnB (w.alloc (.cells (bcells bs).toArray 5)) w.heap.size (.slice (some ⟨w.heap.size, 0, none⟩) n n) bs := by
  subst hn
  refine ⟨by rw [bcells_len, Nat.mul_one], .inr ⟨w.heap.size, bs.length, (bcells bs).toArray, rfl, Nat.le_refl _, heap_alloc_last _ _, Nat.le_refl _, by unfold maxLen; omega, by simp [bcells_len], by rw [Nat.mul_one, ← bcells_len bs, List.take_of_length_le (by simp)]⟩⟩
theorem OwnB.kept {w w' : World} {B : Nat} {v : Value} {bs : List (BitVec 8)} (h : OwnB w B v bs) (hb : Below w.heap.size w w') : OwnB w' B v bs := by
  refine ⟨h.1, ?_⟩
  rcases h.2 with e | ⟨g, cap, cur, hv, h1, hg, h2⟩
  · exact .inl e
  · refine .inr ⟨g, cap, cur, hv, h1, ?_, h2⟩
    rw [hb.block g (Array.getElem?_eq_some_iff.1 hg).1]
    exact hg
/-- As a slice. -/
theorem OwnB.shape {w : World} {B : Nat} {v : Value} {bs : List (BitVec 8)} (h : OwnB w B v bs) : ∃ a c, v = .slice a bs.length c ∧ BytesAt w a bs ∧ bs.length ≤ c ∧ c ≤ maxLen := by
  rcases h.2 with ⟨rfl, hn⟩ | ⟨g, cap, cur, rfl, _, hg, hc, hm, hs, ht⟩
  · exact ⟨none, 0, by rw [hn], fun k hk => by omega, by omega, by unfold maxLen; omega⟩
  · refine ⟨_, _, rfl, ?_, hc, hm⟩
    intro k hk
    refine ⟨g, 0, rfl, ?_⟩
    rw [Nat.mul_one] at ht
    rw [Nat.zero_add, cell_of_row w g k cur 5 (0, 0) hg, ← bcells_get hk, ← ht, List.getElem?_take, if_pos hk]
    simp
theorem OwnB.some {w : World} {B : Nat} {v : Value} {bs : List (BitVec 8)} (h : OwnB w B v bs) (hp : 0 < bs.length) : ∃ g c, v = .slice (some ⟨g, 0, none⟩) bs.length c ∧ B ≤ g ∧ g < w.heap.size ∧ BytesAt w (some ⟨g, 0, none⟩) bs ∧ bs.length ≤ c ∧ c ≤ maxLen := by
  obtain ⟨a, c, e, hb, hl, hm⟩ := h.shape
  rcases h.2 with ⟨_, hn⟩ | ⟨g, cap, cur, e2, hB, hg, _⟩
  · omega
  · rw [e] at e2
    cases e2
    exact ⟨g, c, e, hB, (Array.getElem?_eq_some_iff.1 hg).1, hb, hl, hm⟩
end Go.Proofs.YtnflgkobedbemaaGreatDoor.Sh

namespace Go.Proofs.YtnflgkobedbemaaGreatDoor.Sh
open Go.RowKit
set_option maxRecDepth 100000

set_option maxHeartbeats 600000 in
theorem keySum_any {w : World} (N : Nat) (hN : N < 18446744073709551616) (hK : KTab w) (h2 : 3 ≤ w.heap.size) :
    Calls Tryz.prog 111 #[.int .u64 (N : Int)] w fun e w' => e = .returned (.agg (bcells (sha (eightL N))).toArray) ∧ Below w.heap.size w w' := by
  have HK : Hid (KTab w) := hK
  have H2 : Hid _ := h2
  have HN : Hid _ := hN
  have I73 : Hid _ := i44
  have i87 : (Tryz.prog.info? 195).map (·.size) = some 8 := by kernel_rfl
  have I87 : Hid _ := i87
  have LE : Hid ((eightL N).length = 8) := by show (eightL N).length = 8; simp [eightL]
  clear hK h2 hN i87
  go_enter Tryz.func111, Tryz.ntmps111
  go_upto_region 1 with (fail)
  refine wp_world fun wa HW => ?_
  have HRr : Hid (Row wa w.heap.size (bcells z32) 171) := by show Row _ _ _ _; rw [HW.out]; exact Row.new' _ _ _ _ _ rfl rfl
  have HBa : Hid (Below w.heap.size w wa) := by show Below _ _ _; rw [HW.out]; exact (Below.refl _ _).alloc (Nat.le_refl _) _
  clear HW
  go_upto_region 2 with (first
    | (go_at_call 136; refine (eight_any _ N HN.out).mono ?_; rintro e w1 ⟨rfl, hb1⟩; have HB1 : Hid _ := hb1; clear hb1)
    | (show wpList _ _ _ (Oper.mk none (.store 195 (.tmp 3) (.tmp 5)) _ _ _ _ :: _) _ _; refine (Row.new' w1 _ (bcells (e8 0 0)) 195 _ rfl rfl).wpStore' 195 (.tmp 3) (.tmp 5) (bcells (eightL N)) rfl rfl rfl rfl (by rw [bcells_len, bcells_len, LE.out]; rfl) (bcells_one _) (by rw [bcells_len, LE.out]; exact I87.out) ?_; intro wc HW))
  have HE : Hid (Row wc w1.heap.size (bcells (eightL N)) 195) := by show Row _ _ _ _; rw [HW.out]; exact (Row.new' w1 _ (bcells (e8 0 0)) 195 _ rfl rfl).row _
  have HBc : Hid (Below wa.heap.size wa wc) := by show Below _ _ _; rw [HW.out]; exact Go.below_setRow (HB1.out.alloc HB1.out.size _) HB1.out.size _
  have HRc : Hid (Row wc w.heap.size (bcells z32) 171) := HRr.out.kept HBc.out HRr.out.lt
  have HBw : Hid (Below w.heap.size w wc) := HBa.out.trans (HBc.out.mono HBa.out.size)
  clear HW HRr HBa HBc HB1
  generalize w1.heap.size = g at *
  have b1 : Below wc.heap.size wc (wc.alloc (.cells #[.slice (some ⟨g, 0, none⟩) 8 8] 43)) := (Below.refl _ _).alloc (Nat.le_refl _) _
  have HO : Hid (Calls Tryz.prog 137 #[.slice (some ⟨wc.heap.size, 0, none⟩) 1 1] (wc.alloc (.cells #[.slice (some ⟨g, 0, none⟩) 8 8] 43)) fun e w' => e = .returned (.agg (bcells (sha (eightL N))).toArray) ∧ Below (wc.alloc (.cells #[.slice (some ⟨g, 0, none⟩) 8 8] 43)).heap.size (wc.alloc (.cells #[.slice (some ⟨g, 0, none⟩) 8 8] 43)) w') := by
    have := of_any (cap := 1) (parts_one (w := wc.alloc (.cells #[.slice (some ⟨g, 0, none⟩) 8 8] 43)) (g := wc.heap.size) (ad := some ⟨g, 0, none⟩) (cap := 8) (bs := eightL N) (by rw [LE.out]; simp) (HE.out.bytesAt.kept b1) (by rw [LE.out]; exact Nat.le_refl _) (by decide)) (by simp) ((HK.out.kept HBw.out).kept b1) (by have h1 := H2.out; have h2 := HBw.out.size; have h3 := b1.size; omega)
    rw [show [eightL N].flatten = eightL N by simp] at this
    exact this
  have HB1 : Hid (Below w.heap.size w (wc.alloc (.cells #[.slice (some ⟨g, 0, none⟩) 8 8] 43))) := HBw.out.trans (b1.mono HBw.out.size)
  have HR1 : Hid (Row (wc.alloc (.cells #[.slice (some ⟨g, 0, none⟩) 8 8] 43)) w.heap.size (bcells z32) 171) := HRc.out.alloc _
  have HLS : Hid ((sha (eightL N)).length = 32) := sha_len _
  clear b1
  generalize hE : sha (eightL N) = E at *
  have HEE : Hid _ := hE
  clear hE
  simp only [Act.put]
  go_wp2_with (first
    | (go_at_call 137; refine Calls.mono HO.out ?_; rintro e w4 ⟨rfl, hb4⟩; have HB4 : Hid _ := hb4; clear hb4)
    | (show wpList _ _ _ (Oper.mk none (.store 171 (.tmp 2) (.tmp 8)) _ _ _ _ :: _) _ _; refine (HR1.out.kept HB4.out HR1.out.lt).wpStore' 171 (.tmp 2) (.tmp 8) (bcells E) rfl rfl rfl rfl (by rw [bcells_len, bcells_len, HLS.out]; rfl) (bcells_one _) (by rw [bcells_len, HLS.out]; exact I73.out) ?_; intro wz HZ))
  have R : Row wz w.heap.size (bcells E) 171 := by rw [HZ.out]; exact (HR1.out.kept HB4.out HR1.out.lt).row _
  have hB : Below w.heap.size w wz := by rw [HZ.out]; exact Go.below_setRow (HB1.out.trans (HB4.out.mono HB1.out.size)) (Nat.le_refl _) _
  exact bodyPost_ret (v := .agg (bcells E).toArray) (R.result Tryz.results111 _ rfl _ Tryz.underlying171 rfl (by rw [bcells_len, HLS.out]; exact I73.out)) rfl ⟨by rw [HEE.out], hB⟩

/-- The token and the first number that a long sum gives. -/
def tokenOf (E : List (BitVec 8)) : BitVec 32 := word4 (E.getD 0 0) (E.getD 1 0) (E.getD 2 0) (E.getD 3 0)
theorem sgetb {w : World} {g : Nat} {E : List (BitVec 8)} (hE : E.length = 32) (R : Row w g (bcells E) 171) (j : Nat) (hj : j < 32) : w.cell? ⟨g, j, none⟩ = some (.int .u8 (ub (E.getD j 0))) := sget hE R j hj

set_option maxHeartbeats 600000 in
theorem token_any {w : World} (N : Nat) (hN : N < 18446744073709551616) (hK : KTab w) (h2 : 3 ≤ w.heap.size) :
    Calls Tryz.prog 74 #[.int .u64 (N : Int)] w fun e w' => e = .returned (.int .u32 (u (tokenOf (sha (eightL N))))) ∧ Below w.heap.size w w' := by
  have HS : Hid _ := keySum_any N hN hK h2
  have HLS : Hid ((sha (eightL N)).length = 32) := sha_len _
  clear hN hK h2
  generalize hE : sha (eightL N) = E at *
  have HE : Hid _ := hE
  clear hE
  go_enter Tryz.func74, Tryz.ntmps74
  go_upto_region 2 with (first
    | (go_at_call 111; refine Calls.mono HS.out ?_; rintro e w1 ⟨rfl, hb1⟩; have HB1 : Hid _ := hb1; clear hb1)
    | (show wpList _ _ _ (Oper.mk none (.store 171 (.tmp 3) (.tmp 5)) _ _ _ _ :: _) _ _; refine (Row.new' w1 _ (bcells z32) 171 _ rfl rfl).wpStore' 171 (.tmp 3) (.tmp 5) (bcells E) rfl rfl rfl rfl (by rw [bcells_len, bcells_len, HLS.out]; rfl) (bcells_one _) (by rw [bcells_len, HLS.out]; exact i44) ?_; intro wc HW))
  have R : Row wc w1.heap.size (bcells E) 171 := by rw [HW.out]; exact (Row.new' w1 _ (bcells z32) 171 _ rfl rfl).row _
  have HB : Hid (Below w.heap.size w wc) := by show Below _ _ _; rw [HW.out]; exact Go.below_setRow (HB1.out.alloc HB1.out.size _) HB1.out.size _
  have c0 := sgetb HLS.out R 0 (by decide)
  have c1 := sgetb HLS.out R 1 (by decide)
  have c2 := sgetb HLS.out R 2 (by decide)
  have c3 := sgetb HLS.out R 3 (by decide)
  have HT : Hid (tokenOf E = word4 (E.getD 0 0) (E.getD 1 0) (E.getD 2 0) (E.getD 3 0)) := rfl
  clear R HW HB1
  generalize w1.heap.size = g at *
  generalize E.getD 0 0 = s0 at *
  generalize E.getD 1 0 = s1 at *
  generalize E.getD 2 0 = s2 at *
  generalize E.getD 3 0 = s3 at *
  simp only [Act.put]
  go_wp2_with (go_at_call 112; refine (word_any s0 s1 s2 s3 _).mono ?_; rintro e w' ⟨rfl, rfl⟩)
  go_ret
  exact ⟨by rw [HT.out]; rfl, HB.out⟩

end Go.Proofs.YtnflgkobedbemaaGreatDoor.Sh
