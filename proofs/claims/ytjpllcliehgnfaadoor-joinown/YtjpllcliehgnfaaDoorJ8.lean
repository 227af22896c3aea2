import Derived.Test.YtjpllcliehgnfaaDoorJ6
import Derived.ChangeKeysEq
import Derived.Laws.CopyOwn
namespace Go.Proofs.YtjpllcliehgnfaaDoor
open Go.RowKit
set_option maxRecDepth 100000

theorem bcells_take (S : List (BitVec 8)) (n : Nat) : bcells (S.take n) = (bcells S).take n := by simp [bcells, List.map_take]
theorem src_take {w : World} {g n : Nat} {S : List (BitVec 8)} {t : TypeId} (R : Row w g (bcells S) t) (j : Nat) (v : Value) (hv : (bcells (S.take n))[j]? = some v) : w.cell? ((⟨g, 0, none⟩ : Addr).add j) = some v := by
  rw [Addr.add_lit, Nat.zero_add]
  refine R.cell j v ?_
  rw [bcells_take, List.getElem?_take] at hv
  split at hv
  · exact hv
  · cases hv
theorem min_r {n : Nat} (h : n ≤ 32) : n = Nat.min 32 n := (Nat.min_eq_right h).symm

set_option maxHeartbeats 800000 in
/-- The first n bytes of a digest, in memory of their own. -/
theorem beginning_any (w : World) {S : List (BitVec 8)} (hS : S.length = 32) (n : Nat) (hn : n ≤ 32) :
    Calls Tryd.prog 40 #[.agg (bcells S).toArray, .int .i64 (n : Int)] w fun e w' => ∃ v, e = .returned v ∧ (OwnB w' w.heap.size v (S.take n) ∧ Below w.heap.size w w') := by
  have HS := hid hS
  have HN := hid hn
  have HL : Hid ((S.take n).length = n) := by show _ = _; rw [List.length_take]; omega
  clear hS hn
  go_enter Tryd.func40, Tryd.ntmps40
  go_upto_region 1 with fail
  refine wp_world fun wa HW => ?_
  have HA : Hid (Row wa w.heap.size (bcells S) 73) := by show Row _ _ _ _; rw [HW.out]; exact Row.new _ _ _
  have HBa : Hid (Below w.heap.size w wa) := by show Below _ _ _; rw [HW.out]; exact (Below.refl _ _).alloc (Nat.le_refl _) _
  clear HW
  go_wp2_with (first
    | (at_make; refine wpMakeB (.tmp 6) (.tmp 6) .i64 n rfl rfl rfl rfl (by have := HN.out; omega) ?_; intro w1 HW1
       have HR1 : Hid (Row w1 wa.heap.size (bcells (List.replicate n 0#8)) 5) := by show Row _ _ _ _; rw [HW1.out]; exact Row.new _ _ _
       have HB1 : Hid (Below wa.heap.size wa w1) := by show Below _ _ _; rw [HW1.out]; exact below_new _ _
       clear HW1)
    | (show wpList _ _ _ (Oper.mk (some 10) (.call { callee := .builtin .copy, args := #[.tmp 8, .tmp 9], argTypes := #[25, 25] }) _ _ _ _ :: _) _ _; refine wpList_copyB (.tmp 8) (.tmp 9) rfl rfl HR1.out 0 n n rfl ⟨w.heap.size, 0, none⟩ 32 32 rfl (bcells (S.take n)) (by rw [bcells_len, HL.out]; exact min_r HN.out) (src_take (HA.out.kept HB1.out HA.out.lt)) (by rw [bcells_len, bcells_len, HL.out, List.length_replicate]; omega) (bcells_one _) n (by rw [bcells_len, HL.out]) ?_; intro w2 HW2))
  have R2 : Row w2 wa.heap.size (bcells (S.take n)) 5 := by
    rw [HW2.out]
    have := HR1.out.row ((bcells (List.replicate n 0#8)).take 0 ++ bcells (S.take n) ++ (bcells (List.replicate n 0#8)).drop (0 + (bcells (S.take n)).length))
    rw [List.take_zero, List.nil_append, List.drop_of_length_le (by rw [bcells_len, bcells_len, HL.out, List.length_replicate]; omega), List.append_nil] at this
    rw [List.take_zero, List.nil_append, List.drop_of_length_le (by rw [bcells_len, bcells_len, HL.out, List.length_replicate]; omega), List.append_nil]
    exact this
  have hb2 : Below wa.heap.size wa w2 := by rw [HW2.out]; exact Go.below_setRow HB1.out (Nat.le_refl _) _
  have hn := HN.out
  go_ret
  refine ⟨_, rfl, ⟨by rw [bcells_len, Nat.mul_one], .inr ⟨wa.heap.size, n, _, by rw [HL.out]; rfl, HBa.out.size, R2.at_, by rw [HL.out]; exact Nat.le_refl _, by unfold maxLen; omega, by simp [bcells_len, HL.out], by rw [Nat.mul_one, List.take_of_length_le (by rw [bcells_len]; exact Nat.le_refl _)]⟩⟩, HBa.out.trans (hb2.mono HBa.out.size)⟩

/-! Two digests are compared. -/
theorem items_eq {xs ys : List (BitVec 8)} {N : Nat} (hx : xs.length = N) (hy : ys.length = N) (w : World) : ∀ is : List Nat, (∀ i ∈ is, i < N) → (Op.eqItems 9999 5 1 (bcells xs).toArray (bcells ys).toArray is).run Tryd.prog w = .ok (is.all fun i => xs.getD i 0 == ys.getD i 0) w
  | [], _ => by simp [Op.eqItems]
  | i :: is, hi => by
    have hin := hi i (by simp)
    have h1 : (bcells xs).toArray[i]? = some (.int .u8 (ub (xs.getD i 0))) := by
      rw [List.getElem?_toArray, bcells_get (by omega)]
      simp [List.getD_eq_getElem?_getD, show i < xs.length by omega]
    have h2 : (bcells ys).toArray[i]? = some (.int .u8 (ub (ys.getD i 0))) := by
      rw [List.getElem?_toArray, bcells_get (by omega)]
      simp [List.getD_eq_getElem?_getD, show i < ys.length by omega]
    have hp : (part 5 (bcells xs).toArray i).run Tryd.prog w = .ok (.int .u8 (ub (xs.getD i 0))) w := run_part_plain w (by kernel_rfl) h1
    have hq : (part 5 (bcells ys).toArray i).run Tryd.prog w = .ok (.int .u8 (ub (ys.getD i 0))) w := run_part_plain w (by kernel_rfl) h2
    rw [List.all_cons]
    generalize xs.getD i 0 = x at *
    generalize ys.getD i 0 = y at *
    have he : (Op.equalIn 9999 5 (.int .u8 (ub x)) (.int .u8 (ub y))).run Tryd.prog w = .ok (ub x == ub y) w := run_equalIn_int w 9998 5 .u8 .u8 (ub x) (ub y) Tryd.underlying5
    have ih := items_eq hx hy w is (fun j hj => hi j (by simp [hj]))
    simp only [Op.eqItems, Nat.mul_one, Sem.run_bind, hp, hq, Result.andThen_ok, he]
    by_cases hxy : x = y
    · subst hxy
      simp only [beq_self_eq_true, Bool.not_true, Bool.false_eq_true, if_false, ih, Bool.true_and]
    · have hne : (ub x == ub y) = false := by simp; intro e; exact hxy (ub_inj e)
      have hn2 : (x == y) = false := by simp [hxy]
      simp [hne, hn2]
theorem eq73 {E F : List (BitVec 8)} (hE : E.length = 32) (hF : F.length = 32) (w : World) : (Op.equalIn 10000 73 (.agg (bcells E).toArray) (.agg (bcells F).toArray)).run Tryd.prog w = .ok (decide (E = F)) w := by
  obtain ⟨i, h1, _, _, _⟩ := info5
  rw [run_equalIn_array w 9999 (i := i) (bcells E).toArray (bcells F).toArray Tryd.underlying73 h1, show Tryd.prog.cellsOf 5 = 1 by kernel_rfl, items_eq (N := 32) hE hF w _ (fun j hj => by simpa using hj)]
  congr 1
  rw [Bool.eq_iff_iff, List.all_eq_true, decide_eq_true_iff]
  constructor
  · intro h
    apply List.ext_getElem (by rw [hE, hF])
    intro j hj hj2
    have := h j (by simpa using (show j < 32 by omega))
    simpa [List.getD_eq_getElem?_getD, hj, hj2] using this
  · rintro rfl j _
    simp
/-! Bytes laid over a digest. -/
def lay (M S : List (BitVec 8)) : List (BitVec 8) := M.take 32 ++ S.drop (Nat.min M.length 32)
theorem lay_len {M S : List (BitVec 8)} (h : S.length = 32) : (lay M S).length = 32 := by
  simp only [lay, List.length_append, List.length_take, List.length_drop, Nat.min_def]
  split <;> split <;> omega
theorem lay_nil (S : List (BitVec 8)) : lay [] S = S := by simp [lay]
theorem lay_eq {M S : List (BitVec 8)} {n : Nat} (hn : n ≤ 32) (hM : M.length = n) : (lay M S = S) = (M = S.take n) := by
  subst hM
  have e1 : M.take 32 = M := List.take_of_length_le hn
  have e2 : Nat.min M.length 32 = M.length := Nat.min_eq_left hn
  unfold lay
  rw [e1, e2]
  apply propext
  constructor
  · intro h2
    have := congrArg (List.take M.length) h2
    rw [List.take_left] at this
    exact this
  · intro h2
    conv => rhs; rw [← List.take_append_drop M.length S]
    rw [← h2]
theorem wpCopyL {w : World} {ops : Array Oper} {rest : List Oper} {o : Oper} {a : Act} {Q : Exit → Act → World → Prop} (d s : Operand) (hgd : o.guard = none)
    (ho : o.op = .call { callee := .builtin .copy, args := #[d, s], argTypes := #[25, 25] }) {g : Nat} {S M : List (BitVec 8)} {t : TypeId} (R : Row w g (bcells S) t) (hS : S.length = 32) (hd : a.eval d = .slice (some ⟨g, 0, none⟩) 32 32)
    {ad : Option Addr} {cap : Nat} (hM : BytesAt w ad M) (hs : a.eval s = .slice ad M.length cap)
    (k : ∀ w' v, Hid (Row w' g (bcells (lay M S)) t) → Hid (Below g w w') → wpList Tryd.prog ops Q rest (a.put o.dst v) w') :
    wpList Tryd.prog ops Q (o :: rest) a w := by
  cases ad with
  | none =>
    cases M with
    | cons b bs => obtain ⟨_, _, e, _⟩ := hM 0 (by simp); cases e
    | nil =>
      refine wpList_copy_nothing hgd d s 25 25 ho 5 Tryd.underlying25 (by kernel_rfl) _ _ 32 32 0 cap hd hs (by decide) ?_
      exact k w _ (by rw [lay_nil]; exact R) (Below.refl _ _)
  | some x =>
    have hlt : (M.take 32).length = Nat.min M.length 32 := by rw [List.length_take]; exact Nat.min_comm _ _
    refine wpList_copyB d s hgd ho R 0 32 32 hd x M.length cap hs (bcells (M.take 32)) (by rw [bcells_len, hlt]) ?_ (by rw [bcells_len, bcells_len, hlt, hS]; have h32 : Nat.min M.length 32 ≤ 32 := Nat.min_le_right M.length 32; rw [Nat.zero_add]; exact h32) (bcells_one _) _ rfl ?_
    · intro j v hv
      rw [bcells_take, List.getElem?_take] at hv
      split at hv
      · have hj : j < M.length := by
          have := (List.getElem?_eq_some_iff.1 hv).1
          rwa [bcells_len] at this
        obtain ⟨g2, o2, e2, c2⟩ := hM j hj
        cases e2
        rw [bcells_get hj] at hv
        rw [Addr.add_mid, c2]
        exact hv
      · cases hv
    · intro w' HW
      refine k w' _ ?_ ?_
      · show Row _ _ _ _
        rw [HW.out]
        have e : (bcells S).take 0 ++ bcells (M.take 32) ++ (bcells S).drop (0 + (bcells (M.take 32)).length) = bcells (lay M S) := by
          rw [List.take_zero, List.nil_append, Nat.zero_add, bcells_len, hlt]
          simp [lay, bcells, List.map_drop]
        rw [e]
        exact R.row _
      · show Below _ _ _
        rw [HW.out]
        exact Go.below_setRow (Below.refl _ _) (Nat.le_refl _) _

theorem Row.wpLoadG {P : Program} {w : World} {g : Nat} {c : List Value} {t : TypeId} {ops : Array Oper} {rest : List Oper} {o : Oper} {a : Act} {Q : Exit → Act → World → Prop} (h : Row w g c t) (ty : TypeId) (x : Operand) {j : Nat} (hgd : o.guard = some (j, true)) (hy : yielded ops a.tmps j = some true) (ho : o.op = .load ty x)
    (hx : a.eval x = .pointer (some ⟨g, 0, none⟩)) (d : TypeDesc) (hu : P.underlying ty = some d) (hd : (match d with | .struct _ | .array _ _ => true | _ => false) = true) (hi : (P.info? ty).map (·.size) = some c.length)
    (k : wpList P ops Q rest (a.put o.dst (.agg c.toArray)) w) : wpList P ops Q (o :: rest) a w := by
  have hr := h.load (P := P) ty d hu hd hi
  refine wpList_step fun K hK => ?_
  rw [if_pos (by simp [Region.wanted, hgd, hy])]
  have e : (execOp a.eval o).run P w = .ok (.value (.agg c.toArray)) w := by
    generalize a.eval = r at *
    simp [execOp, ho, hx, hr]
  unfold Oper.wp
  rw [e, Oper.upon_value]
  exact hK _ _ k
set_option maxHeartbeats 1000000 in
/-- Is mac just the first n bytes of a digest? -/
theorem begins_any {w : World} {S M : List (BitVec 8)} (hS : S.length = 32) {a : Option Addr} {cap : Nat} (hM : BytesAt w a M) (n : Nat) (hn : n ≤ 32) :
    Calls Tryd.prog 42 #[.agg (bcells S).toArray, .slice a M.length cap, .int .i64 (n : Int)] w fun e w' => e = .returned (.bool (decide (M = S.take n))) ∧ Below w.heap.size w w' := by
  have HS := hid hS
  have HM := hid hM
  have HLY := hid (lay_len (M := M) hS)
  have I73 := hid i44
  have hq : ∀ w, (Op.equalIn 10000 73 (.agg (bcells (lay M S)).toArray) (.agg (bcells S).toArray)).run Tryd.prog w = .ok (decide (lay M S = S)) w := eq73 (lay_len hS) hS
  have HQ : Hid (∀ h : M.length = n, decide (lay M S = S) = decide (M = S.take n)) := by
    intro h
    rw [Bool.eq_iff_iff, decide_eq_true_iff, decide_eq_true_iff, lay_eq hn h]
  have HL : Hid ((S.take n).length = n) := by show _ = _; rw [List.length_take]; omega
  clear hS hM hn
  go_enter Tryd.func42, Tryd.ntmps42
  go_upto_region 1 with fail
  refine wp_world fun wa HW => ?_
  have HA : Hid (Row wa w.heap.size (bcells S) 73) := by show Row _ _ _ _; rw [HW.out]; exact Row.new _ _ _
  have HBa : Hid (Below w.heap.size w wa) := by show Below _ _ _; rw [HW.out]; exact (Below.refl _ _).alloc (Nat.le_refl _) _
  clear HW
  go_upto_region 2 with (first
    | (show wpList _ _ _ (Oper.mk (some 8) (.load 73 (.tmp 3)) _ _ _ _ :: _) _ _; refine HA.out.wpLoad 73 (.tmp 3) rfl rfl rfl _ Tryd.underlying73 rfl (by rw [bcells_len, HS.out]; exact I73.out) ?_)
    | (show wpList _ _ _ (Oper.mk none (.store 73 (.tmp 7) (.tmp 8)) _ _ _ _ :: _) _ _; refine (Row.new' wa _ (bcells z32) 73 _ rfl rfl).wpStore' 73 (.tmp 7) (.tmp 8) (bcells S) rfl rfl rfl rfl (by rw [bcells_len, bcells_len, HS.out]; rfl) (bcells_one _) (by rw [bcells_len, HS.out]; exact I73.out) ?_; intro wb HWB))
  have HRb : Hid (Row wb wa.heap.size (bcells S) 73) := by show Row _ _ _ _; rw [HWB.out]; exact (Row.new' wa _ (bcells z32) 73 _ rfl rfl).row _
  have HBb : Hid (Below wa.heap.size wa wb) := by show Below _ _ _; rw [HWB.out]; exact Go.below_setRow (below_new _ _) (Nat.le_refl _) _
  have HMb : Hid (BytesAt wb a M) := (HM.out.kept HBa.out).kept HBb.out
  have HAb : Hid (Row wb w.heap.size (bcells S) 73) := HA.out.kept HBb.out HA.out.lt
  clear HWB HM
  simp only [Act.put]
  go_upto_region 3 with (show wpList _ _ _ (Oper.mk (some 11) (.call { callee := .builtin .copy, args := #[.tmp 9, .tmp 10], argTypes := #[25, 25] }) _ _ _ _ :: _) _ _; refine wpCopyL (.tmp 9) (.tmp 10) rfl rfl HRb.out HS.out rfl HMb.out rfl ?_; intro wc vc HRc HBc)
  have HAc : Hid (Row wc w.heap.size (bcells S) 73) := HAb.out.kept HBc.out HA.out.lt
  have hl1 := HRc.out.load (P := Tryd.prog) 73 _ Tryd.underlying73 rfl (by rw [bcells_len, HLY.out]; exact I73.out)
  have hl2 := HAc.out.load (P := Tryd.prog) 73 _ Tryd.underlying73 rfl (by rw [bcells_len, HS.out]; exact I73.out)
  have HBZ := hid (HBa.out.trans ((HBb.out.trans HBc.out).mono HBa.out.size))
  by_cases hln : M.length = n
  · subst hln
    have HD := hid (HQ.out rfl)
    clear HQ
    generalize decide (lay M S = S) = b at *
    simp only [Act.put]
    clear hl1 hl2
    go_wp2_with (first
      | (show wpList _ _ _ (Oper.mk (some 17) (.load 73 (.tmp 7)) _ _ _ _ :: _) _ _; refine Row.wpLoadG HRc.out 73 (.tmp 7) (j := 4) rfl rfl rfl rfl _ Tryd.underlying73 rfl (by rw [bcells_len, HLY.out]; exact I73.out) ?_)
      | (show wpList _ _ _ (Oper.mk (some 18) (.load 73 (.tmp 3)) _ _ _ _ :: _) _ _; refine Row.wpLoadG HAc.out 73 (.tmp 3) (j := 4) rfl rfl rfl rfl _ Tryd.underlying73 rfl (by rw [bcells_len, HS.out]; exact I73.out) ?_))
    go_ret
    exact ⟨by rw [← HD.out]; rfl, HBZ.out⟩
  · have hne : ¬ ((M.length : Int) = (n : Int)) := by omega
    have hd : decide (M = S.take n) = false := by
      simp only [decide_eq_false_iff_not]
      intro e
      apply hln
      rw [e, HL.out]
    have HD := hid hd
    clear hd
    simp only [Act.put]
    go_wp2_with fail
    go_ret
    exact ⟨by rw [HD.out]; rfl, HBZ.out⟩
end Go.Proofs.YtjpllcliehgnfaaDoor
