import Derived.Test.YtjnmfedefmemnaaCut0
namespace Go.Proofs.Ytjnmfedefmemnaa
open Go.RowKit
set_option maxRecDepth 100000

theorem wpList_copy_by {P : Program} {w : World} {ops : Array Oper} {rest : List Oper} {o : Oper} {a : Act} {Q : Exit → Act → World → Prop} (hgd : o.guard = none) (s x : Operand) (t : TypeId)
    (ho : o.op = .call { callee := .builtin .copy, args := #[s, x], argTypes := #[t, t] }) {v u v' : Value} {w' : World} (hs : a.eval s = v) (hx : a.eval x = u)
    (hr : (Builtin.copy_ #[t, t] o.type #[v, u]).run P w = .ok v' w') (h : wpList P ops Q rest (a.put o.dst v') w') : wpList P ops Q (o :: rest) a w :=
  wpList_plain hgd fun _ hK => wp_copy_by s x t ho hs hx hr (hK _ _ h)
theorem copy_down {wq : World} {gb o cap k : Nat} {cb : List Value} {qs : List Nat} (RB : Row wq gb cb 73) (hle : qs.length ≤ cap) (hoc : o + cap = cb.length) (ht : (cb.drop o).take qs.length = pcells qs) (hk : k < qs.length) :
    (Builtin.copy_ #[64, 64] 3 #[.slice (some ⟨gb, o + k, none⟩) (qs.length - k) (cap - k), .slice (if cap = k + 1 then some ⟨gb, o, none⟩ else some ⟨gb, o + (k + 1), none⟩) (qs.length - (k + 1)) (cap - (k + 1))]).run Try.prog wq
      = .ok (goInt ((qs.length - 1 - k : Nat) : Int)) (wq.setRow gb (cb.take (o + k) ++ (cb.drop (o + (k + 1))).take (qs.length - 1 - k) ++ cb.drop (o + k + (qs.length - 1 - k))).toArray) := by
  by_cases hc : cap = k + 1
  · have e1 : qs.length - (k + 1) = 0 := by omega
    have e2 : qs.length - 1 - k = 0 := by omega
    rw [e1, e2, List.take_zero, List.append_nil, show o + k + 0 = o + k from rfl, List.take_append_drop, setRow_self wq gb cb.toArray 73 (0, 0) RB.at_]
    exact run_copy_none (P := Try.prog) wq 64 64 3 73 _ _ _ _ _ _ Try.underlying64 (by kernel_rfl) (by simp)
  · rw [if_neg hc]
    have hlen : ((cb.drop (o + (k + 1))).take (qs.length - 1 - k)).length = qs.length - 1 - k := by simp; omega
    have hin : ∀ v ∈ (cb.drop (o + (k + 1))).take (qs.length - 1 - k), v.oneCell' = true := fun v hv => by
      have h2 : v ∈ pcells (qs.eraseIdx k) := by rw [erased ht hk]; exact List.mem_append_right _ hv
      exact pcells_one _ v h2
    have hr := run_copy_row (P := Try.prog) wq 64 64 3 73 gb (o + k) (qs.length - k) (cap - k) ⟨gb, o + (k + 1), none⟩ (qs.length - (k + 1)) (cap - (k + 1)) cb.toArray 73 ((cb.drop (o + (k + 1))).take (qs.length - 1 - k)) Try.underlying64 (by kernel_rfl) RB.at_ (by rw [hlen]; show _ = min _ _; omega) (fun j v hj => by
      rw [Addr.add_mid]
      refine RB.cell _ _ ?_
      have hjk : j < qs.length - 1 - k := by have := (List.getElem?_eq_some_iff.1 hj).1; rw [hlen] at this; exact this
      rw [List.getElem?_take_of_lt hjk, List.getElem?_drop] at hj
      exact hj) (by rw [hlen]; simp; omega) hin
    rw [hlen, List.toList_toArray] at hr
    exact hr
set_option maxHeartbeats 2000000 in
theorem cut_l {w : World} {g b d gb o cap : Nat} {c cb : List Value} {qs : List Nat} {k : Nat} (R : Row w g c 67) (hd : d < 2) (hv : c[b + 14 + d]? = some (.slice (some ⟨gb, o, none⟩) qs.length cap)) (RB : Row w gb cb 73) (hle : qs.length ≤ cap) (hoc : o + cap = cb.length)
    (ht : (cb.drop o).take qs.length = pcells qs) (hl : qs.length ≤ 1073741824) (hk : k < qs.length) (hlt : k + k + 1 < qs.length) :
    Calls Try.prog 33 #[.pointer (some ⟨g, b, none⟩), .int .i64 d, .int .i64 k] w fun e w' => e = .returned (.tuple #[]) ∧ ∃ v', Row w' g (c.set (b + 14 + d) v') 67 ∧ BagAt w' v' (qs.eraseIdx k) ∧ Only [g, gb] w w' ∧ blk v' = [gb] := by
  have k1 : (0 : Int) ≤ (d : Int) := by omega
  have k2 : (d : Int) < 2 := by omega
  have n1 : (qs.length : Int) ≤ 1073741824 := by omega
  have n2 : (k : Int) + 1 < (qs.length : Int) - k := by omega
  have n3 : (k : Int) < (qs.length : Int) - 1 - k := by omega
  have n4 : (0 : Int) ≤ (k : Int) := by omega
  have n5 : (qs.length : Int) ≤ (cap : Int) := by omega
  have n6 : ¬ cap = 1 := by omega
  have hw : IntKind.i64.wrap ((k : Int) + 1) = (k : Int) + 1 := by rw [IntKind.wrap_i64]; omega
  have n7 : (k : Int) + 1 ≤ (cap : Int) := by omega
  have n8 : (0 : Int) ≤ (k : Int) + 1 := by omega
  have n9 : max ((k : Int) + 1) 0 = (k : Int) + 1 := by omega
  have n10 : (1 : Int) ≤ (k : Int) + 1 := by omega
  have n11 : ((k : Int) + 1).toNat - 1 = k := by omega
  have n12 : k ≤ cap := by omega
  have n13 : (0 : Int) < (qs.length : Int) := by omega
  have n14 : (1 : Int) ≤ (qs.length : Int) := by omega
  have c1 := R.cell _ _ hv
  have HR := hid (R.drawn (w.drawn + 1))
  have HRB := hid (RB.drawn (w.drawn + 1))
  have HV := hid hv
  have HB0 := hid (below_drawn (Below.refl w.heap.size w) (w.drawn + 1))
  have HT := hid ht
  have HOC := hid hoc
  have HLE := hid hle
  have HK := hid hk
  have HNE : Hid (g ≠ gb) := R.ne RB (by decide)
  clear R RB hv ht hoc hle hk
  go_enter Try.func33, Try.ntmps33
  go_upto_region 3 with (fail)
  refine wp_region_still_tail 7 (by kernel_rfl) (by kernel_rfl) ?_
  generalize ({ w with drawn := w.drawn + 1 } : World) = wq at *
  simp only [List.take_succ_cons, List.take_zero, List.drop_succ_cons, List.drop_zero]
  iterate 7 still_step
  refine wpStill_nil ?_
  have hsrc : ∀ j v, ((cb.drop o).take k)[j]? = some v → wq.cell? ((⟨gb, o, none⟩ : Addr).add j) = some v := fun j v hj => by
    rw [Addr.add_mid]
    refine HRB.out.cell _ _ ?_
    have hjk : j < k := by have := (List.getElem?_eq_some_iff.1 hj).1; simp at this; omega
    rw [List.getElem?_take_of_lt hjk, List.getElem?_drop] at hj
    exact hj
  have hlen : ((cb.drop o).take k).length = k := by have := HOC.out; have := HLE.out; have := HK.out; simp; omega
  have hone : ∀ v ∈ (cb.drop o).take k, v.oneCell' = true := fun v hv => by
    have : v ∈ pcells qs := by rw [← HT.out]; have h2 := List.mem_of_mem_take hv; have h3 : (cb.drop o).take k = ((cb.drop o).take qs.length).take k := by { rw [List.take_take, Nat.min_eq_left (Nat.le_of_lt HK.out)] }; rw [h3] at hv; exact List.mem_of_mem_take hv
    exact pcells_one qs v this
  have hrun := run_copy_row (P := Try.prog) wq 64 64 3 73 gb (o + 1) k (cap - 1) ⟨gb, o, none⟩ k cap cb.toArray 73 ((cb.drop o).take k) Try.underlying64 (by kernel_rfl) HRB.out.at_ (by rw [hlen]; simp) hsrc (by rw [hlen]; have := HOC.out; have := HLE.out; have := HK.out; simp; omega) hone
  rw [hlen, List.toList_toArray] at hrun
  refine wpList_copy_by (by rfl) _ _ _ (by rfl) (by rfl) (by rfl) hrun ?_
  have HRC := hid (HRB.out.row (cb.take (o + 1) ++ (cb.drop o).take k ++ cb.drop (o + 1 + k)))
  have HRG := hid (HR.out.rowOther (g' := gb) HNE.out (cb.take (o + 1) ++ (cb.drop o).take k ++ cb.drop (o + 1 + k)).toArray)
  have HO1 := hid ((Only.of_below (S := [g, gb]) HB0.out (Nat.le_refl _)).setRow gb (cb.take (o + 1) ++ (cb.drop o).take k ++ cb.drop (o + 1 + k)).toArray (.inl (by simp)))
  have HLC : Hid ((cb.take (o + 1) ++ (cb.drop o).take k ++ cb.drop (o + 1 + k)).length = cb.length) := by
    show _ = _
    have := HOC.out; have := HLE.out; have := HK.out
    rw [List.length_append, List.length_append, hlen]; simp; omega
  clear hrun hsrc hone hlen HR HRB HB0 c1
  generalize wq.setRow gb (cb.take (o + 1) ++ (cb.drop o).take k ++ cb.drop (o + 1 + k)).toArray = wc at *
  have hoL : o < (cb.take (o + 1) ++ (cb.drop o).take k ++ cb.drop (o + 1 + k)).length := by have h1 := HLC.out; have := HOC.out; have := HLE.out; have := HK.out; omega
  have s1 := HRC.out.cell o _ (List.getElem?_eq_getElem hoL)
  have s2 := HRC.out.frozen o
  go_upto_region 5 with (fail)
  have HRD := hid (HRC.out.set o (.pointer none))
  have HRG2 := hid (HRG.out.setOther ⟨gb, o, none⟩ HNE.out (.pointer none))
  have HO2 := hid (HO1.out.setCell gb o (.pointer none) (.inl (by simp)))
  clear s1 s2 HRC HRG HO1
  generalize wc.setCell ⟨gb, o, none⟩ (.pointer none) = wd at *
  have c2 := HRG2.out.cell _ _ HV.out
  have f2 := HRG2.out.frozen (b + 14 + d)
  refine wp_region_still_tail 7 (by kernel_rfl) (by kernel_rfl) ?_
  replace c2 := cell_drawn (wd.drawn + 1) c2
  replace f2 := frozen_drawn (wd.drawn + 1) f2
  replace HRD : Hid _ := HRD.out.drawn (wd.drawn + 1)
  replace HRG2 : Hid _ := HRG2.out.drawn (wd.drawn + 1)
  replace HO2 : Hid _ := HO2.out.drawn (wd.drawn + 1)
  generalize ({ wd with drawn := wd.drawn + 1 } : World) = we at *
  simp only [List.take_succ_cons, List.take_zero, List.drop_succ_cons, List.drop_zero]
  iterate 7 still_step
  refine wpStill_nil ?_
  go_wp2
  refine bodyPost_ret (results_none Try.results33 _ _ _) rfl ⟨rfl, _, HRG2.out.set _ _, ?_, HO2.out.setCell g _ _ (.inl (by simp)), rfl⟩
  have he : (qs.eraseIdx k).length = qs.length - 1 := by rw [List.length_eraseIdx, if_pos HK.out]
  refine .inr ⟨gb, o + 1, cap - 1, _, by rw [he], HRD.out.setOther _ (Ne.symm HNE.out) _, by rw [he]; have := HLE.out; omega, ?_, ?_⟩
  · rw [List.length_set, HLC.out, ← HOC.out]; have := HLE.out; have := HK.out; omega
  · rw [he]; exact cut_left (by have := HOC.out; have := HLE.out; omega) HT.out HK.out _
set_option maxHeartbeats 2000000 in
theorem cut_r {w : World} {g b d gb o cap : Nat} {c cb : List Value} {qs : List Nat} {k : Nat} (R : Row w g c 67) (hd : d < 2) (hv : c[b + 14 + d]? = some (.slice (some ⟨gb, o, none⟩) qs.length cap)) (RB : Row w gb cb 73) (hle : qs.length ≤ cap) (hoc : o + cap = cb.length)
    (ht : (cb.drop o).take qs.length = pcells qs) (hl : qs.length ≤ 1073741824) (hk : k < qs.length) (hlt : ¬ k + k + 1 < qs.length) :
    Calls Try.prog 33 #[.pointer (some ⟨g, b, none⟩), .int .i64 d, .int .i64 k] w fun e w' => e = .returned (.tuple #[]) ∧ ∃ v', Row w' g (c.set (b + 14 + d) v') 67 ∧ BagAt w' v' (qs.eraseIdx k) ∧ Only [g, gb] w w' ∧ blk v' = [gb] := by
  have k1 : (0 : Int) ≤ (d : Int) := by omega
  have k2 : (d : Int) < 2 := by omega
  have n1 : (qs.length : Int) ≤ 1073741824 := by omega
  have n3 : ¬ (k : Int) < (qs.length : Int) - 1 - k := by omega
  have n4 : (0 : Int) ≤ (k : Int) := by omega
  have n5 : (qs.length : Int) ≤ (cap : Int) := by omega
  have hw : IntKind.i64.wrap ((k : Int) + 1) = (k : Int) + 1 := by rw [IntKind.wrap_i64]; omega
  have n6 : ¬ cap = k := by omega
  have n7 : (k : Int) ≤ (qs.length : Int) := by omega
  have n7n : k ≤ qs.length := by omega
  have n8 : (0 : Int) ≤ (k : Int) + 1 := by omega
  have n9 : (k : Int) + 1 ≤ (qs.length : Int) := by omega
  have n9n : k + 1 ≤ qs.length := by omega
  have n10 : ((k : Int) + 1).toNat = k + 1 := by omega
  have n11 : (0 : Int) ≤ (qs.length : Int) - 1 := by omega
  have n12 : (qs.length : Int) - 1 ≤ (cap : Int) := by omega
  have n13 : (qs.length : Int) - 1 < (qs.length : Int) := by omega
  have n14 : ((qs.length : Int) - 1).toNat = qs.length - 1 := by omega
  have n15 : (1 : Int) ≤ (qs.length : Int) := by omega
  have c1 := R.cell _ _ hv
  have HR := hid (R.drawn (w.drawn + 1))
  have HRB := hid (RB.drawn (w.drawn + 1))
  have HV := hid hv
  have HB0 := hid (below_drawn (Below.refl w.heap.size w) (w.drawn + 1))
  have HT := hid ht
  have HOC := hid hoc
  have HLE := hid hle
  have HK := hid hk
  have HNE : Hid (g ≠ gb) := R.ne RB (by decide)
  clear R RB hv ht hoc hle hk
  go_enter Try.func33, Try.ntmps33
  go_upto_region 6 with (fail)
  refine wp_region_still_tail 7 (by kernel_rfl) (by kernel_rfl) ?_
  generalize ({ w with drawn := w.drawn + 1 } : World) = wq at *
  simp only [List.take_succ_cons, List.take_zero, List.drop_succ_cons, List.drop_zero]
  iterate 7 still_step
  refine wpStill_nil ?_
  have hrun := copy_down HRB.out HLE.out HOC.out HT.out HK.out
  refine wpList_copy_by (by rfl) _ _ _ (by rfl) (by rfl) (by rfl) hrun ?_
  have HRC := hid (HRB.out.row (cb.take (o + k) ++ (cb.drop (o + (k + 1))).take (qs.length - 1 - k) ++ cb.drop (o + k + (qs.length - 1 - k))))
  have HRG := hid (HR.out.rowOther (g' := gb) HNE.out (cb.take (o + k) ++ (cb.drop (o + (k + 1))).take (qs.length - 1 - k) ++ cb.drop (o + k + (qs.length - 1 - k))).toArray)
  have HO1 := hid ((Only.of_below (S := [g, gb]) HB0.out (Nat.le_refl _)).setRow gb (cb.take (o + k) ++ (cb.drop (o + (k + 1))).take (qs.length - 1 - k) ++ cb.drop (o + k + (qs.length - 1 - k))).toArray (.inl (by simp)))
  have HLC : Hid ((cb.take (o + k) ++ (cb.drop (o + (k + 1))).take (qs.length - 1 - k) ++ cb.drop (o + k + (qs.length - 1 - k))).length = cb.length) := by
    show _ = _
    have := HOC.out; have := HLE.out; have := HK.out
    rw [List.length_append, List.length_append]; simp; omega
  clear hrun HR HRB HB0 c1
  generalize wq.setRow gb (cb.take (o + k) ++ (cb.drop (o + (k + 1))).take (qs.length - 1 - k) ++ cb.drop (o + k + (qs.length - 1 - k))).toArray = wc at *
  have hoL : o + (qs.length - 1) < (cb.take (o + k) ++ (cb.drop (o + (k + 1))).take (qs.length - 1 - k) ++ cb.drop (o + k + (qs.length - 1 - k))).length := by have h1 := HLC.out; have := HOC.out; have := HLE.out; have := HK.out; omega
  have s1 := HRC.out.cell _ _ (List.getElem?_eq_getElem hoL)
  have s2 := HRC.out.frozen (o + (qs.length - 1))
  go_upto_region 8 with (fail)
  have HRD := hid (HRC.out.set (o + (qs.length - 1)) (.pointer none))
  have HRG2 := hid (HRG.out.setOther ⟨gb, o + (qs.length - 1), none⟩ HNE.out (.pointer none))
  have HO2 := hid (HO1.out.setCell gb (o + (qs.length - 1)) (.pointer none) (.inl (by simp)))
  clear s1 s2 HRC HRG HO1
  generalize wc.setCell ⟨gb, o + (qs.length - 1), none⟩ (.pointer none) = wd at *
  have c2 := HRG2.out.cell _ _ HV.out
  have f2 := HRG2.out.frozen (b + 14 + d)
  refine wp_region_still_tail 8 (by kernel_rfl) (by kernel_rfl) ?_
  replace c2 := cell_drawn (wd.drawn + 1) c2
  replace f2 := frozen_drawn (wd.drawn + 1) f2
  replace HRD : Hid _ := HRD.out.drawn (wd.drawn + 1)
  replace HRG2 : Hid _ := HRG2.out.drawn (wd.drawn + 1)
  replace HO2 : Hid _ := HO2.out.drawn (wd.drawn + 1)
  generalize ({ wd with drawn := wd.drawn + 1 } : World) = we at *
  simp only [List.take_succ_cons, List.take_zero, List.drop_succ_cons, List.drop_zero]
  iterate 8 still_step
  refine wpStill_nil ?_
  go_wp2
  all_goals go_end0
  all_goals refine ⟨rfl, _, HRG2.out.set _ _, ?_, HO2.out.setCell g _ _ (.inl (by simp)), rfl⟩
  all_goals have he : (qs.eraseIdx k).length = qs.length - 1 := by rw [List.length_eraseIdx, if_pos HK.out]
  all_goals refine .inr ⟨gb, o, cap, _, by first | (rw [he]; done) | (rw [he, h]), HRD.out.setOther _ (Ne.symm HNE.out) _, by rw [he]; have := HLE.out; omega, ?_, ?_⟩
  all_goals first
    | (rw [List.length_set, HLC.out, ← HOC.out]; done)
    | (rw [he]; exact cut_right (by have := HOC.out; have := HLE.out; omega) HT.out HK.out _)
/-- A frame leaves its bag. -/
theorem cut_any {w : World} {g b d : Nat} {c : List Value} {v : Value} {qs : List Nat} {k : Nat} (R : Row w g c 67) (hd : d < 2) (hv : c[b + 14 + d]? = some v) (hB : BagAt w v qs) (hl : qs.length ≤ 1073741824) (hk : k < qs.length) :
    Calls Try.prog 33 #[.pointer (some ⟨g, b, none⟩), .int .i64 d, .int .i64 k] w fun e w' => e = .returned (.tuple #[]) ∧ ∃ v', Row w' g (c.set (b + 14 + d) v') 67 ∧ BagAt w' v' (qs.eraseIdx k) ∧ Only (g :: blk v) w w' ∧ blk v' = blk v := by
  rcases hB with ⟨rfl, rfl⟩ | ⟨gb, o, cap, cb, rfl, RB, hle, hoc, ht⟩
  · simp at hk
  · by_cases hlt : k + k + 1 < qs.length
    · exact cut_l R hd hv RB hle hoc ht hl hk hlt
    · exact cut_r R hd hv RB hle hoc ht hl hk hlt
end Go.Proofs.Ytjnmfedefmemnaa
