import Derived.Test.YtkcoabjeaoigdabRef6
namespace Go.Proofs.Ytkcoabjeaoigdab
open Go.RowKit Go.Sort
set_option maxRecDepth 100000

theorem rep_flat (k : Nat) : (List.replicate (k + 1) lnew).flatMap pc = (List.replicate k lnew).flatMap pc ++ pc lnew := by rw [List.replicate_succ', List.flatMap_append]; simp
theorem rat_new {base n : Nat} {w : World} {v : Value} {r : Nat} (hr : Row w r [v] 35) (h : w.ownsRow base 37 4 v n ((List.replicate n lnew).flatMap pc)) (h1 : 1 ≤ n) (h8 : n ≤ 8) : ∃ q, base ≤ q ∧ RAt w r q n (newD n) := by
  obtain ⟨e1, ⟨_, h2⟩ | ⟨g, cap, cur, rfl, hb, hh, hc, _, hs, ht⟩⟩ := h
  · omega
  · have hh2 : ∀ j i, j < n → i < 4 → cur.toList[j * 4 + i]? = (pc lnew)[i]? := fun j i hj hi => by
      have := flat_get (List.replicate n lnew) j (by simpa using hj) i hi
      rw [List.getElem_replicate] at this
      rw [← this, ← ht, List.getElem?_take_of_lt (by omega)]
    have en : ∀ k, k < n → newD n k = lnew := fun k hk => by unfold newD; rw [if_pos hk]
    refine ⟨g, hb, ⟨cap, hr⟩, ⟨cur.toList, ⟨by simpa using hh⟩, ?_, fun k hk => ?_, fun k hk => ?_, fun k hk => ?_, fun k hk => ?_⟩, h1, h8, fun k hk => by rw [en k hk]; exact lnew_ok⟩
    · have : cur.toList.length = cap * 4 := by simpa using hs
      rw [this]
      omega
    · rw [en k hk]; exact hh2 k 0 hk (by omega)
    · rw [en k hk]; exact hh2 k 1 hk (by omega)
    · rw [en k hk]; exact hh2 k 2 hk (by omega)
    · rw [en k hk]; exact hh2 k 3 hk (by omega)
theorem owns_set {w : World} {base n r : Nat} {v u : Value} {xs : List Value} (h : w.ownsRow base 37 4 v n xs) (hr : r < base) : (w.setCell ⟨r, 0, none⟩ u).ownsRow base 37 4 v n xs := by
  obtain ⟨e1, h | ⟨g, cap, cur, e2, hb, hh, h5⟩⟩ := h
  · exact ⟨e1, .inl h⟩
  · exact ⟨e1, .inr ⟨g, cap, cur, e2, hb, (Below.heap_setCell w ⟨r, 0, none⟩ u g (by simp only; omega)).trans hh, h5⟩⟩
set_option maxHeartbeats 1000000 in
theorem rnew_in {w : World} {n : Nat} (h0 : 1 ≤ n) (h1 : n ≤ 8) :
    Calls Try.prog 4 #[.int .i64 n] w fun e w' => ∃ q, e = .returned (.pointer (some ⟨w.heap.size, 0, none⟩)) ∧ w.heap.size ≤ q ∧ RAt w' w.heap.size q n (newD n) ∧ Below w.heap.size w w' := by
  have e1 : decide (n < 1) = false := decide_eq_false (by omega)
  have e1' : decide ((n : Int) < 1) = false := decide_eq_false (by omega)
  have e2 : decide (8 < n) = false := decide_eq_false (by omega)
  have e2' : decide (8 < (n : Int)) = false := decide_eq_false (by omega)
  have HB0 := hid (below_grow (Below.refl w.heap.size w) (.cells #[.slice none 0 0] 35))
  have H0 := hid h0
  have H1 := hid h1
  go_enter Try.func4, Try.ntmps4
  go_upto_region 4 with (fail)
  refine wp_world fun wb HW => ?_
  obtain ⟨r, hr⟩ : ∃ r, r = w.heap.size := ⟨_, rfl⟩
  have HR0 : Hid (Row wb r [.slice none 0 0] 35) := by show Row _ _ _ _; rw [HW.out, hr]; exact Row.new _ _ _
  have HBb : Hid (Below w.heap.size w wb) := by show Below _ _ _; rw [HW.out]; exact HB0.out
  have HS : Hid (wb.heap.size = r + 1) := by show _ = _; rw [HW.out, hr]; simp
  have HRR := hid hr
  rw [← hr]
  clear HW HB0 hr h0 h1
  go_wp2
  go_loopw [4] (fun i wr => ∃ (k : Nat) (v : Value), k ≤ n ∧ i = .int .i64 k ∧ Row wr r [v] 35 ∧ wr.ownsRow (r + 1) 37 4 v k ((List.replicate k lnew).flatMap pc) ∧ Below w.heap.size w wr) (fun i _ => n - (intOf i).toNat)
  case atStart => exact ⟨0, _, Nat.zero_le _, rfl, HR0.out, ⟨rfl, .inl ⟨rfl, rfl⟩⟩, HBb.out⟩
  case round =>
    obtain ⟨k, v, hk, rfl, hrow, how, hb⟩ := hrel
    have HRW := hid hrow
    have HO := hid how
    have HB := hid hb
    clear hrow how hb HR0 HBb
    by_cases hlt : k < n
    · have l1 : (k : Int) < (n : Int) := by omega
      have HK := hid hlt
      have hk2 : (k : Int) ≤ 8 := by have := H1.out; omega
      have c0 := HRW.out.cell 0 _ rfl
      obtain ⟨v', w', hr, ho, hbb⟩ := append_p HO.out (by have := H1.out; omega) (by have := HRW.out.lt; omega) lnew 33
      have HR : Hid ((Builtin.append_ #[33, 33] 33 #[v, .slice (some ⟨wr.heap.size, 0, none⟩) 1 1]).run Try.prog (wr.alloc (.cells #[.int .i64 10240, .int .i64 262144, .bool false, .int .u64 0] 37)) = .ok v' w') := hr
      have HO2 := hid ho
      have hb2 : Below (r + 1) wr w' := hbb
      have hrow2 := HRW.out.kept hb2 (Nat.lt_succ_self r)
      have c1 := hrow2.cell 0 _ rfl
      have f1 := hrow2.frozen 0
      have HRW2 := hid hrow2
      have HB2 : Hid (Below w.heap.size w w') := HB.out.trans (hb2.mono (by rw [← HRR.out]; omega))
      have HRF := hid (rep_flat k)
      obtain ⟨av, lv, cv, hv'⟩ : ∃ av lv cv, v' = .slice av lv cv := by
        obtain ⟨_, ⟨e, _⟩ | ⟨g, cap, cur, e, _⟩⟩ := ho
        · exact ⟨_, _, _, e⟩
        · exact ⟨_, _, _, e⟩
      subst hv'
      clear hr ho hbb hb2 hrow2 hk hlt
      go_wp2_with (first | (at_builtin; refine wpList_append_by rfl _ _ _ rfl rfl rfl HR.out ?_))
      go_roundw
      case rel => exact ⟨k + 1, _, HK.out, by first | go_num | (rw [Int.natCast_succ]), HRW2.out.set 0 _, by rw [HRF.out]; exact owns_set HO2.out (Nat.lt_succ_self r), HB2.out.setCell (p := ⟨r, 0, none⟩) (Nat.le_of_eq HRR.out.symm) _⟩
      case measure =>
        simp [intOf]
        have := HK.out
        omega
    · have e3 : decide ((k : Int) < (n : Int)) = false := decide_eq_false (by omega)
      have e4 : decide (k < n) = false := decide_eq_false hlt
      have HKN : Hid (k = n) := by show _ = _; omega
      clear hlt hk
      go_wp2
      go_ret
      have ho := HO.out
      rw [HKN.out] at ho
      obtain ⟨q, hq, hra⟩ := rat_new HRW.out ho H0.out H1.out
      exact ⟨q, by rw [HRR.out]; rfl, by rw [← HRR.out]; omega, by rw [← HRR.out]; exact hra, HB.out⟩
theorem rnew_out {w : World} {n : Int} (h : n < 1 ∨ 8 < n) : Calls Try.prog 4 #[.int .i64 n] w fun e w' => e = .returned (.pointer none) ∧ w' = w := by
  rcases h with h | h
  · go_enter Try.func4, Try.ntmps4
    go_wp2
    go_ret
    exact ⟨rfl, rfl⟩
  · have e1 : decide (n < 1) = false := decide_eq_false (by omega)
    have e2 : decide (8 < n) = true := decide_eq_true h
    go_enter Try.func4, Try.ntmps4
    go_wp2
    go_ret
    exact ⟨rfl, rfl⟩
end Go.Proofs.Ytkcoabjeaoigdab
