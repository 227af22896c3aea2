import Derived.Test.YtjbjaklbckhodabNew
namespace Go.Proofs.Ytjbjaklbckhodab
open Go.RowKit
set_option maxRecDepth 100000

theorem gapOf_in {L : List Rg} (F : Fit L) (i : Nat) (hi : i < L.length) (x : Int) (h1 : L[i].1 ≤ x) (h2 : x < L[i].2) : gapOf L x = L[i].2 := by
  have e : front (endBy x) L = i := front_eq _ L i (by omega) (fun t h ht => by have := F.lt t i ht hi; simp only [endBy, decide_eq_true_eq]; omega) (fun h => by simp only [endBy, decide_eq_false_iff_not]; omega)
  unfold gapOf
  rw [e, nth_eq hi, if_pos ⟨hi, h1⟩]
theorem gapOf_end {L : List Rg} (F : Fit L) (i : Nat) (hi : i < L.length) : gapOf L L[i].2 = L[i].2 := by
  have e : front (endBy L[i].2) L = i + 1 := front_eq _ L (i + 1) (by omega) (fun t h ht => by have := F.mono_hi t i (by omega) hi; simp only [endBy, decide_eq_true_eq]; omega) (fun h => by have := F.lt i (i + 1) (by omega) h; have := F.at (i + 1) h; simp only [endBy, decide_eq_false_iff_not]; omega)
  unfold gapOf
  rw [e, if_neg]
  rintro ⟨h, h'⟩
  rw [nth_eq h] at h'
  have := F.lt i (i + 1) (by omega) h
  omega

theorem two_all (L' : List Rg) (h : L'.Perm [(3, 5), (7, 9)]) : addAll L' = [(3, 5), (7, 9)] := by
  have hl : L' = [(3, 5), (7, 9)] ∨ L' = [(7, 9), (3, 5)] := by
    match L', h with
    | [], h => exact absurd h.length_eq (by simp)
    | [a], h => exact absurd h.length_eq (by simp)
    | [a, b], h =>
      have ha : a = (3, 5) ∨ a = (7, 9) := by have := h.mem_iff.1 (List.mem_cons_self (a := a) (l := [b])); simpa using this
      have hb : b = (3, 5) ∨ b = (7, 9) := by have := h.mem_iff.1 (List.mem_cons_of_mem a (List.mem_cons_self (a := b) (l := []))); simpa using this
      have h3 : (3, 5) ∈ [a, b] := h.mem_iff.2 (by simp)
      have h7 : (7, 9) ∈ [a, b] := h.mem_iff.2 (by simp)
      rcases ha with rfl | rfl <;> rcases hb with rfl | rfl
      · simp at h7
      · exact .inl rfl
      · exact .inr rfl
      · simp at h3
    | a :: b :: c :: l, h => exact absurd h.length_eq (by simp)
  rcases hl with rfl | rfl <;> decide

theorem two_fit : Fit [(3, 5), (7, 9)] := ⟨by intro r hr; simp at hr; rcases hr with rfl | rfl <;> omega, by simp⟩

set_option maxHeartbeats 1000000 in
theorem awake_any (hSort : SortSaid) (w : World) : Calls Try.prog 10 #[] w fun e w' => e = .returned (.bool true) ∧ Below w.heap.size w w' := by
  have hbx := below_box w (.cells #[.int .u64 3, .int .u64 5, .int .u64 7, .int .u64 9] 25)
  have hC : Cells (w.alloc (.cells #[.int .u64 3, .int .u64 5, .int .u64 7, .int .u64 9] 25)) (some ⟨w.heap.size, 0, none⟩) [(3, 5), (7, 9)] :=
    ⟨fun _ => ⟨_, rfl, row_cells (row := flat [(3, 5), (7, 9)]) (heap_alloc_new w _) 0 _ rfl⟩⟩
  have hN := new_any hSort (cap := 2) hC (by simp) (by intro r hr; simp at hr; rcases hr with rfl | rfl <;> omega)
  have HBX : Hid _ := hbx
  clear hbx hC
  go_enter Try.func10, Try.ntmps10
  go_wp2_with fail
  refine hN.mono ?_
  rintro e w1 ⟨p, rfl, v, L', hP, hO, hb1⟩
  rw [two_all L' hP] at hO
  obtain ⟨a, cap, rfl, V⟩ := hO.set.view (by simp)
  have HV : Hid _ := V
  have HB1 : Hid _ := HBX.out.trans (hb1.mono HBX.out.size)
  clear hP hO V hb1 hN HBX
  go_wp2_with fail
  refine (count_any HV.out two_fit).mono ?_
  rintro e w2 ⟨rfl, hb2⟩
  have HV2 : Hid _ := HV.out.kept hb2
  have HB2 : Hid _ := HB1.out.trans (hb2.mono HB1.out.size)
  clear hb2 HV HB1
  have ht : total [(3, 5), (7, 9)] = 4 := by decide
  rw [ht]
  go_wp2_with fail
  refine (len_any HV2.out).mono ?_
  rintro e w3 ⟨rfl, rfl⟩
  go_wp2_with fail
  refine (has_any 8 HV2.out two_fit).mono ?_
  rintro e w4 ⟨rfl, hb4⟩
  have HV4 : Hid _ := HV2.out.kept hb4
  have HB4 : Hid _ := HB2.out.trans (hb4.mono HB2.out.size)
  clear hb4 HV2 HB2
  have h8 : (gapOf [(3, 5), (7, 9)] 8 != 8) = true := by decide
  rw [h8]
  go_wp2_with fail
  refine (has_any 5 HV4.out two_fit).mono ?_
  rintro e w5 ⟨rfl, hb5⟩
  have HV5 : Hid _ := HV4.out.kept hb5
  have HB5 : Hid _ := HB4.out.trans (hb5.mono HB4.out.size)
  clear hb5 HV4 HB4
  have h5 : (gapOf [(3, 5), (7, 9)] 5 != 5) = false := by decide
  rw [h5]
  go_wp2_with fail
  refine (gap_any 3 HV5.out two_fit).mono ?_
  rintro e w6 ⟨rfl, hb6⟩
  have HB6 : Hid _ := HB5.out.trans (hb6.mono HB5.out.size)
  clear hb6 HV5 HB5
  have h3 : gapOf [(3, 5), (7, 9)] 3 = 5 := by decide
  rw [h3]
  go_wp2
  go_ret
  exact ⟨rfl, HB6.out⟩

end Go.Proofs.Ytjbjaklbckhodab
