import Derived.Test.YtjnmfedefmemnaaRowB
import Derived.StillTailTactics
namespace Go.Proofs.Ytjnmfedefmemnaa
open Go.RowKit
set_option maxRecDepth 100000

/-- The cells of the paths as New gives them, and as they lie ahead of that. -/
def roadsv (cs : List Int) : List Value := (cs.map roadv).flatten
def roadsz (n : Nat) : List Value := (List.replicate n roadz).flatten
theorem roadsv_len (cs : List Int) : (roadsv cs).length = 16 * cs.length := by
  induction cs with
  | nil => rfl
  | cons c l ih =>
    show (roadv c ++ roadsv l).length = 16 * (l.length + 1)
    rw [List.length_append, ih]
    simp [roadv]
    omega
theorem roadsz_len (n : Nat) : (roadsz n).length = 16 * n := by
  induction n with
  | zero => rfl
  | succ n ih =>
    show (roadz ++ roadsz n).length = 16 * (n + 1)
    rw [List.length_append, ih]
    simp [roadz]
    omega
theorem roadsv_snoc (cs : List Int) (c : Int) : roadsv (cs ++ [c]) = roadsv cs ++ roadv c := by simp [roadsv]
theorem roadsz_succ (n : Nat) : roadsz (n + 1) = roadz ++ roadsz n := rfl
theorem roads_set (A Z : List Value) (k : Nat) (c : Int) (hA : A.length = 16 * k) : (A ++ (roadz ++ Z)).take (k * 16) ++ (roadv c).take 14 ++ (A ++ (roadz ++ Z)).drop (k * 16 + ((roadv c).take 14).length) = A ++ roadv c ++ Z := by
  have e : k * 16 = A.length := by omega
  have e2 : ((roadv c).take 14).length = 14 := rfl
  rw [e, e2, List.take_left, ← List.drop_drop, List.drop_left]
  have e3 : (roadz ++ Z).drop 14 = roadz.drop 14 ++ Z := List.drop_append_of_le_length (by decide)
  rw [e3, List.append_assoc, List.append_assoc]
  congr 1
theorem makeN (w : World) (n : Nat) (h1 : 1 ≤ n) (h2 : n ≤ 8) : (Instr.makeSlice 50 (.int .i64 (n : Int)) (.int .i64 (n : Int))).run Try.prog w = .ok (.slice (some ⟨w.heap.size, 0, none⟩) n n) (w.alloc (.cells (roadsz n).toArray 67)) := by
  rcases (show n = 1 ∨ n = 2 ∨ n = 3 ∨ n = 4 ∨ n = 5 ∨ n = 6 ∨ n = 7 ∨ n = 8 by omega) with rfl | rfl | rfl | rfl | rfl | rfl | rfl | rfl <;> kernel_rfl
theorem new_len {w : World} {a : Option Addr} {n cap : Nat} (h : n < 1 ∨ 8 < n) :
    Calls Try.prog 9 #[.slice a n cap] w fun e w' => e = .returned (.tuple #[.pointer none, .int .i64 40]) ∧ w' = w := by
  by_cases h0 : n < 1
  · have e : n = 0 := by omega
    subst e
    go_enter Try.func9, Try.ntmps9
    go_wp2
    go_ret2
    exact ⟨rfl, rfl⟩
  · have h1 : (1 : Int) ≤ (n : Int) := by omega
    have h2 : (8 : Int) < (n : Int) := by omega
    have d1 : decide ((n : Int) < 1) = false := decide_eq_false (by omega)
    have d2 : decide ((n : Int) > 8) = true := decide_eq_true h2
    have d3 : decide (n < 1) = false := decide_eq_false h0
    have d4 : decide (8 < n) = true := decide_eq_true (by omega)
    have d5 : decide (n = 0) = false := decide_eq_false (by omega)
    go_enter Try.func9, Try.ntmps9
    go_wp2
    go_ret2
    exact ⟨rfl, rfl⟩
def goodCap (c : Int) : Prop := 1 ≤ c ∧ c ≤ 1073741824
instance (c : Int) : Decidable (goodCap c) := inferInstanceAs (Decidable (_ ∧ _))
set_option maxHeartbeats 2000000 in
theorem new_list {w : World} {a : Option Addr} {n cap : Nat} {cs : List Int} (hC : CellsAt w a (cs.map (Value.int .i64))) (hn : cs.length = n) (h1 : 1 ≤ n) (h2 : n ≤ 8) :
    Calls Try.prog 9 #[.slice a n cap] w fun e w' => Below w.heap.size w w' ∧ (((∃ c ∈ cs, ¬ goodCap c) ∧ e = .returned (.tuple #[.pointer none, .int .i64 41])) ∨
      ((∀ c ∈ cs, goodCap c) ∧ ∃ p q, e = .returned (.tuple #[.pointer (some ⟨p, 0, none⟩), .int .i64 0]) ∧ w.heap.size ≤ q ∧ q < p ∧ Row w' q (roadsv cs) 67 ∧ Row w' p [.slice (some ⟨q, 0, none⟩) n n] 52)) := by
  have hm := makeN w n h1 h2
  have hb := below_grow (below_grow (Below.refl w.heap.size w) (.cells (roadsz n).toArray 67)) (.cells #[.slice (some ⟨w.heap.size, 0, none⟩) n n] 52)
  have hr : Row ((w.alloc (.cells (roadsz n).toArray 67)).alloc (.cells #[.slice (some ⟨w.heap.size, 0, none⟩) n n] 52)) w.heap.size (roadsz n) 67 := (Row.new w (roadsz n) 67).alloc _
  have hn' : Row ((w.alloc (.cells (roadsz n).toArray 67)).alloc (.cells #[.slice (some ⟨w.heap.size, 0, none⟩) n n] 52)) (w.heap.size + 1) [.slice (some ⟨w.heap.size, 0, none⟩) n n] 52 := Row.new' _ _ _ _ _ (by simp) rfl
  have HB := hid hb
  have HR := hid hr
  have HN := hid hn'
  have HC := hid hC
  have HNL := hid hn
  have i1 : (1 : Int) ≤ (n : Int) := by omega
  have i2 : (n : Int) ≤ 8 := by omega
  have d1 : decide ((n : Int) < 1) = false := decide_eq_false (by omega)
  have d2 : decide ((n : Int) > 8) = false := decide_eq_false (by omega)
  have d3 : decide (n < 1) = false := decide_eq_false (by omega)
  have d4 : decide (8 < n) = false := decide_eq_false (by omega)
  have d5 : decide (n = 0) = false := decide_eq_false (by omega)
  have H2 := hid h2
  clear hb hr hn' hC hn h1 h2
  go_enter Try.func9, Try.ntmps9
  go_upto_region 4 with (fail)
  generalize ((w.alloc (.cells (roadsz n).toArray 67)).alloc (.cells #[.slice (some ⟨w.heap.size, 0, none⟩) n n] 52)) = wa at *
  clear hm d1 d2 d3 d4 d5
  go_wp2
  go_loopw [21] (fun i wr => ∃ k : Nat, k ≤ n ∧ i = .int .i64 k ∧ (∀ c ∈ cs.take k, goodCap c) ∧ Row wr w.heap.size (roadsv (cs.take k) ++ roadsz (n - k)) 67 ∧ Row wr (w.heap.size + 1) [.slice (some ⟨w.heap.size, 0, none⟩) n n] 52 ∧ Below w.heap.size w wr) (fun i _ => n - (intOf i).toNat)
  case atStart => exact ⟨0, Nat.zero_le _, rfl, (fun c hc => by cases hc), HR.out, HN.out, HB.out⟩
  case round =>
    clear HR HN HB
    obtain ⟨k, hk, rfl, hg, hr, hn, hb⟩ := hrel
    have HG := hid hg
    have HR := hid hr
    have HN := hid hn
    have HB := hid hb
    clear hg hr hn hb
    by_cases hlt : k < n
    · have hkc : k < cs.length := by rw [HNL.out]; exact hlt
      obtain ⟨ga, oa, rfl, ca⟩ := HC.out k (by simpa using hkc)
      rw [List.getElem_map] at ca
      have HTK : Hid (cs.take (k + 1) = cs.take k ++ [cs[k]]) := take_snoc cs k hkc
      have HMEM : Hid (cs[k] ∈ cs) := List.getElem_mem hkc
      have HZ : Hid (roadsz (n - k) = roadz ++ roadsz (n - (k + 1))) := by show _ = _; rw [show n - k = n - (k + 1) + 1 by omega]; rfl
      have HAL : Hid ((roadsv (cs.take k)).length = 16 * k) := by show _ = _; rw [roadsv_len, List.length_take, Nat.min_eq_left (Nat.le_of_lt hkc)]
      have HKN := hid hlt
      have l1 : (k : Int) < (n : Int) := by omega
      generalize cs[k] = c at *
      have HCA := hid ca
      have ca2 := cell_kept HB.out ca
      clear ca hlt hk hkc
      by_cases hgc : goodCap c
      · have c1 : (1 : Int) ≤ c := hgc.1
        have c2 : c ≤ 1073741824 := hgc.2
        have e1 : decide (c < 1) = false := decide_eq_false (by omega)
        have e2 : decide (c > 1073741824) = false := decide_eq_false (by omega)
        have e3 : decide (1073741824 < c) = false := decide_eq_false (by omega)
        have HGC := hid hgc
        clear hgc
        go_upto_region 9 with (fail)
        refine wp_region_still_tail 12 (by kernel_rfl) (by kernel_rfl) ?_
        have hnc := HN.out.cell 0 _ rfl
        replace ca2 := cell_drawn (wr.drawn + 1) ca2
        replace hnc := cell_drawn (wr.drawn + 1) hnc
        replace HR : Hid _ := HR.out.drawn (wr.drawn + 1)
        replace HN : Hid _ := HN.out.drawn (wr.drawn + 1)
        replace HB : Hid _ := below_drawn HB.out (wr.drawn + 1)
        generalize ({ wr with drawn := wr.drawn + 1 } : World) = wq at *
        simp only [List.take_succ_cons, List.take_zero, List.drop_succ_cons, List.drop_zero]
        iterate 12 still_step
        refine wpStill_nil ?_
        refine wpList_store_mid rfl 41 _ _ rfl w.heap.size (k * 16) ((roadv c).take 14).toArray rfl rfl (HR.out.there (k * 16) 14 (by rw [List.length_append, HAL.out, roadsz_len]; have := HKN.out; omega)) i41 (all_oneCell_toArray (by simp [roadv, Value.oneCell'])) ?_
        have hr := HR.out.setCells ((roadv c).take 14) (k * 16) (by rw [List.length_append, HAL.out, roadsz_len]; have := HKN.out; simp [roadv]; omega)
        rw [HZ.out, roads_set _ _ k c HAL.out] at hr
        have hnn := HN.out.cellsOther (g' := w.heap.size) (by omega) ((roadv c).take 14) (k * 16)
        have hbb : Below w.heap.size w (wq.setCells w.heap.size (k * 16) ((roadv c).take 14)) := Below.setCells (Nat.le_refl _) _ _ HB.out
        clear HR HN HB hnc ca2
        have e : ((roadv c).take 14).toArray.toList = (roadv c).take 14 := rfl
        rw [e]
        generalize wq.setCells w.heap.size (k * 16) ((roadv c).take 14) = wz at *
        have HR := hid hr
        have HN := hid hnn
        have HB := hid hbb
        clear hr hnn hbb e
        go_wp2
        go_roundw
        case rel =>
          refine ⟨k + 1, HKN.out, by go_num, fun c' hc' => ?_, ?_, HN.out, HB.out⟩
          · rw [HTK.out] at hc'
            rcases List.mem_append.1 hc' with h | h
            · exact HG.out c' h
            · simp at h; subst h; exact HGC.out
          · rw [HTK.out, roadsv_snoc]
            exact HR.out
        case measure => simp [intOf]; have := HKN.out; omega
      · have HGC := hid hgc
        by_cases hc1 : c < 1
        · have e1 : decide (c < 1) = true := decide_eq_true hc1
          clear hgc
          go_wp2
          go_ret2
          exact ⟨HB.out, .inl ⟨⟨c, HMEM.out, HGC.out⟩, rfl⟩⟩
        · have e1 : decide (c < 1) = false := decide_eq_false hc1
          have c2 : 1073741824 < c := by unfold goodCap at hgc; omega
          have e2 : decide (c > 1073741824) = true := decide_eq_true c2
          clear hgc
          go_wp2
          go_ret2
          exact ⟨HB.out, .inl ⟨⟨c, HMEM.out, HGC.out⟩, rfl⟩⟩
    · have ek : k = n := by omega
      subst ek
      have HTA : Hid (cs.take k = cs) := List.take_of_length_le (by rw [HNL.out]; exact Nat.le_refl _)
      clear hlt hk
      go_wp2
      go_ret2
      refine ⟨HB.out, .inr ⟨by have h := HG.out; rwa [HTA.out] at h, w.heap.size + 1, w.heap.size, rfl, Nat.le_refl _, Nat.lt_succ_self _, ?_, HN.out⟩⟩
      have h := HR.out
      rw [HTA.out, Nat.sub_self] at h
      simpa [roadsz] using h
end Go.Proofs.Ytjnmfedefmemnaa
