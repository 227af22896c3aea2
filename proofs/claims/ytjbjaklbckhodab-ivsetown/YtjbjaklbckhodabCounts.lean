import Derived.Test.YtjbjaklbckhodabReads
namespace Go.Proofs.Ytjbjaklbckhodab
open Go.RowKit
set_option maxRecDepth 100000

/-- How many numbers the stretches have. -/
def total : List Rg → Int
  | [] => 0
  | r :: l => (r.2 - r.1) + total l
theorem total_append (A B : List Rg) : total (A ++ B) = total A + total B := by
  induction A with
  | nil => simp [total]
  | cons a l ih => simp only [List.cons_append, total, ih]; omega
theorem total_snoc (L : List Rg) (k : Nat) (h : k < L.length) : total (L.take (k + 1)) = total (L.take k) + (L[k].2 - L[k].1) := by
  rw [List.take_succ_eq_append_getElem h, total_append]
  simp [total]
/-- Stretches that rise and lie apart have no more numbers than the last one's end. -/
theorem total_le (L : List Rg) (F : Fit L) : ∀ k, k ≤ L.length → 0 ≤ total (L.take k) ∧ (∀ (_ : 0 < k) (hk : k - 1 < L.length), total (L.take k) ≤ L[k - 1].2) := by
  intro k
  induction k with
  | zero => intro _; exact ⟨by simp [total], fun h => by omega⟩
  | succ k ih =>
    intro hk
    have hk' : k < L.length := by omega
    have h := ih (by omega)
    rw [total_snoc L k hk']
    have hf := F.at k hk'
    refine ⟨by omega, fun _ _ => ?_⟩
    simp only [Nat.add_sub_cancel]
    cases k with
    | zero => simp only [List.take_zero, total]; omega
    | succ j =>
      have h2 := h.2 (by omega) (by omega)
      simp only [Nat.add_sub_cancel] at h2
      have h3 := F.lt j (j + 1) (by omega) hk'
      omega
theorem total_bd (L : List Rg) (F : Fit L) (k : Nat) (hk : k ≤ L.length) : 0 ≤ total (L.take k) ∧ total (L.take k) ≤ 18446744073709551615 := by
  have h := total_le L F k hk
  refine ⟨h.1, ?_⟩
  cases k with
  | zero => simp [total]
  | succ k => have h2 := h.2 (by omega) (by omega); simp only [Nat.add_sub_cancel] at h2; have := F.at k (by omega); omega

set_option maxHeartbeats 400000 in
theorem count_any {w : World} {p : Nat} {a : Option Addr} {cap : Nat} {L : List Rg} (V : View w p a cap L) (F : Fit L) :
    Calls Try.prog 24 #[.pointer (some ⟨p, 0, none⟩)] w fun e w' => e = .returned (.int .u64 (total L)) ∧ Below w.heap.size w w' := by
  have hd := V.head
  have hfew := V.few
  have HV : Hid _ := V
  have HF : Hid (Fit L) := F
  clear V F
  go_enter Try.func24, Try.ntmps24
  go_wp2
  go_loopw [3, 11] (fun n i wr => ∃ k : Nat, k ≤ L.length ∧ i = .int .i64 k ∧ n = .int .u64 (total (L.take k)) ∧ Below w.heap.size w wr) (fun _ i _ => L.length - (intOf i).toNat)
  case atStart => exact ⟨0, Nat.zero_le _, rfl, rfl, Below.refl _ _⟩
  case round =>
    obtain ⟨k, hk, rfl, rfl, hb⟩ := hrel
    by_cases hlt : k < L.length
    · obtain ⟨g, rfl, c1, c2⟩ := HV.out.row k hlt
      have d1 := cell_kept hb c1
      have d2 := cell_kept hb c2
      have hs := total_snoc L k hlt
      have hbd := total_bd L HF.out k hk
      have hbd2 := total_bd L HF.out (k + 1) hlt
      have hf := HF.out.at k hlt
      clear c1 c2
      generalize L[k] = r at *
      obtain ⟨rl, rh⟩ := r
      simp only at d1 d2 hs hf
      generalize total (L.take k) = t at *
      have hbd3 : 0 ≤ t + (rh - rl) ∧ t + (rh - rl) ≤ 18446744073709551615 := by rw [← hs]; exact hbd2
      have HS : Hid _ := hs
      have HB : Hid _ := hb
      clear hs hbd2 hb
      go_wp2
      go_roundw
      case rel => exact ⟨k + 1, hlt, by go_num, by rw [HS.out], HB.out.alloc HB.out.size _⟩
      case measure => simp [intOf]; omega
    · have e : k = L.length := by omega
      subst e
      have HB : Hid _ := hb
      clear hb
      rw [List.take_length]
      go_wp2
      go_ret
      exact ⟨rfl, HB.out⟩

theorem ovl_le {L : List Rg} (F : Fit L) (r : Rg) : ovlA L r ≤ ovlB L r ∧ ovlB L r ≤ L.length := by
  unfold ovlA ovlB
  by_cases h : r.2 ≤ r.1
  · rw [if_pos h]; exact ⟨Nat.le_refl _, front_le _ _⟩
  · rw [if_neg h]
    refine ⟨Nat.le_of_not_lt fun hlt => ?_, front_le _ _⟩
    have hl := front_le (endBy r.1) L
    have h1 := (front_spec (endBy r.1) L).1 _ (by omega) hlt
    have h2 := (front_spec (beginAhead r.2) L).2 (by omega)
    have hf := F.at (front (beginAhead r.2) L) (by omega)
    simp only [endBy, beginAhead, decide_eq_true_eq, decide_eq_false_iff_not] at h1 h2
    omega
/-- The part of a stretch that lies in r. -/
def clip (r t : Rg) : Rg := (max r.1 t.1, min r.2 t.2)
/-- The stretches of the set that r meets, cut to r. -/
def clipL (L : List Rg) (r : Rg) : List Rg := ((L.take (ovlB L r)).drop (ovlA L r)).map (clip r)
theorem ovl_meets {L : List Rg} (F : Fit L) (r : Rg) (i : Nat) (hA : ovlA L r ≤ i) (hB : i < ovlB L r) (hi : i < L.length) : r.1 < L[i].2 ∧ L[i].1 < r.2 ∧ r.1 < r.2 := by
  unfold ovlA at hA
  unfold ovlB at hB
  by_cases h : r.2 ≤ r.1
  · rw [if_pos h] at hB; omega
  · rw [if_neg h] at hB
    have h1 := (front_spec (endBy r.1) L).2 (by omega)
    have h2 := (front_spec (beginAhead r.2) L).1 i hi hB
    have h3 := F.mono_hi _ i hA hi
    simp only [endBy, beginAhead, decide_eq_true_eq, decide_eq_false_iff_not] at h1 h2
    omega
theorem clipL_length {L : List Rg} (F : Fit L) (r : Rg) : (clipL L r).length = ovlB L r - ovlA L r := by
  have := ovl_le F r
  simp only [clipL, List.length_map, List.length_drop, List.length_take]; omega
theorem clipL_get {L : List Rg} (F : Fit L) (r : Rg) (k : Nat) (hk : k < (clipL L r).length) : ∃ (h : ovlA L r + k < L.length), (clipL L r)[k] = clip r L[ovlA L r + k] := by
  have h1 := clipL_length F r
  have h2 := ovl_le F r
  refine ⟨by omega, ?_⟩
  simp [clipL]
theorem clipL_fit {L : List Rg} (F : Fit L) (r : Rg) (h0 : 0 ≤ r.1) (h1 : r.2 ≤ 18446744073709551615) : Fit (clipL L r) := by
  have hl := clipL_length F r
  have ho := ovl_le F r
  constructor
  · intro t ht
    obtain ⟨k, hk, rfl⟩ := List.getElem_of_mem ht
    obtain ⟨h, e⟩ := clipL_get F r k hk
    rw [e]
    have hm := ovl_meets F r (ovlA L r + k) (by omega) (by omega) h
    have hf := F.at _ h
    unfold clip
    simp only
    omega
  · rw [List.pairwise_iff_getElem]
    intro i j hi hj hij
    obtain ⟨h, e⟩ := clipL_get F r i hi
    obtain ⟨h', e'⟩ := clipL_get F r j hj
    rw [e, e']
    have := F.lt (ovlA L r + i) (ovlA L r + j) (by omega) h'
    unfold clip
    simp only
    omega

theorem go_min (a b : Int) : (if b < a then b else a) = min a b := by split <;> omega
theorem go_max (a b : Int) : (if a < b then b else a) = max a b := by split <;> omega

set_option maxHeartbeats 400000 in
theorem common_any {w : World} {p : Nat} {a : Option Addr} {cap : Nat} {L : List Rg} (r : Rg) (h0 : 0 ≤ r.1) (h1 : r.2 ≤ 18446744073709551615) (V : View w p a cap L) (F : Fit L) :
    Calls Try.prog 44 #[.pointer (some ⟨p, 0, none⟩), .agg #[.int .u64 r.1, .int .u64 r.2]] w fun e w' => e = .returned (.int .u64 (total (clipL L r))) ∧ Below w.heap.size w w' := by
  have hCF := clipL_fit F r h0 h1
  have hCL := clipL_length F r
  have hle := ovl_le F r
  have hCG := clipL_get F r
  obtain ⟨rl, rh⟩ := r
  have hb : Below w.heap.size w (w.alloc (.cells #[.int .u64 rl, .int .u64 rh] 25)) := (Below.refl _ _).alloc (Nat.le_refl _) _
  have hc0 : (w.alloc (.cells #[.int .u64 rl, .int .u64 rh] 25)).cell? ⟨w.heap.size, 0, none⟩ = some (.int .u64 rl) := by rw [cell_of_row _ _ _ _ _ _ (heap_alloc_new w _)]; rfl
  have hc1 : (w.alloc (.cells #[.int .u64 rl, .int .u64 rh] 25)).cell? ⟨w.heap.size, 1, none⟩ = some (.int .u64 rh) := by rw [cell_of_row _ _ _ _ _ _ (heap_alloc_new w _)]; rfl
  have hz : (w.alloc (.cells #[.int .u64 rl, .int .u64 rh] 25)).heap.size = w.heap.size + 1 := by simp
  have hO := overlapped_any (rl, rh) (V.kept hb) F
  simp only at hO
  have HV : Hid _ := V.kept hb
  have HB : Hid _ := hb
  have HC0 : Hid _ := hc0
  have HC1 : Hid _ := hc1
  have HF : Hid (Fit (clipL L (rl, rh))) := hCF
  have HG : Hid _ := hCG
  clear V F hb hc0 hc1 hCF hCG
  generalize ovlA L (rl, rh) = A at *
  generalize ovlB L (rl, rh) = B at *
  generalize clipL L (rl, rh) = C at *
  have HCL : Hid _ := hCL
  clear hCL
  go_enter Try.func44, Try.ntmps44
  go_wp2_with fail
  refine hO.mono ?_
  rintro e w1 ⟨rfl, hb1⟩
  have HV1 : Hid _ := HV.out.kept hb1
  have d0 := cell_kept hb1 HC0.out
  have d1 := cell_kept hb1 HC1.out
  have hz1 := hb1.size
  rw [hz] at hz1
  have HB1 : Hid _ := HB.out.trans (hb1.mono HB.out.size)
  clear hO hb1 hz HV HB HC0 HC1
  have hd := HV1.out.head
  have hAl : (A : Int) ≤ (L.length : Int) := by omega
  have hAB : (A : Int) ≤ (B : Int) := by omega
  have hfew := HV1.out.few
  have hBc : (B : Int) ≤ (cap : Int) := by have := HV1.out.le; omega
  by_cases hlt : A < B
  · obtain ⟨g, rfl, _, _⟩ := HV1.out.row A (by omega)
    have hAc : ¬ cap = A := by omega
    go_wp2
    go_loopw [5, 24] (fun n i wr => ∃ k : Nat, k ≤ B - A ∧ i = .int .i64 k ∧ n = .int .u64 (total (C.take k)) ∧ Below w1.heap.size w1 wr) (fun _ i _ => (B - A) - (intOf i).toNat)
    case atStart => exact ⟨0, Nat.zero_le _, rfl, rfl, Below.refl _ _⟩
    case round =>
      obtain ⟨k, hk, rfl, rfl, hb⟩ := hrel
      by_cases hkl : k < B - A
      · have hkC : k < C.length := by rw [HCL.out]; exact hkl
        obtain ⟨c1, c2⟩ := HV1.out.at (A + k) (by omega)
        obtain ⟨hh, hcl⟩ := HG.out k hkC
        have e1 := cell_kept hb c1
        have e2 := cell_kept hb c2
        have f0 := fun o => cell_kept ((Below.refl _ wr).alloc (Nat.le_refl _) o) (cell_kept hb d0)
        have f1 := fun o => cell_kept ((Below.refl _ wr).alloc (Nat.le_refl _) o) (cell_kept hb d1)
        have hs := total_snoc C k hkC
        have hbd := total_bd C HF.out k (by omega)
        have hbd2 := total_bd C HF.out (k + 1) hkC
        have hf := HF.out.at k hkC
        rw [hcl] at hs hf
        clear c1 c2 hcl d0 d1
        generalize L[A + k] = r at *
        obtain ⟨tl, th⟩ := r
        simp only [clip] at e1 e2 hs hf
        rw [show (A + k) * 2 = A * 2 + k * 2 by omega] at e1
        rw [show (A + k) * 2 + 1 = A * 2 + k * 2 + 1 by omega] at e2
        generalize total (C.take k) = t at *
        rw [hs] at hbd2
        have HS : Hid _ := hs
        have HB2 : Hid _ := hb
        clear hs hb
        go_wp2
        go_roundw
        case rel => exact ⟨k + 1, hkl, by go_num, by rw [HS.out, go_min, go_max], HB2.out.alloc HB2.out.size _⟩
        case measure => simp [intOf]; omega
      · have e : k = C.length := by rw [HCL.out]; omega
        subst e
        have HB2 : Hid _ := hb
        have hkk : ¬ (C.length : Int) < ((B - A : Nat) : Int) := by omega
        clear hb
        rw [List.take_length]
        go_wp2
        go_ret
        exact ⟨rfl, HB1.out.trans (HB2.out.mono HB1.out.size)⟩
  · have e : A = B := by omega
    subst e
    have hC : C = [] := List.eq_nil_of_length_eq_zero (by rw [HCL.out]; omega)
    subst hC
    rcases HV1.out.shape with ⟨rfl, rfl⟩ | ⟨g, rfl⟩
    · have hA0 : A = 0 := by omega
      subst hA0
      go_wp2
      refine wp_loop_rounds 1 ?_
      rw [rounds_succ]
      go_wp2
      go_ret
      exact ⟨rfl, HB1.out⟩
    · go_wp2
      all_goals refine wp_loop_rounds 1 ?_
      all_goals rw [rounds_succ]
      all_goals go_wp2
      all_goals go_ret
      all_goals exact ⟨rfl, HB1.out⟩

end Go.Proofs.Ytjbjaklbckhodab
