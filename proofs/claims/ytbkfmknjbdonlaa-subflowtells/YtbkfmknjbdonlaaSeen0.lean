import Derived.Test.YtbkfmknjbdonlaaSvRemove
import Derived.Test.YtbkfmknjbdonlaaIvCnt
import Derived.Test.YtbkfmknjbdonlaaIvSorted
import Derived.Test.YtbkfmknjbdonlaaHeard
namespace Go.Proofs.Ytbkfmknjbdonlaa
open Go.RowKit
set_option maxRecDepth 100000

/-- The Seen at p, all of it in memory from B on. -/
structure SOwn (B : Nat) (w : World) (p : Nat) (v : Value) (L : List Rg) : Prop where
  set : SenAt w p v L
  at_ : B ≤ p
  row : ∀ x, v.ownBlock = some x → B ≤ x
theorem SOwn.kept {B : Nat} {w w' : World} {p : Nat} {v : Value} {L : List Rg} (O : SOwn B w p v L) (hb : Below w.heap.size w w') : SOwn B w' p v L := ⟨O.set.kept hb, O.at_, O.row⟩
theorem SOwn.turned {B : Nat} {w w' : World} {p : Nat} {v v' : Value} {L L' : List Rg} (O : SOwn B w p v L) (S : SenAt w' p v' L') (T : Turned w w' p v v') : SOwn B w' p v' L' ∧ Below B w w' := by
  have hpw : p < w.heap.size := (Array.getElem?_eq_some_iff.1 O.set.hp).1
  refine ⟨⟨S, O.at_, fun x hx => ?_⟩, ⟨T.os, T.tape, T.output, T.size, fun k hk => T.block k ?_ ?_ ?_⟩⟩
  · rcases T.row with h | ⟨g, h, hg⟩
    · rw [h] at hx; exact O.row x hx
    · rw [h] at hx; simp only [Option.some.injEq] at hx; have := O.at_; omega
  · have := O.at_; omega
  · have := O.at_; omega
  · intro e
    have := O.row k e.symm
    omega
theorem i72 : (Try.prog.info? 72).map (·.size) = some 1 := by kernel_rfl
set_option maxHeartbeats 1000000 in
theorem seennew_any (w : World) : Calls Try.prog 9 #[] w fun e w' => ∃ p v, e = .returned (.pointer (some ⟨p, 0, none⟩)) ∧ SOwn w.heap.size w' p v [] ∧ Below w.heap.size w w' := by
  have hN := new_any (w := w) (a := none) (cap := 0) (L := []) sort_any ⟨fun h => absurd rfl h⟩ (by simp) (by simp)
  go_enter Try.func9, Try.ntmps9
  go_wp2_with (go_at_call 32; refine hN.mono ?_; rintro e w1 ⟨q, rfl, v, L', hp, hO, hb⟩; obtain rfl := List.Perm.eq_nil hp; have HO := hid hO; have HB := hid hb; have c0 : w1.cell? ⟨q, 0, none⟩ = some v := (by rw [cell_of_row w1 q 0 _ _ _ hO.set.hp]; rfl); obtain ⟨av, cv, rfl, _⟩ := hO.set.view (by decide); clear hO hb hN)
  go_ret
  have hb1 := below_grow (Below.refl w1.heap.size w1) (.cells #[.slice av (addAll []).length cv] 76)
  exact ⟨w1.heap.size, .slice av (addAll []).length cv, rfl, ⟨⟨heap_alloc_new w1 _, own_below HO.out.set.own hb1⟩, HB.out.size, HO.out.row⟩, HB.out.trans (hb1.mono HB.out.size)⟩
/-- Of one number: is it new? -/
theorem fresh_one {L : List Rg} (F : Fit L) (n : Int) (h0 : 0 ≤ n) (h1 : n < 18446744073709551615) : (mem L n → freshOf L (n, n + 1) = 0) ∧ (¬ mem L n → freshOf L (n, n + 1) = 1) := by
  have ht := addL_total F (n, n + 1) h0 (by simp only; omega)
  have hA := (addL_fit F (n, n + 1) h0 (by simp only; omega)).rise
  have hm := addL_mem F (n, n + 1)
  constructor
  · intro hn
    have := total_sum hA rise_nil F.rise rise_nil (fun y => by
      by_cases hy : mem L y
      · rw [ind_yes hy, ind_yes ((hm y).2 (.inl hy))]
      · rw [ind_no hy, ind_no (fun h => by
          rcases (hm y).1 h with h | h
          · exact hy h
          · simp only at h
            have : y = n := by omega
            subst this
            exact hy hn)])
    simp only [total] at this
    omega
  · intro hn
    have := total_sum hA rise_nil F.rise (rise_one (r := (n, n + 1)) ⟨h0, by simp only; omega, by simp only; omega⟩) (fun y => by
      have e0 : ind [] y = 0 := ind_no (by simp [mem])
      by_cases hy : mem L y
      · have : y ≠ n := fun e => hn (e ▸ hy)
        rw [ind_yes hy, ind_yes ((hm y).2 (.inl hy)), e0, ind_no (fun h => by rw [cmem_one] at h; simp only at h; omega)]
      · by_cases e : y = n
        · subst e
          rw [ind_no hy, ind_yes ((hm y).2 (.inr (by simp only; omega))), e0, ind_yes (cmem_one.2 (by simp only; omega))]
          rfl
        · rw [ind_no hy, ind_no (fun h => by
            rcases (hm y).1 h with h | h
            · exact hy h
            · simp only at h; omega), e0, ind_no (fun h => by rw [cmem_one] at h; simp only at h; omega)])
    simp only [total] at this
    omega
set_option maxHeartbeats 2000000 in
theorem got_few {B : Nat} {w : World} {p : Nat} {v : Value} {L : List Rg} (O : SOwn B w p v L) (F : Fit L) (hl : L.length ≤ 32) (n : Int) (h0 : 0 ≤ n) (h1 : n < 18446744073709551615) (hA : (addL L (n, n + 1)).length ≤ 32) :
    Calls Try.prog 10 #[.pointer (some ⟨p, 0, none⟩), .int .u64 n] w fun e w' => e = .returned (.bool (decide (0 < freshOf L (n, n + 1)))) ∧ ∃ v', SOwn B w' p v' (addL L (n, n + 1)) ∧ Below B w w' ∧ Turned w w' p v v' := by
  have hAd := sv_add_any O.set F (by omega) (n, n + 1) h0 (by simp only; omega)
  have ew : IntKind.u64.wrap (n + 1) = n + 1 := wrapu _ (by omega) (by omega)
  have HO := hid O
  clear O
  generalize freshOf L (n, n + 1) = fr at *
  generalize addL L (n, n + 1) = A at *
  go_enter Try.func10, Try.ntmps10
  go_wp2_with (go_at_call 33; refine hAd.mono ?_; rintro e w2 ⟨rfl, v2, hS2, hT2⟩; have HX := hid (HO.out.turned hS2 hT2); have HTT := hid hT2; obtain ⟨av, cv, rfl, hv⟩ := hS2.view (by omega); have hLn := len_any hv; clear hS2 hT2 hv hAd)
  have hA' : decide ((32 : Int) < (A.length : Int)) = false := decide_eq_false (by omega)
  refine wp_loop_rounds 1 ?_
  rw [rounds_succ]
  go_wp2_with (go_at_call 34; refine hLn.mono ?_; rintro e w3 ⟨rfl, rfl⟩)
  go_ret
  exact ⟨rfl, _, HX.out.1, HX.out.2, HTT.out⟩
set_option maxHeartbeats 1000000 in
theorem sranges_any {w : World} {p : Nat} {a : Option Addr} {cap : Nat} {L : List Rg} (V : View w p a cap L) (hf : L.length ≤ 1048576) :
    Calls Try.prog 12 #[.pointer (some ⟨p, 0, none⟩)] w fun e w' => ∃ g, e = .returned (.slice (some ⟨g, (L.length - 8) * 2, none⟩) (L.length - (L.length - 8)) (L.length - (L.length - 8))) ∧ w.heap.size ≤ g ∧ w'.heap[g]? = some (.cells (flat L).toArray 58 (0, 0)) ∧ Below w.heap.size w w' := by
  have hR := ranges_any V (by omega)
  clear V
  have ew : wrap64 ((L.length : Int) - 8) = (L.length : Int) - 8 := by unfold wrap64; omega
  have ew' : IntKind.i64.wrap ((L.length : Int) - 8) = (L.length : Int) - 8 := by rw [IntKind.wrap_i64]; omega
  obtain ⟨k, hk⟩ : ∃ k, k = L.length - 8 := ⟨_, rfl⟩
  have em : max ((L.length : Int) - 8) 0 = (k : Int) := by omega
  have hkl : (k : Int) ≤ (L.length : Int) := by omega
  have hkl' : k ≤ L.length := by omega
  have HK0 := hid (show L.length = k → k = 0 by omega)
  rw [← hk]
  clear hk
  by_cases hz : L.length = k
  · obtain rfl : k = 0 := HK0.out hz
    obtain rfl : L = [] := List.eq_nil_of_length_eq_zero hz
    go_enter Try.func12, Try.ntmps12
    go_wp2_with (go_at_call 36; refine hR.mono ?_; rintro e w2 ⟨g, rfl, hg, hr, hb⟩; have HH := hid (And.intro hg (And.intro hr hb)); clear hg hr hb hR)
    go_ret
    exact ⟨g, rfl, HH.out.1, HH.out.2.1, HH.out.2.2⟩
  · go_enter Try.func12, Try.ntmps12
    go_wp2_with (go_at_call 36; refine hR.mono ?_; rintro e w2 ⟨g, rfl, hg, hr, hb⟩; have HH := hid (And.intro hg (And.intro hr hb)); clear hg hr hb hR)
    go_ret
    exact ⟨g, rfl, HH.out.1, HH.out.2.1, HH.out.2.2⟩
/-- A set of numbers below 60 has few stretches. -/
theorem few_stretches {L : List Rg} (F : Fit L) (h : ∀ y, mem L y → y < 60) : L.length ≤ 30 := by
  have hs : ∀ i (hi : i < L.length), 2 * (i : Int) ≤ L[i].1 := by
    intro i
    induction i with
    | zero => intro hi; have := F.1 L[0] (List.getElem_mem hi); simp; omega
    | succ i ih =>
      intro hi
      have h1 := ih (by omega)
      have h2 := List.pairwise_iff_getElem.1 F.2 i (i + 1) (by omega) hi (by omega)
      have h3 := F.1 L[i] (List.getElem_mem (by omega))
      push_cast
      omega
  by_cases h0 : L.length = 0
  · omega
  · have h1 := hs (L.length - 1) (by omega)
    have h2 := F.1 (L[L.length - 1]'(by omega)) (List.getElem_mem (by omega))
    have h3 := h _ ⟨_, List.getElem_mem (show L.length - 1 < L.length by omega), Int.le_refl _, h2.2.1⟩
    omega
end Go.Proofs.Ytbkfmknjbdonlaa
