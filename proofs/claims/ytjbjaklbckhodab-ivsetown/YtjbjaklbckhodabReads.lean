import Derived.Test.YtjbjaklbckhodabFinds
import Derived.Deep.RegionWith
namespace Go.Proofs.Ytjbjaklbckhodab
open Go.RowKit
set_option maxRecDepth 100000

set_option maxHeartbeats 400000 in
theorem len_any {w : World} {p : Nat} {a : Option Addr} {cap : Nat} {L : List Rg} (V : View w p a cap L) :
    Calls Try.prog 23 #[.pointer (some ⟨p, 0, none⟩)] w fun e w' => e = .returned (.int .i64 L.length) ∧ w' = w := by
  have hd := V.head
  clear V
  go_enter Try.func23, Try.ntmps23
  go_wp2
  go_ret
  exact ⟨rfl, rfl⟩

/-- The first number from x on that is not there. -/
def gapOf (L : List Rg) (x : Int) : Int :=
  if front (endBy x) L < L.length ∧ (nth L (front (endBy x) L)).1 ≤ x then (nth L (front (endBy x) L)).2 else x

set_option maxHeartbeats 400000 in
theorem gap_any {w : World} {p : Nat} {a : Option Addr} {cap : Nat} {L : List Rg} (x : Int) (V : View w p a cap L) (F : Fit L) :
    Calls Try.prog 28 #[.pointer (some ⟨p, 0, none⟩), .int .u64 x] w fun e w' => e = .returned (.int .u64 (gapOf L x)) ∧ Below w.heap.size w w' := by
  have hF := firstFrom_any x V F
  have HV : Hid _ := V
  clear V F
  by_cases h1 : front (endBy x) L < L.length
  · by_cases h2 : (nth L (front (endBy x) L)).1 ≤ x
    · have e : gapOf L x = (nth L (front (endBy x) L)).2 := by unfold gapOf; exact if_pos ⟨h1, h2⟩
      rw [e]
      obtain ⟨g, rfl, c1, c2⟩ := HV.out.row _ h1
      rw [← nth_eq h1] at c1 c2
      generalize (nth L (front (endBy x) L)) = r at *
      obtain ⟨rl, rh⟩ := r
      simp only at c1 c2 h2
      generalize front (endBy x) L = k at *
      have h1' : (k : Int) < (L.length : Int) := by omega
      have HC1 : Hid _ := c1
      have HC2 : Hid _ := c2
      clear c1 c2 e
      go_enter Try.func28, Try.ntmps28
      go_wp2_with fail
      refine hF.mono ?_
      rintro e w1 ⟨rfl, hb1⟩
      have d := cell_kept hb1 HV.out.head
      have d1 := cell_kept hb1 HC1.out
      have d2 := cell_kept hb1 HC2.out
      have HB : Hid _ := hb1
      clear hb1 hF HV HC1 HC2
      go_wp2
      go_ret
      exact ⟨rfl, HB.out⟩
    · have e : gapOf L x = x := by unfold gapOf; exact if_neg (fun h => h2 h.2)
      rw [e]
      obtain ⟨g, rfl, c1, c2⟩ := HV.out.row _ h1
      rw [← nth_eq h1] at c1 c2
      generalize (nth L (front (endBy x) L)) = r at *
      obtain ⟨rl, rh⟩ := r
      simp only at c1 c2 h2
      generalize front (endBy x) L = k at *
      have h1' : (k : Int) < (L.length : Int) := by omega
      have HC1 : Hid _ := c1
      have HC2 : Hid _ := c2
      clear c1 c2 e
      go_enter Try.func28, Try.ntmps28
      go_wp2_with fail
      refine hF.mono ?_
      rintro e w1 ⟨rfl, hb1⟩
      have d := cell_kept hb1 HV.out.head
      have d1 := cell_kept hb1 HC1.out
      have d2 := cell_kept hb1 HC2.out
      have HB : Hid _ := hb1
      clear hb1 hF HV HC1 HC2
      go_wp2
      go_ret
      exact ⟨rfl, HB.out⟩
  · have e : gapOf L x = x := by unfold gapOf; exact if_neg (fun h => h1 h.1)
    rw [e]
    generalize front (endBy x) L = k at *
    have h1' : ¬ (k : Int) < (L.length : Int) := by omega
    clear e
    go_enter Try.func28, Try.ntmps28
    go_wp2_with fail
    refine hF.mono ?_
    rintro e w1 ⟨rfl, hb1⟩
    have d := cell_kept hb1 HV.out.head
    have HB : Hid _ := hb1
    clear hb1 hF HV
    go_wp2
    go_ret
    exact ⟨rfl, HB.out⟩

set_option maxHeartbeats 400000 in
theorem has_any {w : World} {p : Nat} {a : Option Addr} {cap : Nat} {L : List Rg} (x : Int) (V : View w p a cap L) (F : Fit L) :
    Calls Try.prog 27 #[.pointer (some ⟨p, 0, none⟩), .int .u64 x] w fun e w' => e = .returned (.bool (gapOf L x != x)) ∧ Below w.heap.size w w' := by
  have hG := gap_any x V F
  clear V F
  generalize gapOf L x = y at *
  go_enter Try.func27, Try.ntmps27
  go_wp2_with fail
  refine hG.mono ?_
  rintro e w1 ⟨rfl, hb1⟩
  have HB : Hid _ := hb1
  clear hb1
  go_wp2
  go_ret
  exact ⟨rfl, HB.out⟩

set_option maxHeartbeats 400000 in
theorem covers_any {w : World} {p : Nat} {a : Option Addr} {cap : Nat} {L : List Rg} (r : Rg) (V : View w p a cap L) (F : Fit L) :
    Calls Try.prog 37 #[.pointer (some ⟨p, 0, none⟩), .agg #[.int .u64 r.1, .int .u64 r.2]] w fun e w' => e = .returned (.bool (decide (r.2 ≤ gapOf L r.1))) ∧ Below w.heap.size w w' := by
  obtain ⟨rl, rh⟩ := r
  have hb : Below w.heap.size w (w.alloc (.cells #[.int .u64 rl, .int .u64 rh] 25)) := (Below.refl _ _).alloc (Nat.le_refl _) _
  have hG := fun q => gap_any (w := World.drewN _ q) rl ((V.kept hb).kept (below_drewN (Below.refl _ _) q)) F
  have hc0 : (w.alloc (.cells #[.int .u64 rl, .int .u64 rh] 25)).cell? ⟨w.heap.size, 0, none⟩ = some (.int .u64 rl) := by rw [cell_of_row _ _ _ _ _ _ (heap_alloc_new w _)]; rfl
  have hc1 : (w.alloc (.cells #[.int .u64 rl, .int .u64 rh] 25)).cell? ⟨w.heap.size, 1, none⟩ = some (.int .u64 rh) := by rw [cell_of_row _ _ _ _ _ _ (heap_alloc_new w _)]; rfl
  have hsz : w.heap.size < (w.alloc (.cells #[.int .u64 rl, .int .u64 rh] 25)).heap.size := by simp
  have HB : Hid _ := hb
  have HC0 : Hid _ := hc0
  have HC1 : Hid _ := hc1
  have HZ : Hid _ := hsz
  clear V F hb hc0 hc1 hsz
  show Calls Try.prog 37 _ _ fun e w' => e = .returned (.bool (decide (rh ≤ gapOf L rl))) ∧ _
  generalize gapOf L rl = y at *
  have HG : Hid _ := hG
  clear hG
  go_enter Try.func37, Try.ntmps37
  go_wp2
  go_region_with (go_at_call 28; refine (HG.out 1).mono ?_; rintro e w1 ⟨rfl, hb1⟩; have d0 := cell_kept hb1 HC0.out; have d1 := cell_kept hb1 HC1.out; have hz := Nat.lt_of_lt_of_le HZ.out hb1.size; have HB1 : Hid _ := hb1; clear hb1)
  all_goals go_wp2
  all_goals go_ret
  all_goals exact ⟨rfl, (below_drewN HB.out 1).trans (HB1.out.mono HB.out.size)⟩

end Go.Proofs.Ytjbjaklbckhodab
