import Derived.Test.YtimiokbnhneggaaIvFinds
import Derived.Deep.RegionWith
namespace Go.Proofs.Ytimiokbnhneggaa
open Go.RowKit
set_option maxRecDepth 100000

/-- The first number from x on that is not there. -/
def gapOf (L : List Rg) (x : Int) : Int :=
  if front (endBy x) L < L.length ∧ (nth L (front (endBy x) L)).1 ≤ x then (nth L (front (endBy x) L)).2 else x

set_option maxHeartbeats 400000 in
theorem gap_any {w : World} {p : Nat} {a : Option Addr} {cap : Nat} {L : List Rg} (x : Int) (V : View w p a cap L) (F : Fit L) :
    Calls Try.prog 28 #[.pointer (some ⟨p, 0, none⟩), .int .u64 x] w fun e w' => e = .returned (.int .u64 (gapOf L x)) ∧ Below w.heap.size w w' := by
  have hF := firstFrom_any x V F
  have HV : Hid _ := V
  clear V F
  by_cases h1 : front (endBy x) L < L.length
  · by_cases h2 : (nth L (front (endBy x) L)).1 ≤ x
    · have e : gapOf L x = (nth L (front (endBy x) L)).2 := by unfold gapOf; exact if_pos ⟨h1, h2⟩
      rw [e]
      obtain ⟨g, rfl, c1, c2⟩ := HV.out.row _ h1
      rw [← nth_eq h1] at c1 c2
      generalize (nth L (front (endBy x) L)) = r at *
      obtain ⟨rl, rh⟩ := r
      simp only at c1 c2 h2
      generalize front (endBy x) L = k at *
      have h1' : (k : Int) < (L.length : Int) := by omega
      have HC1 : Hid _ := c1
      have HC2 : Hid _ := c2
      clear c1 c2 e
      go_enter Try.func28, Try.ntmps28
      go_wp2_with fail
      refine hF.mono ?_
      rintro e w1 ⟨rfl, hb1⟩
      have d := cell_kept hb1 HV.out.head
      have d1 := cell_kept hb1 HC1.out
      have d2 := cell_kept hb1 HC2.out
      have HB : Hid _ := hb1
      clear hb1 hF HV HC1 HC2
      go_wp2
      go_ret
      exact ⟨rfl, HB.out⟩
    · have e : gapOf L x = x := by unfold gapOf; exact if_neg (fun h => h2 h.2)
      rw [e]
      obtain ⟨g, rfl, c1, c2⟩ := HV.out.row _ h1
      rw [← nth_eq h1] at c1 c2
      generalize (nth L (front (endBy x) L)) = r at *
      obtain ⟨rl, rh⟩ := r
      simp only at c1 c2 h2
      generalize front (endBy x) L = k at *
      have h1' : (k : Int) < (L.length : Int) := by omega
      have HC1 : Hid _ := c1
      have HC2 : Hid _ := c2
      clear c1 c2 e
      go_enter Try.func28, Try.ntmps28
      go_wp2_with fail
      refine hF.mono ?_
      rintro e w1 ⟨rfl, hb1⟩
      have d := cell_kept hb1 HV.out.head
      have d1 := cell_kept hb1 HC1.out
      have d2 := cell_kept hb1 HC2.out
      have HB : Hid _ := hb1
      clear hb1 hF HV HC1 HC2
      go_wp2
      go_ret
      exact ⟨rfl, HB.out⟩
  · have e : gapOf L x = x := by unfold gapOf; exact if_neg (fun h => h1 h.1)
    rw [e]
    generalize front (endBy x) L = k at *
    have h1' : ¬ (k : Int) < (L.length : Int) := by omega
    clear e
    go_enter Try.func28, Try.ntmps28
    go_wp2_with fail
    refine hF.mono ?_
    rintro e w1 ⟨rfl, hb1⟩
    have d := cell_kept hb1 HV.out.head
    have HB : Hid _ := hb1
    clear hb1 hF HV
    go_wp2
    go_ret
    exact ⟨rfl, HB.out⟩

set_option maxHeartbeats 400000 in
theorem has_any {w : World} {p : Nat} {a : Option Addr} {cap : Nat} {L : List Rg} (x : Int) (V : View w p a cap L) (F : Fit L) :
    Calls Try.prog 59 #[.pointer (some ⟨p, 0, none⟩), .int .u64 x] w fun e w' => e = .returned (.bool (gapOf L x != x)) ∧ Below w.heap.size w w' := by
  have hG := gap_any x V F
  clear V F
  generalize gapOf L x = y at *
  go_enter Try.func59, Try.ntmps59
  go_wp2_with fail
  refine hG.mono ?_
  rintro e w1 ⟨rfl, hb1⟩
  have HB : Hid _ := hb1
  clear hb1
  go_wp2
  go_ret
  exact ⟨rfl, HB.out⟩

end Go.Proofs.Ytimiokbnhneggaa
