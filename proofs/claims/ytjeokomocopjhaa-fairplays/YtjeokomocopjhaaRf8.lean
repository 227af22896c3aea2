import Derived.Test.YtjeokomocopjhaaRf6
import Derived.Test.YtjeokomocopjhaaFa10
import Derived.Deep.CutRange
namespace Go.Proofs.Ytjeokomocopjhaa
open Go.RowKit Go.Maps
set_option maxRecDepth 100000

/-- A stream's credit as its turn has begun, what it is given, whether its turn is over by that, what it is behind it; the rows. -/
def Sm.cr1 (x : Sm) (q : Int) : Int := if x.cr = 0 then q * x.shr else x.cr
def Sm.tk (x : Sm) (q most : Int) : Int := min (min most x.wt) (x.cr1 q)
def Sm.ov (x : Sm) (q most : Int) : Bool := decide (x.wt - x.tk q most = 0) || decide (x.cr1 q - x.tk q most = 0)
def Sm.nx (x : Sm) (q most : Int) : Sm := if x.ov q most then { x with wt := x.wt - x.tk q most, cr := 0, on := false } else { x with wt := x.wt - x.tk q most, cr := x.cr1 q - x.tk q most, on := true }
def nxR (x : Sm) (q most : Int) (R : Nat → List Int) (T : List Int) : Nat → List Int := if x.ov q most then upR R x.cls (if 0 < x.wt - x.tk q most then T ++ [x.num] else T) else R
theorem outL_head {T : List Int} {y : Int} (h : y ∉ T) : outL (y :: T) y = T := by
  unfold outL
  rw [List.filter_cons]
  simp only [ne_eq, not_true_eq_false, decide_false, Bool.false_eq_true, if_false]
  exact List.filter_eq_self.2 fun z hz => by
    have : z ≠ y := fun e => h (e ▸ hz)
    simpa using this
set_option maxHeartbeats 2000000 in
/-- There is no turn. -/
theorem rnext_none {w : World} {r : Nat} {vL : Value} {V : Nat → Value} {q : Int} {l : List Sm} {R : Nat → List Int} (h : RfAt w r vL V q l R) {most : Int} (hE : (∀ k, k < 8 → R k = []) ∨ most < 1) :
    Calls Try.prog 30 #[pt r 0, .int .i64 most] w fun e w' => e = .returned (.tuple #[.agg #[.int .u64 0, .int .i64 0], .bool false]) ∧ Below w.heap.size w w' := by
  have hb := below_box w (.cells #[.int .u64 0, .int .i64 0] 31)
  have R31 := Row.new w [.int .u64 0, .int .i64 0] 31
  have HB := hid2 hb
  have HR := hid2 R31
  have r0 := R31.cell 0 _ rfl
  have r1 := R31.cell 1 _ rfl
  have f0 := R31.frozen 0
  have f1 := R31.frozen 1
  have HS := hid2 ((Fr.refl (fun k => w.heap.size ≤ k) (w.alloc (.cells #[.int .u64 0, .int .i64 0] 31))).setCell w.heap.size 0 (.int .u64 0) (.inl (Nat.le_refl _)) |>.setCell w.heap.size 1 (.int .i64 0) (.inl (Nat.le_refl _)))
  by_cases hm : most < 1
  · clear h hE hb R31
    go_enter Try.func30, Try.ntmps30
    go_wp2_with fail
    refine bodyPost_ret (HR.out.result2 Try.results30 _ rfl _ Try.underlying31 rfl i31) rfl ?_
    exact ⟨rfl, HB.out⟩
  · have hE' : ∀ k, k < 8 → R k = [] := by
      rcases hE with h | h
      · exact h
      · exact absurd h hm
    have h1 := h.below hb
    have HV : Hid (∀ k, k < 8 → ∃ a cap, (w.alloc (.cells #[.int .u64 0, .int .i64 0] 31)).cell? ⟨r, 2 + k, none⟩ = some (.slice a 0 cap)) := fun k hk => by
      obtain ⟨a, cap, hv, -⟩ := own_slice (h1.own k hk)
      rw [hE' k hk] at hv
      refine ⟨a, cap, ?_⟩
      rw [h1.row.cell _ _ (rcells_get q vL V hk), hv]
      rfl
    clear h hE hE' hb R31 h1
    go_enter Try.func30, Try.ntmps30
    go_wp2_with fail
    refine wp_world ?_
    intro w1 hw1
    rw [← hw1.out] at HV HR HS HB r0 r1 f0 f1
    go_loopw [6] (fun s wr => ∃ k : Nat, k ≤ 8 ∧ s = .int .i64 k ∧ w1 = wr) (fun s _ => 9 - (intOf s).toNat)
    case atStart => exact ⟨0, Nat.zero_le _, rfl, rfl⟩
    case round =>
      obtain ⟨k, hk, rfl, rfl⟩ := hrel
      by_cases hlt : k < 8
      · have hki : (k : Int) < 8 := by omega
        have hk0 : (0 : Int) ≤ (k : Int) := by omega
        obtain ⟨a, cap, hv⟩ := HV.out k hlt
        go_wp2_with fail
        go_roundw
        case rel => exact ⟨k + 1, by omega, by go_num, by first | rfl | trivial⟩
        case measure => simp [intOf]; omega
      · obtain rfl : k = 8 := by omega
        go_wp2_with fail
        have RF := (HR.out.set 0 (.int .u64 0)).set 1 (.int .i64 0)
        refine bodyPost_ret (RF.result2 Try.results30 _ rfl _ Try.underlying31 rfl i31) rfl ?_
        exact ⟨rfl, HB.out.trans (HS.out.below (fun _ e => e) HB.out.size)⟩
end Go.Proofs.Ytjeokomocopjhaa
