import Derived.Test.YtkcoabjeaoigdabCalls1
import Derived.RangeFuncNested
import Derived.RangeFuncBound
import Derived.RangeFuncCalls
import Derived.RangeFuncLeaves
import Derived.RangeFuncFrom
import Derived.Shelf.Abstract
import Derived.Shelf.RegionOpen
import Derived.WalkKit
import Derived.OwnWalkIn
import Derived.TacticsInMore
import Derived.LoopNIn
import Derived.LoopIn
namespace Go.Proofs.Ytkcoabjeaoigdab
open Go.RowKit Go.Shelf
set_option maxRecDepth 100000
attribute [local go_sem] Oper.semAt_some

def Ln.cnt (l : Ln) : Bool := l.on && decide (0 < l.r)
/-- The paths that count, of the first k. -/
def cl (D : Nat → Ln) (k : Nat) : List Ln := ((List.range k).map D).filter Ln.cnt
theorem cl_zero (D : Nat → Ln) : cl D 0 = [] := rfl
theorem cl_yes {D : Nat → Ln} {k : Nat} (h : (D k).cnt = true) : cl D (k + 1) = cl D k ++ [D k] := by
  unfold cl
  rw [List.range_succ, List.map_append, List.filter_append]
  simp [h]
theorem cl_no {D : Nat → Ln} {k : Nat} (h : (D k).cnt = false) : cl D (k + 1) = cl D k := by
  unfold cl
  rw [List.range_succ, List.map_append, List.filter_append]
  simp [h]
theorem cl_len (D : Nat → Ln) (k : Nat) : (cl D k).length ≤ k := by
  unfold cl
  refine Nat.le_trans (List.length_filter_le _ _) ?_
  simp
/-- A path that counts. -/
abbrev Lc := { l : Ln // l.Ok ∧ l.cnt = true }
def Lc.encs (x : Lc) : Array Value := #[.agg #[.int .i64 x.1.c, .int .i64 x.1.t, .bool x.1.on, .int .i64 x.1.r]]

theorem counts_any {w : World} {c t : Int} {on : Bool} {r : Int} :
    Calls Try.prog 32 #[.agg #[.int .i64 c, .int .i64 t, .bool on, .int .i64 r]] w fun e w' => e = .returned (.bool (Ln.cnt ⟨c, t, on, r⟩)) ∧ w' = w.alloc (.cells #[.int .i64 c, .int .i64 t, .bool on, .int .i64 r] 41) := by
  have R := Row.new w [.int .i64 c, .int .i64 t, .bool on, .int .i64 r] 41
  have a2 := R.cell 2 _ rfl
  have a3 := R.cell 3 _ rfl
  clear R
  cases on with
  | true =>
    by_cases h : 0 < r
    · have e1 : decide (0 < r) = true := decide_eq_true h
      have HE : Hid (Ln.cnt ⟨c, t, true, r⟩ = true) := by show _ = _; simp [Ln.cnt, h]
      go_enter Try.func32, Try.ntmps32
      go_wp2
      go_ret
      exact ⟨by rw [HE.out]; rfl, rfl⟩
    · have e1 : decide (0 < r) = false := decide_eq_false h
      have HE : Hid (Ln.cnt ⟨c, t, true, r⟩ = false) := by show _ = _; simp only [Ln.cnt, e1]; rfl
      go_enter Try.func32, Try.ntmps32
      go_wp2
      go_ret
      exact ⟨by rw [HE.out]; rfl, rfl⟩
  | false =>
    have HE : Hid (Ln.cnt ⟨c, t, false, r⟩ = false) := rfl
    go_enter Try.func32, Try.ntmps32
    go_wp2
    go_ret
    exact ⟨by rw [HE.out]; rfl, rfl⟩
set_option maxHeartbeats 1000000 in
theorem counting_in (n : Nat) (p : Option Addr) (w : World) :
    CallsIn Fence.wide n Try.prog 38 #[.pointer p] w fun e w' => e = .returned (.func (.func 39) #[] #[.pointer (some ⟨w.heap.size, 0, none⟩)]) ∧ w' = w.alloc (.cells #[.pointer p] 25) := by
  refine callsIn_of_wp Try.func38 rfl trivial ?_ rfl
  simp only [Try.ntmps38, List.size_toArray, List.length_cons, List.length_nil, Nat.reduceAdd, Nat.reduceSub, Array.replicate_succ, Array.replicate_zero, List.push_toArray, List.append_toArray, List.nil_append, List.cons_append]
  gi_wp2
  go_ret
  exact ⟨rfl, rfl⟩
theorem grown_drew (W : World) : W.grownBy W.drew none := ⟨rfl, rfl, rfl, Nat.le_refl _, fun _ _ _ => rfl⟩
theorem GAt.keptB {w w' : World} {g n B : Nat} {D : Nat → Ln} (h : GAt w g n D) (hb : Below B w w') (hg : g < B) : GAt w' g n D := by
  obtain ⟨⟨c, hr, hc⟩, h1, h2⟩ := h
  exact ⟨⟨c, hr.kept hb hg, hc⟩, h1, h2⟩
set_option maxHeartbeats 2000000 in
theorem iter_in (m : Nat) (hm : 1 ≤ m) (l Bn n₀ g n : Nat) (D : Nat → Ln) (J Jx : List Lc → World → Prop)
    (hY : ∀ pre x W, J pre W → pre.length < 8 → YieldAt Fence.wide (m - 1) Try.prog l (Lc.encs x) W fun e W' =>
      (e = .returned (.bool true) ∧ J (pre ++ [x]) W' ∧ Below n₀ W W') ∨ (e = .returned (.bool false) ∧ Jx (pre ++ [x]) W'))
    (W : World) (hJ : AbidesFrom W.heap.size J) (hn₀ : n₀ ≤ W.heap.size) (hBn : W.cell? ⟨Bn, 0, none⟩ = some (.pointer (some ⟨g, 0, none⟩))) (hG : GAt W g n D) (hg : g < n₀) (h0 : J [] W) :
    CallsIn Fence.wide m Try.prog 39 #[.func (.yield l) #[] #[], .pointer (some ⟨Bn, 0, none⟩)] W fun e W' => (∃ v, e = .returned v) ∧
      ((∃ ys : List Lc, ys.map (·.1) = cl D n ∧ J ys W') ∨ (∃ pre, True ∧ Jx pre W')) := by
  have cn := hG.cell_n
  have hle : (n : Int) ≤ 8 := by have := hG.le; omega
  have hle' : n ≤ 8 := hG.le
  have HG := hid hG
  clear hG
  refine callsIn_of_wp Try.func39 rfl trivial ?_ rfl
  simp only [Try.ntmps39, List.size_toArray, List.length_cons, List.length_nil, Nat.reduceAdd, Nat.reduceSub, Array.replicate_succ, Array.replicate_zero, List.push_toArray, List.append_toArray, List.nil_append, List.cons_append]
  gi_wp2
  gi_region
  gi_wp2
  gi_loopw [14] (fun i wr => ∃ (k : Nat) (pre : List Lc), k ≤ n ∧ i = .int .i64 k ∧ pre.map (·.1) = cl D k ∧ J pre wr ∧ Below n₀ W wr) (fun i _ => n - (intOf i).toNat)
  case atStart => exact ⟨0, [], Nat.zero_le _, rfl, rfl, hJ _ _ _ none h0 (grown_drew W) (fun r e => by cases e), below_drawn (Below.refl _ _) _⟩
  case round =>
    obtain ⟨k, pre, hk, rfl, hpre, hJs, hnx⟩ := hrel
    have HJ := hid hJs
    have HX := hid hnx
    have HP := hid hpre
    by_cases hlt : k < n
    · have GW := HG.out.keptB HX.out hg
      have h8 : k < 8 := by omega
      have c0 := GW.cell_c h8
      have c1 := GW.cell_t h8
      have c2 := GW.cell_on h8
      have c3 := GW.cell_r h8
      have HOK := hid (GW.ok k hlt)
      have HK := hid hlt
      have l1 : (k : Int) < (n : Int) := by omega
      have HC := hid (cl_yes (D := D) (k := k))
      have HC' := hid (cl_no (D := D) (k := k))
      generalize D k = ln at *
      obtain ⟨c, t, on, r⟩ := ln
      simp only at c0 c1 c2 c3
      clear GW hk hJs hnx hpre hlt
      obtain ⟨w2, hw2⟩ : ∃ w2, w2 = (wr.alloc (.cells #[.int .i64 c, .int .i64 t, .bool on, .int .i64 r] 41)).alloc (.cells #[.int .i64 c, .int .i64 t, .bool on, .int .i64 r] 41) := ⟨_, rfl⟩
      have R0 : Row w2 wr.heap.size [.int .i64 c, .int .i64 t, .bool on, .int .i64 r] 41 := by rw [hw2]; exact (Row.new wr [.int .i64 c, .int .i64 t, .bool on, .int .i64 r] 41).alloc _
      have hj2 : J pre w2 := by
        rw [hw2]
        exact hJ _ _ _ none (hJ _ _ _ none HJ.out (World.grownBy_alloc _ _ none) (fun r e => by cases e)) (World.grownBy_alloc _ _ none) (fun r e => by cases e)
      have hs2 : n₀ ≤ wr.heap.size := Nat.le_trans hn₀ HX.out.size
      have hx2 : Below n₀ W w2 := by
        rw [hw2]
        exact (HX.out.alloc hs2 _).alloc (by simp; omega) _
      have HCN := hid (fun w => (callsIn_wide (n := m - 1)).2 (counts_any (w := w) (c := c) (t := t) (on := on) (r := r)))
      have d0 := R0.cell 0 _ rfl
      have d1 := R0.cell 1 _ rfl
      have d2 := R0.cell 2 _ rfl
      have d3 := R0.cell 3 _ rfl
      have HX2 := hid hx2
      have HJ2 := hid hj2
      have HW2 := hid hw2
      clear R0 hj2 hx2 hs2 hw2
      cases hc : Ln.cnt ⟨c, t, on, r⟩ with
      | true =>
        rw [hc] at HCN
        have hl8 : pre.length < 8 := by
          have h1 := congrArg List.length HP.out
          rw [List.length_map] at h1
          have := cl_len D k
          omega
        obtain ⟨fn, tmps, assign, body, hy, hR⟩ := hY pre ⟨⟨c, t, on, r⟩, HOK.out, hc⟩ w2 HJ2.out hl8
        simp only [Lc.encs] at hy hR
        have HCY := hid (HC.out hc)
        clear hl8 HC HC'
        gi_wp2_with (refine ⟨trivial, ?_⟩; gi_at_call 32; refine (HCN.out _).mono ?_; rintro e w3 ⟨rfl, hw3⟩; replace hw3 := hw3.trans HW2.out.symm; subst hw3)
        refine hR.mono ?_
        rintro e W3 (⟨rfl, hJ3, hk3⟩ | ⟨rfl, hJx3⟩)
        · have HJ3 := hid hJ3
          have HK3 := hid hk3
          clear hJ3 hk3 hy hR
          gi_wp2
          go_roundw
          case rel => exact ⟨k + 1, pre ++ [⟨⟨c, t, on, r⟩, HOK.out, hc⟩], HK.out, by first | go_num | (rw [Int.natCast_succ]), by rw [HCY.out, List.map_append, HP.out]; rfl, HJ3.out, HX2.out.trans HK3.out⟩
          case measure =>
            simp [intOf]
            have := HK.out
            omega
        · have HJ3 := hid hJx3
          clear hJx3 hy hR
          gi_wp2
          refine bodyPost_ret (results_none Try.results39 _ _ _) rfl ?_
          exact ⟨⟨_, rfl⟩, .inr ⟨_, trivial, HJ3.out⟩⟩
      | false =>
        rw [hc] at HCN
        have HCY := hid (HC'.out hc)
        clear HC HC'
        gi_wp2_with (refine ⟨trivial, ?_⟩; gi_at_call 32; refine (HCN.out _).mono ?_; rintro e w3 ⟨rfl, hw3⟩; replace hw3 := hw3.trans HW2.out.symm; subst hw3)
        refine ⟨fun _ h => (by cases h), ?_⟩
        gi_wp2
        go_roundw
        case rel => exact ⟨k + 1, pre, HK.out, by first | go_num | (rw [Int.natCast_succ]), by rw [HCY.out, HP.out], HJ2.out, HX2.out⟩
        case measure =>
          simp [intOf]
          have := HK.out
          omega
    · have e1 : decide ((k : Int) < (n : Int)) = false := decide_eq_false (by omega)
      have e2 : decide (k < n) = false := decide_eq_false hlt
      have HK : Hid (k = n) := by show _ = _; omega
      clear hlt hk hJs hnx hpre
      gi_wp2
      refine bodyPost_end (results_none Try.results39 _ _ _) rfl ?_
      exact ⟨⟨_, rfl⟩, .inl ⟨pre, by rw [HP.out, HK.out], HJ.out⟩⟩
/-- The iterator's contract. -/
theorem iter_stops (m : Nat) (hm : 1 ≤ m) (Bn n₀ g n : Nat) (D : Nat → Ln) (w : World) (hBn : Bn < w.heap.size) (hn₀ : n₀ ≤ w.heap.size)
    (hc : w.cell? ⟨Bn, 0, none⟩ = some (.pointer (some ⟨g, 0, none⟩))) (hG : GAt w g n D) (hg : g < n₀) :
    SeqStopsK Fence.wide m Try.prog 39 #[.pointer (some ⟨Bn, 0, none⟩)] Lc.encs (Below n₀) (fun ys => ys.map (·.1) = cl D n) (fun _ => True) 8 w := fun l J Jx W hW hJ _ hY h0 =>
  iter_in m hm l Bn n₀ g n D J Jx hY W hJ (Nat.le_trans hn₀ hW.size) ((hW.cell (p := ⟨Bn, 0, none⟩) hBn).trans hc) (hG.kept hW) hg h0
end Go.Proofs.Ytkcoabjeaoigdab
