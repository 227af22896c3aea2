import Derived.Test.YtjbjaklbckhodabSpec
import Derived.Test.YtjbjaklbckhodabRtBase
import Derived.RangeFuncNested
import Derived.RangeFuncBound
import Derived.RangeFuncCalls
import Derived.RangeFuncLeaves
import Derived.RangeFuncFrom
import Derived.Shelf.Abstract
import Derived.Shelf.RegionOpen
import Derived.WalkKit
import Derived.OwnWalkIn
import Derived.TacticsInMore
import Derived.LoopNIn
import Derived.LoopIn
namespace Go.Proofs.Ytjbjaklbckhodab
open Go.RowKit Go.Shelf
set_option maxRecDepth 100000
attribute [local go_sem] Oper.semAt_some

def encsR (x : Rg) : Array Value := #[.agg #[.int .u64 x.1, .int .u64 x.2]]
set_option maxHeartbeats 1000000 in
theorem all_in (n : Nat) (p : Option Addr) (w : World) :
    CallsIn Fence.wide n Try.prog 47 #[.pointer p] w fun e w' => e = .returned (.func (.func 68) #[] #[.pointer (some ⟨w.heap.size, 0, none⟩)]) ∧ w' = w.alloc (.cells #[.pointer p] 26) := by
  refine callsIn_of_wp Try.func47 rfl trivial ?_ rfl
  simp only [Try.ntmps47, List.size_toArray, List.length_cons, List.length_nil, Nat.reduceAdd, Nat.reduceSub, Array.replicate_succ, Array.replicate_zero, List.push_toArray, List.append_toArray, List.nil_append, List.cons_append]
  gi_wp2
  go_ret
  exact ⟨rfl, rfl⟩
set_option maxHeartbeats 2000000 in
theorem iter_in (m : Nat) (hm : 1 ≤ m) (l Bn p : Nat) (a : Option Addr) (cap : Nat) (L : List Rg) (J Jx : List Rg → World → Prop) (w0 : World)
    (hY : ∀ pre x W, J pre W → pre.length < L.length → YieldAt Fence.wide (m - 1) Try.prog l (encsR x) W fun e W' =>
      (e = .returned (.bool true) ∧ J (pre ++ [x]) W' ∧ Below w0.heap.size W W') ∨ (e = .returned (.bool false) ∧ Jx (pre ++ [x]) W'))
    (W : World) (hJ : AbidesFrom W.heap.size J) (hW : Below w0.heap.size w0 W) (hBn : W.cell? ⟨Bn, 0, none⟩ = some (.pointer (some ⟨p, 0, none⟩))) (V : View w0 p a cap L) (h0 : J [] W) :
    CallsIn Fence.wide m Try.prog 68 #[.func (.yield l) #[] #[], .pointer (some ⟨Bn, 0, none⟩)] W fun e W' => (∃ v, e = .returned v) ∧
      ((∃ ys : List Rg, ys = L ∧ J ys W') ∨ (∃ pre, pre <+: L ∧ Jx pre W')) := by
  have hd := (V.kept hW).head
  have hfew : (L.length : Int) < 1152921504606846976 := by have := V.few; omega
  have HV := hid V
  have HWB := hid hW
  clear V hW
  refine callsIn_of_wp Try.func68 rfl trivial ?_ rfl
  simp only [Try.ntmps68, List.size_toArray, List.length_cons, List.length_nil, Nat.reduceAdd, Nat.reduceSub, Array.replicate_succ, Array.replicate_zero, List.push_toArray, List.append_toArray, List.nil_append, List.cons_append]
  gi_wp2
  gi_loopw [10] (fun i wr => ∃ (k : Nat), k ≤ L.length ∧ i = .int .i64 k ∧ J (L.take k) wr ∧ Below w0.heap.size w0 wr) (fun i _ => L.length - (intOf i).toNat)
  case atStart => exact ⟨0, Nat.zero_le _, rfl, h0, HWB.out⟩
  case round =>
    obtain ⟨k, hk, rfl, hJs, hnx⟩ := hrel
    have HJ := hid hJs
    have HX := hid hnx
    clear hJs hnx
    by_cases hlt : k < L.length
    · obtain ⟨g, rfl, c0, c1⟩ := (HV.out.kept HX.out).row k hlt
      have HT := hid (List.take_succ_eq_append_getElem hlt)
      have l1 : (k : Int) < (L.length : Int) := by omega
      have hlen : (L.take k).length < L.length := by simp; omega
      generalize L[k] = r at *
      obtain ⟨lo, hi⟩ := r
      simp only at c0 c1
      have hj2 : J (L.take k) (wr.alloc (.cells #[.int .u64 lo, .int .u64 hi] 25)) := hJ _ _ _ none HJ.out (World.grownBy_alloc _ _ none) (fun r e => by cases e)
      have HX2 := hid (HX.out.alloc HX.out.size (.cells #[.int .u64 lo, .int .u64 hi] 25))
      obtain ⟨fn, tmps, assign, body, hy, hR⟩ := hY _ (lo, hi) _ hj2 hlen
      simp only [encsR] at hy hR
      clear hj2
      gi_wp2
      refine hR.mono ?_
      rintro e W3 (⟨rfl, hJ3, hk3⟩ | ⟨rfl, hJx3⟩)
      · have HJ3 := hid hJ3
        have HK3 := hid hk3
        clear hJ3 hk3 hy hR
        gi_wp2
        go_roundw
        case rel => exact ⟨k + 1, hlt, by first | go_num | (rw [Int.natCast_succ]), by rw [HT.out]; exact HJ3.out, HX2.out.trans HK3.out⟩
        case measure => simp [intOf]; omega
      · have HJ3 := hid hJx3
        clear hJx3 hy hR
        gi_wp2
        refine bodyPost_ret (results_none Try.results68 _ _ _) rfl ?_
        exact ⟨⟨_, rfl⟩, .inr ⟨_, by rw [← HT.out]; exact List.take_prefix _ _, HJ3.out⟩⟩
    · have e1 : decide ((k : Int) < (L.length : Int)) = false := decide_eq_false (by omega)
      have HK : Hid (k = L.length) := by show _ = _; omega
      gi_wp2
      refine bodyPost_end (results_none Try.results68 _ _ _) rfl ?_
      exact ⟨⟨_, rfl⟩, .inl ⟨L, rfl, by have := HJ.out; rw [HK.out, List.take_length] at this; exact this⟩⟩
/-- The iterator's contract. -/
theorem iter_stops (m : Nat) (hm : 1 ≤ m) (Bn p : Nat) (a : Option Addr) (cap : Nat) (L : List Rg) (w0 w : World) (hBn : Bn < w.heap.size) (hw : Below w0.heap.size w0 w)
    (hc : w.cell? ⟨Bn, 0, none⟩ = some (.pointer (some ⟨p, 0, none⟩))) (V : View w0 p a cap L) :
    SeqStopsK Fence.wide m Try.prog 68 #[.pointer (some ⟨Bn, 0, none⟩)] encsR (Below w0.heap.size) (fun ys => ys = L) (fun pre => pre <+: L) L.length w := fun l J Jx W hW hJ _ hY h0 =>
  iter_in m hm l Bn p a cap L J Jx w0 hY W hJ (hw.trans (hW.mono hw.size)) ((hW.cell (p := ⟨Bn, 0, none⟩) hBn).trans hc) V h0
theorem row_own {β : Type} (B : Nat) (t : TypeId) (f : β → List Value) : Go.Own (fun s W => Row W B (f s) t) := fun s X Y row hs hg hrow =>
  hs.of_block (hg.block B hs.lt (fun e' => by obtain ⟨o, ho, hc⟩ := hrow B e'.symm; rw [hs.at_] at ho; cases ho; cases hc))
theorem row_new1 (w : World) (v : Value) (t : TypeId) : Row (w.alloc (.cells #[v] t)) w.heap.size [v] t := Row.new w [v] t
end Go.Proofs.Ytjbjaklbckhodab
