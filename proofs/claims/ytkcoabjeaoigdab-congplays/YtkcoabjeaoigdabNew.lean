import Derived.Test.YtkcoabjeaoigdabCalls1
namespace Go.Proofs.Ytkcoabjeaoigdab
open Go.RowKit
set_option maxRecDepth 100000

def lz : Ln := ⟨0, 0, false, 0⟩
def lnew : Ln := ⟨10240, 262144, false, 0⟩
/-- A new group: the first k paths are laid. -/
def newD (k : Nat) : Nat → Ln := fun j => if j < k then lnew else lz
theorem newD_step (k : Nat) : upd (newD k) k { newD k k with c := 10240, t := 262144 } = newD (k + 1) := by
  funext j
  unfold upd newD
  by_cases h : j = k
  · subst h; rw [if_pos rfl, if_neg (by omega), if_pos (by omega)]; rfl
  · rw [if_neg h]
    by_cases h2 : j < k
    · rw [if_pos h2, if_pos (by omega)]
    · rw [if_neg h2, if_neg (by omega)]
def zc : List Value := [.int .i64 0, .int .i64 0, .bool false, .int .i64 0]
def z33 (n : Nat) : List Value := zc ++ zc ++ zc ++ zc ++ zc ++ zc ++ zc ++ zc ++ [.int .i64 n]
theorem cells0 (n : Nat) : Cells n (newD 0) (z33 n) := by
  refine ⟨rfl, ?_, ?_, ?_, ?_, rfl⟩
  all_goals
    intro k hk
    rcases (show k = 0 ∨ k = 1 ∨ k = 2 ∨ k = 3 ∨ k = 4 ∨ k = 5 ∨ k = 6 ∨ k = 7 by omega) with rfl | rfl | rfl | rfl | rfl | rfl | rfl | rfl <;> rfl
theorem lnew_ok : lnew.Ok := by constructor <;> decide
/-- Being made: not all paths are laid yet. -/
structure Mk (w : World) (g n k : Nat) : Prop where
  row : ∃ c, Row w g c 44 ∧ Cells n (newD k) c
theorem Mk.done {w : World} {g n : Nat} (h : Mk w g n n) (hn : n ≤ 8) : GAt w g n (newD n) := ⟨h.row, hn, fun k hk => by unfold newD; rw [if_pos hk]; exact lnew_ok⟩
theorem Mk.next {w : World} {g n k : Nat} (h : Mk w g n k) (hk : k < 8) : Mk (w.setCells g (k * 4) [.int .i64 10240, .int .i64 262144]) g n (k + 1) := by
  obtain ⟨c, hr, hc⟩ := h
  refine ⟨⟨_, (hr.set _ _).set _ _, ?_⟩⟩
  have := hc.set_w hk 10240 262144
  rwa [newD_step] at this
theorem Mk.cells {w : World} {g n k : Nat} (h : Mk w g n k) (hk : k < 8) : w.cell? ⟨g, k * 4, none⟩ = some (.int .i64 0) ∧ w.cell? ⟨g, k * 4 + 1, none⟩ = some (.int .i64 0) ∧ w.frozen? ⟨g, k * 4, none⟩ = false ∧ w.frozen? ⟨g, k * 4 + 1, none⟩ = false := by
  obtain ⟨c, hr, hc⟩ := h
  have e : newD k k = lz := by unfold newD; rw [if_neg (by omega)]
  have a := hr.cell _ _ (hc.ac k hk)
  have b := hr.cell _ _ (hc.at_ k hk)
  rw [e] at a b
  exact ⟨a, b, hr.frozen _, hr.frozen _⟩
theorem new_in {w : World} {n : Nat} (h0 : 1 ≤ n) (h1 : n ≤ 8) :
    Calls Try.prog 5 #[.int .i64 n] w fun e w' => e = .returned (.pointer (some ⟨w.heap.size, 0, none⟩)) ∧ GAt w' w.heap.size n (newD n) ∧ Below w.heap.size w w' := by
  have e1 : decide (n < 1) = false := decide_eq_false (by omega)
  have e1' : decide ((n : Int) < 1) = false := decide_eq_false (by omega)
  have e2 : decide (8 < n) = false := decide_eq_false (by omega)
  have e2' : decide (8 < (n : Int)) = false := decide_eq_false (by omega)
  have HM : Hid (Mk (w.alloc (.cells (z33 n).toArray 44)) w.heap.size n 0) := ⟨_, Row.new _ _ _, cells0 n⟩
  have HB := hid (below_grow (Below.refl w.heap.size w) (.cells (z33 n).toArray 44))
  have H1 := hid h1
  go_enter Try.func5, Try.ntmps5
  go_upto_region 4 with (fail)
  refine wp_world fun wb HW => ?_
  have HMb : Hid (Mk wb w.heap.size n 0) := by show Mk _ _ _ _; rw [HW.out]; exact HM.out
  have HBb : Hid (Below w.heap.size w wb) := by show Below _ _ _; rw [HW.out]; exact HB.out
  clear HW HM HB
  obtain ⟨g, hg⟩ : ∃ g, g = w.heap.size := ⟨_, rfl⟩
  have HG := hid hg
  rw [← hg] at HMb
  rw [← hg]
  clear hg h1 h0
  go_wp2
  go_loopw [15] (fun i wr => ∃ (k : Nat), k ≤ n ∧ i = .int .i64 k ∧ Mk wr g n k ∧ Below w.heap.size w wr) (fun i _ => n - (intOf i).toNat)
  case atStart => exact ⟨0, Nat.zero_le _, rfl, HMb.out, HBb.out⟩
  case round =>
    obtain ⟨k, hk, rfl, hm, hb⟩ := hrel
    have HM := hid hm
    have HB := hid hb
    clear hm hb HMb HBb
    by_cases hlt : k < n
    · have l1 : (k : Int) < (n : Int) := by omega
      have h8 : k < 8 := Nat.lt_of_lt_of_le hlt H1.out
      have h8' : (k : Int) < 8 := by omega
      have HK := hid hlt
      obtain ⟨c0, c1, f0, f1⟩ := HM.out.cells h8
      clear hk hlt
      go_wp2
      go_roundw
      case rel => exact ⟨k + 1, HK.out, by first | go_num | (rw [Int.natCast_succ]), HM.out.next h8, (HB.out.setCell (p := ⟨g, k * 4, none⟩) (Nat.le_of_eq HG.out.symm) _).setCell (p := ⟨g, k * 4 + 1, none⟩) (Nat.le_of_eq HG.out.symm) _⟩
      case measure =>
        simp [intOf]
        have := HK.out
        omega
    · have e3 : decide ((k : Int) < (n : Int)) = false := decide_eq_false (by omega)
      have e4 : decide (k < n) = false := decide_eq_false hlt
      have HK : Hid (k = n) := by show _ = _; omega
      clear hlt hk
      go_wp2
      go_ret
      have hm := HM.out
      rw [HK.out] at hm
      exact ⟨by rw [HG.out]; rfl, by rw [← HG.out]; exact hm.done H1.out, HB.out⟩
theorem new_out {w : World} {n : Int} (h : n < 1 ∨ 8 < n) : Calls Try.prog 5 #[.int .i64 n] w fun e w' => e = .returned (.pointer none) ∧ w' = w := by
  rcases h with h | h
  · go_enter Try.func5, Try.ntmps5
    go_wp2
    go_ret
    exact ⟨rfl, rfl⟩
  · have e1 : decide (n < 1) = false := decide_eq_false (by omega)
    have e2 : decide (8 < n) = true := decide_eq_true h
    go_enter Try.func5, Try.ntmps5
    go_wp2
    go_ret
    exact ⟨rfl, rfl⟩
end Go.Proofs.Ytkcoabjeaoigdab
