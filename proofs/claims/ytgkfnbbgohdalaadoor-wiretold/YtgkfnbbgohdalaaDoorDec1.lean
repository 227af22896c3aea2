import Derived.Test.YtgkfnbbgohdalaaDoorDec0
namespace Go.Proofs.YtgkfnbbgohdalaaDoor
open Go.RowKit
set_option maxRecDepth 100000

def sizesL : List Int := [0, 24, 22, 14, 7, 22, 10, 15, 18, 26, 7, 7]
/-- The table of sizes lies in its variable. -/
def SizesTab (w : World) : Prop := ∀ j (h : j < sizesL.length), w.cell? ⟨0, j, none⟩ = some (.int .i64 sizesL[j])
theorem SizesTab.kept {w w' : World} (h : SizesTab w) (hb : Below w.heap.size w w') : SizesTab w' := fun j hj => cell_kept hb (h j hj)

theorem BytesAt.byte0 {w : World} {g o : Nat} {bs : List (BitVec 8)} (h : BytesAt w (some ⟨g, o, none⟩) bs) (hi : 0 < bs.length) {x : BitVec 8} (hx : YtgkfnbbgohdalaaDoor.byte bs 0 = x) : w.cell? ⟨g, o, none⟩ = some (.int .u8 (ub x)) := by
  have := h.byte 0 hi; rw [Nat.add_zero, hx] at this; exact this

set_option maxHeartbeats 4000000 in
theorem sizeTold_any {w : World} {a : Option Addr} {n cap : Nat} {bs : List (BitVec 8)} (hB : BytesAt w a bs) (hn : bs.length = n) (h7 : 7 ≤ n) (h5 : n ≤ 1048) (hcap : n ≤ cap) (hT : SizesTab w) (hk : knownB bs) :
    Calls Tryd.prog 30 #[.slice a n cap] w fun e w' => e = .returned (.int .i64 (sizeB bs : Nat)) ∧ w' = w := by
  obtain ⟨g, o, rfl⟩ := hB.addr (by omega)
  have n1 : (7 : Int) ≤ (n : Int) := by omega
  have n2 : (n : Int) ≤ 1048 := by omega
  have n3 : (n : Int) ≤ (cap : Int) := by omega
  have c2 := hB.byte 2 (by omega)
  have hb2 := ub_bd (byte bs 2)
  have hcase := byte_kinds hk
  generalize hx : byte bs 0 = x at hcase
  have c0 := hB.byte0 (by omega) hx
  rcases hcase with rfl | rfl | rfl | rfl | rfl | rfl | rfl | rfl | rfl | rfl | rfl
  · have s : w.cell? ⟨0, 1, none⟩ = some (.int .i64 24) := hT 1 (by decide)
    have e0 : ub 1#8 = 1 := by decide
    rw [e0] at c0
    by_cases h24 : n < 24
    · have n4 : (n : Int) < 24 := by omega
      have e : sizeB bs = 24 := by simp [sizeB, hx, hn, h24]
      rw [e]
      clear hB hT
      go_enter Tryd.func30, Tryd.ntmps30
      go_wp2
      go_ret
      exact ⟨rfl, rfl⟩
    · have n4 : (24 : Int) ≤ (n : Int) := by omega
      have e18 : ¬ cap = 18 := by omega
      have c20 : (20 : Int) ≤ (cap : Int) := by omega
      have e : sizeB bs = 24 + val (cut bs 18 2) := by simp [sizeB, hx, hn, h24]
      have hv := val_lt (cut bs 18 2)
      rw [cut_len _ _ _ (by omega)] at hv
      have hv2 : (val (cut bs 18 2) : Int) < 65536 := by omega
      have HN : Hid _ := number_any (cap := cap - 18) (hB.cut 18 2) (cut_len _ _ _ (by omega)) (by decide)
      have w1 : IntKind.i64.wrap (val (cut bs 18 2) : Int) = (val (cut bs 18 2) : Int) := by unfold IntKind.wrap; simp [IntKind.bits, IntKind.signed]; omega
      rw [e]
      clear hB hT e hv
      obtain ⟨v, hv⟩ : ∃ v, v = val (cut bs 18 2) := ⟨_, rfl⟩
      rw [← hv] at HN w1 hv2 ⊢
      have w2 : IntKind.i64.wrap (24 + (v : Int)) = 24 + (v : Int) := by unfold IntKind.wrap; simp [IntKind.bits, IntKind.signed]; omega
      clear hv hv2
      go_enter Tryd.func30, Tryd.ntmps30
      go_wp2_with (go_at_call 42; refine Calls.mono HN.out ?_; rintro e w' ⟨rfl, rfl⟩)
      go_ret
      exact ⟨congrArg (fun z => Ending.returned (Value.int .i64 z)) (show (24 : Int) + (v : Int) = ((24 + v : Nat) : Int) by omega), rfl⟩
  · have s : w.cell? ⟨0, 2, none⟩ = some (.int .i64 22) := hT 2 (by decide)
    have e0 : ub 2#8 = 2 := by decide
    rw [e0] at c0
    rw [show sizeB bs = 22 by simp [sizeB, hx]]
    clear hB hT
    go_enter Tryd.func30, Tryd.ntmps30
    go_wp2
    go_ret
    exact ⟨rfl, rfl⟩
  · have s : w.cell? ⟨0, 3, none⟩ = some (.int .i64 14) := hT 3 (by decide)
    have e0 : ub 3#8 = 3 := by decide
    rw [e0] at c0
    rw [show sizeB bs = 14 by simp [sizeB, hx]]
    clear hB hT
    go_enter Tryd.func30, Tryd.ntmps30
    go_wp2
    go_ret
    exact ⟨rfl, rfl⟩
  · have s : w.cell? ⟨0, 4, none⟩ = some (.int .i64 7) := hT 4 (by decide)
    have e0 : ub 4#8 = 4 := by decide
    rw [e0] at c0
    rw [show sizeB bs = 7 + 16 * (byte bs 2).toNat by simp [sizeB, hx]]
    have e2 : ub (byte bs 2) = ((byte bs 2).toNat : Int) := rfl
    have w1 : IntKind.i64.wrap (ub (byte bs 2)) = ub (byte bs 2) := by unfold IntKind.wrap; simp [IntKind.bits, IntKind.signed]; omega
    clear hB hT
    generalize ub (byte bs 2) = y at *
    go_enter Tryd.func30, Tryd.ntmps30
    go_wp2
    go_ret
    exact ⟨congrArg (fun z => Ending.returned (Value.int .i64 z)) (show (7 : Int) + 16 * ((byte bs 2).toNat : Int) = ((7 + 16 * (byte bs 2).toNat : Nat) : Int) by omega), rfl⟩
  · have s : w.cell? ⟨0, 5, none⟩ = some (.int .i64 22) := hT 5 (by decide)
    have e0 : ub 5#8 = 5 := by decide
    rw [e0] at c0
    rw [show sizeB bs = 22 by simp [sizeB, hx]]
    clear hB hT
    go_enter Tryd.func30, Tryd.ntmps30
    go_wp2
    go_ret
    exact ⟨rfl, rfl⟩
  · have s : w.cell? ⟨0, 6, none⟩ = some (.int .i64 10) := hT 6 (by decide)
    have e0 : ub 6#8 = 6 := by decide
    rw [e0] at c0
    rw [show sizeB bs = 10 by simp [sizeB, hx]]
    clear hB hT
    go_enter Tryd.func30, Tryd.ntmps30
    go_wp2
    go_ret
    exact ⟨rfl, rfl⟩
  · have s : w.cell? ⟨0, 7, none⟩ = some (.int .i64 15) := hT 7 (by decide)
    have e0 : ub 7#8 = 7 := by decide
    rw [e0] at c0
    rw [show sizeB bs = 15 by simp [sizeB, hx]]
    clear hB hT
    go_enter Tryd.func30, Tryd.ntmps30
    go_wp2
    go_ret
    exact ⟨rfl, rfl⟩
  · have s : w.cell? ⟨0, 8, none⟩ = some (.int .i64 18) := hT 8 (by decide)
    have e0 : ub 8#8 = 8 := by decide
    rw [e0] at c0
    rw [show sizeB bs = 18 by simp [sizeB, hx]]
    clear hB hT
    go_enter Tryd.func30, Tryd.ntmps30
    go_wp2
    go_ret
    exact ⟨rfl, rfl⟩
  · have s : w.cell? ⟨0, 9, none⟩ = some (.int .i64 26) := hT 9 (by decide)
    have e0 : ub 9#8 = 9 := by decide
    rw [e0] at c0
    rw [show sizeB bs = 26 by simp [sizeB, hx]]
    clear hB hT
    go_enter Tryd.func30, Tryd.ntmps30
    go_wp2
    go_ret
    exact ⟨rfl, rfl⟩
  · have s : w.cell? ⟨0, 10, none⟩ = some (.int .i64 7) := hT 10 (by decide)
    have e0 : ub 10#8 = 10 := by decide
    rw [e0] at c0
    rw [show sizeB bs = 7 by simp [sizeB, hx]]
    clear hB hT
    go_enter Tryd.func30, Tryd.ntmps30
    go_wp2
    go_ret
    exact ⟨rfl, rfl⟩
  · have s : w.cell? ⟨0, 11, none⟩ = some (.int .i64 7) := hT 11 (by decide)
    have e0 : ub 11#8 = 11 := by decide
    rw [e0] at c0
    rw [show sizeB bs = 7 by simp [sizeB, hx]]
    clear hB hT
    go_enter Tryd.func30, Tryd.ntmps30
    go_wp2
    go_ret
    exact ⟨rfl, rfl⟩

open Classical in
set_option maxHeartbeats 2000000 in
theorem flagged_any {w : World} {a : Option Addr} {n cap : Nat} {bs : List (BitVec 8)} (hB : BytesAt w a bs) (hn : bs.length = n) (h7 : 7 ≤ n) (hs : n = sizeB bs) :
    Calls Tryd.prog 31 #[.slice a n cap] w fun e w' => e = .returned (.bool (decide (flaggedB bs))) ∧ w' = w := by
  obtain ⟨g, o, rfl⟩ := hB.addr (by omega)
  have n1 : (7 : Int) ≤ (n : Int) := by omega
  have c2 := hB.byte 2 (by omega)
  have hb2 := ub_bd (byte bs 2)
  have c0 := hB.byte0 (by omega) rfl
  by_cases h1 : byte bs 0 = 7#8
  · have n2 : n = 15 := by rw [hs]; simp [sizeB, h1]
    have n3 : (n : Int) = 15 := by omega
    have c10 := hB.byte 10 (by omega)
    have e0 : ub 7#8 = 7 := by decide
    rw [h1, e0] at c0
    have ef : decide (flaggedB bs) = decide (ub (byte bs 10) ≤ 1) := decide_eq_decide.2 (by unfold flaggedB ub; rw [if_pos h1]; omega)
    rw [ef]
    clear hB hs
    generalize ub (byte bs 10) = y at *
    go_enter Tryd.func31, Tryd.ntmps31
    go_wp2
    go_ret
    exact ⟨rfl, rfl⟩
  · have e1 : (ub (byte bs 0) == 7) = false := by
      rw [beq_eq_false_iff_ne]; intro e; exact h1 (ub_inj (e.trans (by decide)))
    have e1' : ¬ ub (byte bs 0) = 7 := fun e => h1 (ub_inj (e.trans (by decide)))
    by_cases h2 : byte bs 0 = 10#8
    · have e0 : ub 10#8 = 10 := by decide
      rw [h2, e0] at c0
      have ef : decide (flaggedB bs) = decide (ub (byte bs 2) ≤ 1) := decide_eq_decide.2 (by unfold flaggedB ub; rw [if_neg h1, if_pos h2]; omega)
      rw [ef]
      clear hB hs e1 e1'
      generalize ub (byte bs 2) = y at *
      go_enter Tryd.func31, Tryd.ntmps31
      go_wp2
      go_ret
      exact ⟨rfl, rfl⟩
    · have e2 : ¬ ub (byte bs 0) = 10 := fun e => h2 (ub_inj (e.trans (by decide)))
      have ef : decide (flaggedB bs) = true := decide_eq_true (by unfold flaggedB; rw [if_neg h1, if_neg h2]; trivial)
      rw [ef]
      clear hB hs h1 h2 hb2
      generalize ub (byte bs 0) = y at *
      go_enter Tryd.func31, Tryd.ntmps31
      go_wp2
      go_ret
      exact ⟨rfl, rfl⟩
end Go.Proofs.YtgkfnbbgohdalaaDoor
