import Derived.Test.YtgfefopihkiihaaCa0
namespace Go.Proofs.Ytgfefopihkiihaa
open Go.RowKit Go.Maps
set_option maxRecDepth 100000

theorem bytes_one {w : World} {y : Int} {x : BitVec 8} (h : y = ub x) : BytesAt (w.alloc (.cells #[.int .u8 y] 5)) (some ⟨w.heap.size, 0, none⟩) [x] := by
  have R := Row.new w (bcells [x]) 5
  have := R.bytes
  rw [show (bcells [x]).toArray = #[.int .u8 y] by rw [h]; rfl] at this
  exact this
theorem shr8 (x : Int) (m : Nat) : x / 2 ^ (8 * (m : Int)).toNat = x / 256 ^ m := by
  have : (8 * (m : Int)).toNat = 8 * m := by omega
  rw [this, Int.pow_mul]
  rfl
theorem be_step (x : Int) (k m : Nat) (h : m < k) : be (x / 256 ^ m) (k - m) = be (x / 256 ^ (m + 1)) (k - (m + 1)) ++ [BitVec.ofInt 8 (x / 256 ^ m)] := by
  obtain ⟨q, hq⟩ : ∃ q, k - m = q + 1 := ⟨k - m - 1, by omega⟩
  rw [hq, show k - (m + 1) = q by omega, Int.pow_succ]
  show be (x / 256 ^ m / 256) q ++ _ = _
  rw [Int.ediv_ediv_of_nonneg (Int.pow_nonneg (by decide))]
set_option maxHeartbeats 2000000 in
/-- A number's bytes behind an own row of bytes. -/
theorem lay_any {w : World} {b : Nat} {v : Value} {old : List (BitVec 8)} {x : Int} {k : Nat} (hO : OwnBy w b v old) (hb : b ≤ w.heap.size) (hk : k ≤ 8) (hl : old.length ≤ 70368744177664) :
    Calls Try.prog 41 #[.agg #[], v, .int .u64 x, .int .i64 k] w fun e w' => ∃ v', e = .returned v' ∧ OwnBy w' b v' (old ++ be x k) ∧ Fr (fun j => v.ownBlock = some j) w w' := by
  have HO := hid hO
  have HB := hid hb
  have hk0 : (0 : Int) ≤ (k : Int) := by omega
  have hk1 : (k : Int) ≤ 8 := by omega
  clear hO hb
  go_enter Try.func41, Try.ntmps41
  go_upto_region 2 with fail
  go_loopw [1, 9] (fun s t wx => ∃ (j : Nat) (t' : Int), t = .int .i64 t' ∧ t' = (j : Int) - 1 ∧ j ≤ k ∧ OwnBy wx b s (old ++ be (x / 256 ^ j) (k - j)) ∧ Fr (fun j => v.ownBlock = some j) w wx ∧ (s.ownBlock = v.ownBlock ∨ ∀ g, s.ownBlock = some g → w.heap.size ≤ g)) (fun _ t _ => (intOf t + 1).toNat)
  case atStart =>
    refine ⟨k, (k : Int) - 1, by go_num, rfl, Nat.le_refl _, ?_, ?_, .inl rfl⟩
    · rw [Nat.sub_self]
      simp only [be, List.append_nil]
      exact own_below HO.out (below_new _ _)
    · exact Fr.of_below (below_new _ _) (Nat.le_refl _)
  case round =>
    obtain ⟨j, t', rfl, ht, hj, hOw, hF, hc⟩ := hrel
    have HOW := hid hOw
    have HF := hid hF
    have HC := hid hc
    clear hOw hF hc
    cases j with
    | zero =>
      have hn0 : t' < 0 := by omega
      have hn1 : ¬ 0 ≤ t' := by omega
      go_wp2_with fail
      go_ret
      refine ⟨_, rfl, ?_, HF.out⟩
      have := HOW.out
      simpa using this
    | succ m =>
      have htm : t' = (m : Int) := by omega
      have hm : t' ≤ 7 := by omega
      have hm0 : 0 ≤ t' := by omega
      have HTM := hid htm
      clear htm ht
      have HY : Hid (x / 2 ^ (8 * t').toNat % 256 = ub (BitVec.ofInt 8 (x / 256 ^ m))) := by
        show _ = _
        rw [HTM.out, shr8, ← IntKind.wrap_u8', ub_wrap]
      have hbw : b ≤ wr.heap.size := Nat.le_trans HB.out HF.out.size
      have hll : (old ++ be (x / 256 ^ (m + 1)) (k - (m + 1))).length + 1 ≤ 140737488355328 := by
        rw [List.length_append, be_len]
        omega
      go_wp2_with (at_builtin; refine wpAppendA (.tmp 16) (.tmp 22) rfl rfl rfl (own_below HOW.out (below_new _ _)) (Nat.le_trans hbw (below_new _ _).size) rfl (fun e => by cases e) rfl (bytes_one HY.out) hll ?_; intro w5 v5 hO5 hg5)
      go_roundw
      case rel =>
        have hF5 := (HF.out.alloc (.cells #[.int .u8 (x / 2 ^ (8 * t').toNat % 256)] 5)).trans (Fr.of_grown (S := fun k => u1.ownBlock = some k) hg5.out.1 (fun k e => .inl e)) (fun g e => by
          rcases HC.out with h | h
          · exact .inl (h ▸ e)
          · exact .inr (h g e))
        refine ⟨m, t' - 1, by go_num, by have := HTM.out; omega, by omega, ?_, hF5, ?_⟩
        · have h1 := hO5.out
          rw [List.append_assoc, ← be_step x k m (by omega)] at h1
          have e1 : (old ++ be (x / 256 ^ (m + 1)) (k - (m + 1))).length + 1 = (old ++ be (x / 256 ^ m) (k - m)).length := by
            rw [List.length_append, List.length_append, be_len, be_len]
            omega
          rw [e1] at h1
          exact h1
        · rcases hg5.out.2 with e | e
          · rw [e]
            exact HC.out
          · refine .inr fun g h => ?_
            rw [e] at h
            injection h with h
            rw [← h]
            exact Nat.le_trans HF.out.size (below_new _ _).size
      case measure => simp [intOf]; omega
theorem second_any (w : World) (n : Bool) : Calls Try.prog 46 #[.bool n] w fun e w' => e = .returned (.int .u32 (if n then 1000000000 else 1000000)) ∧ w' = w := by
  cases n
  all_goals
    go_enter Try.func46, Try.ntmps46
    go_wp2
    go_ret
    exact ⟨rfl, rfl⟩
theorem rsecond_any (w : World) (n : Bool) : Calls Try.prog 38 #[.bool n] w fun e w' => e = .returned (.int .u32 (if n then 1000000000 else 1000000)) ∧ w' = w := by
  cases n
  all_goals
    go_enter Try.func38, Try.ntmps38
    go_wp2
    go_ret
    exact ⟨rfl, rfl⟩
/-- How many parts a thousandth of a second has. -/
def mul (n : Bool) : Int := if n then 1000000 else 1000
theorem moment_any {w : World} {c : Int} (n : Bool) (h0 : 0 ≤ c) (h1 : c < 18446744073709551616) : Calls Try.prog 42 #[.int .u64 c, .bool n] w fun e w' => e = .returned (.tuple #[.int .u32 (c / 1000 % 4294967296), .int .u32 (c % 1000 * mul n)]) ∧ w' = w := by
  have HS := hid (second_any w n)
  cases n
  all_goals
    simp only [mul] at *
    go_enter Try.func42, Try.ntmps42
    go_wp2_with (go_at_call 46; refine HS.out.mono ?_; rintro e w1 ⟨rfl, rfl⟩)
    go_ret2
    exact ⟨rfl, rfl⟩
end Go.Proofs.Ytgfefopihkiihaa
