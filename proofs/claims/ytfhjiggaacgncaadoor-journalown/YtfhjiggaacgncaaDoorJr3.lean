import Derived.Test.YtfhjiggaacgncaaDoorJd1
namespace Go.Proofs.YtfhjiggaacgncaaDoor
open Go.RowKit Go.Maps Go.Sort
set_option maxRecDepth 100000

theorem nz_any (w : World) (x : BitVec 8) : Calls Tryd.prog 74 #[.int .u8 (ub x)] w fun e w' => e = .returned (.bool (decide (x ≠ 0#8))) ∧ w' = w := by
  by_cases h : x = 0#8
  · subst h
    have e0 : ub 0#8 = 0 := by decide
    rw [e0]
    go_enter Tryd.func74, Tryd.ntmps74
    go_wp2
    go_ret
    exact ⟨rfl, rfl⟩
  · rw [decide_eq_true h]
    have e0 : ¬ ub x = 0 := fun e => h (ub_inj (by rw [e]; decide))
    clear h
    go_enter Tryd.func74, Tryd.ntmps74
    go_wp2
    go_ret
    exact ⟨by first | rfl | simp [e0], rfl⟩
/-- Is a byte not 0? -/
def anyN (l : List (BitVec 8)) : Bool := l.any fun x => decide (x ≠ 0#8)
set_option maxHeartbeats 1000000 in
theorem index_any {w : World} {a : Option Addr} {l : List (BitVec 8)} {L cap : Nat} (hB : BytesAt w a l) (hL : l.length = L) (hl : L ≤ 16777216) :
    Calls Tryd.prog 80 #[.slice a L cap, .func (.func 74) #[] #[]] w fun e w' => (∃ k : Int, e = .returned (.int .i64 k) ∧ decide (0 ≤ k) = anyN l) ∧ w' = w := by
  subst hL
  have HB := hid hB
  have hli : (l.length : Int) ≤ 16777216 := by omega
  clear hB hl
  have hcf : ∀ (args : Array Value) (w : World), (callFunc 74 args).run Tryd.prog w = .ok (.enter 74 args) w := fun _ _ => rfl
  go_enter Tryd.func80, Tryd.ntmps80
  go_wp2
  go_loopw [8] (fun i wr => ∃ k : Nat, k ≤ l.length ∧ i = .int .i64 k ∧ Hid (anyN (l.take k) = false) ∧ wr = w) (fun i _ => l.length - (intOf i).toNat)
  case atStart => exact ⟨0, Nat.zero_le _, rfl, rfl, rfl⟩
  case round =>
    obtain ⟨k, hk, rfl, HA, rfl⟩ := hrel
    by_cases hlt : k < l.length
    · obtain ⟨g, o, rfl, c1⟩ := HB.out k hlt
      have HS := hid (show anyN (l.take (k + 1)) = (anyN (l.take k) || decide (l[k] ≠ 0#8)) by rw [List.take_succ_eq_append_getElem hlt, anyN, List.any_append]; simp [anyN])
      have HM := hid (List.getElem_mem hlt)
      have HZ : Hid (∀ w, Calls Tryd.prog 74 #[.int .u8 (ub l[k])] w fun e w' => e = .returned (.bool (decide (l[k] ≠ 0#8))) ∧ w' = w) := fun w => nz_any w _
      generalize l[k] = x at *
      by_cases hx : x = 0#8
      · have HZ2 : Hid (∀ w, Calls Tryd.prog 74 #[.int .u8 (ub x)] w fun e w' => e = .returned (.bool false) ∧ w' = w) := fun w => by have := HZ.out w; rw [decide_eq_false (fun h => h hx)] at this; exact this
        have HX := hid hx
        clear HZ hx
        go_wp2_with (go_at_call 74; refine (HZ2.out _).mono ?_; rintro e w2 ⟨rfl, rfl⟩)
        go_roundw
        case rel => exact ⟨k + 1, hlt, by go_num, by show _ = _; rw [HS.out, HA.out, decide_eq_false (fun h => h HX.out)]; rfl, trivial⟩
        case measure => simp [intOf]; omega
      · have HZ2 : Hid (∀ w, Calls Tryd.prog 74 #[.int .u8 (ub x)] w fun e w' => e = .returned (.bool true) ∧ w' = w) := fun w => by have := HZ.out w; rw [decide_eq_true hx] at this; exact this
        have HX := hid hx
        clear HZ hx
        go_wp2_with (go_at_call 74; refine (HZ2.out _).mono ?_; rintro e w2 ⟨rfl, rfl⟩)
        go_ret
        refine ⟨⟨(k : Int), rfl, ?_⟩, rfl⟩
        rw [decide_eq_true (by omega)]
        exact (List.any_eq_true.2 ⟨x, HM.out, decide_eq_true HX.out⟩).symm
    · obtain rfl : k = l.length := by omega
      have HA2 := hid HA.out
      rw [List.take_length] at HA2
      go_wp2
      go_ret
      exact ⟨⟨-1, rfl, by rw [HA2.out]; rfl⟩, rfl⟩
theorem contains_any {w : World} {a : Option Addr} {l : List (BitVec 8)} {L cap : Nat} (hB : BytesAt w a l) (hL : l.length = L) (hl : L ≤ 16777216) :
    Calls Tryd.prog 73 #[.slice a L cap, .func (.func 74) #[] #[]] w fun e w' => e = .returned (.bool (anyN l)) ∧ w' = w := by
  have HI := hid (index_any (cap := cap) hB hL hl)
  clear hB hl hL
  go_enter Tryd.func73, Tryd.ntmps73
  go_wp2_with (go_at_call 80; refine HI.out.mono ?_; rintro e w1 ⟨⟨k, rfl, hk⟩, rfl⟩; have HK := hid hk; clear hk)
  go_ret
  exact ⟨by rw [← HK.out]; rfl, rfl⟩
end Go.Proofs.YtfhjiggaacgncaaDoor
