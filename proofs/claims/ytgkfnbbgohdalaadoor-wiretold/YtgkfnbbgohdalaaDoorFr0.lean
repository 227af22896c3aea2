import Derived.Test.YtgkfnbbgohdalaaDoorNum
namespace Go.Proofs.YtgkfnbbgohdalaaDoor
open Go.RowKit
set_option maxRecDepth 100000

/-- The cells of a frame. -/
def fcells (f : Fr) (sd sr sm : Value) : List Value :=
  [.int .i64 f.kind, .int .i64 f.path, .int .u64 (f.num : Int), .int .u64 (f.off : Int), .int .u64 (f.edge : Int), sd, sr, .int .u32 (f.token : Int), .int .u32 (f.nonce : Int), sm, .bool f.backup, .int .i64 f.which]
/-- The ranges lie from a on. -/
def RangesAt (w : World) (a : Option Addr) (l : List (Nat × Nat)) : Prop :=
  ∀ k (h : k < l.length), ∃ g o, a = some ⟨g, o, none⟩ ∧ w.cell? ⟨g, o + k * 2, none⟩ = some (.int .u64 ((l[k]).1 : Int)) ∧ w.cell? ⟨g, o + k * 2 + 1, none⟩ = some (.int .u64 ((l[k]).2 : Int))
theorem RangesAt.kept {w w' : World} {a : Option Addr} {l : List (Nat × Nat)} (h : RangesAt w a l) (hb : Below w.heap.size w w') : RangesAt w' a l :=
  fun k hk => by obtain ⟨g, o, e, c, d⟩ := h k hk; exact ⟨g, o, e, cell_kept hb c, cell_kept hb d⟩

set_option maxHeartbeats 400000 in
theorem known_any (k : Int) (w : World) : Calls Tryd.prog 18 #[.int .i64 k] w fun e w' => e = .returned (.bool (decide (known k))) ∧ w' = w := by
  by_cases h1 : 0 < k
  · by_cases h2 : k < 12
    · have e : decide (known k) = true := decide_eq_true ⟨h1, h2⟩
      rw [e]
      go_enter Tryd.func18, Tryd.ntmps18
      go_wp2
      go_ret
      exact ⟨rfl, rfl⟩
    · have e : decide (known k) = false := decide_eq_false fun h => h2 h.2
      rw [e]
      have d2 : decide (k < 12) = false := decide_eq_false h2
      go_enter Tryd.func18, Tryd.ntmps18
      go_wp2
      go_ret
      exact ⟨rfl, rfl⟩
  · have e : decide (known k) = false := decide_eq_false fun h => h1 h.1
    rw [e]
    have d1 : decide (0 < k) = false := decide_eq_false h1
    go_enter Tryd.func18, Tryd.ntmps18
    go_wp2
    go_ret
    exact ⟨rfl, rfl⟩

theorem flag_any (b : Bool) (w : World) : Calls Tryd.prog 38 #[.bool b] w fun e w' => e = .returned (.int .u8 (ub (flagB b))) ∧ w' = w := by
  cases b
  · go_enter Tryd.func38, Tryd.ntmps38
    go_wp2
    go_ret
    exact ⟨rfl, rfl⟩
  · go_enter Tryd.func38, Tryd.ntmps38
    go_wp2
    go_ret
    exact ⟨rfl, rfl⟩

set_option maxHeartbeats 1000000 in
theorem blank_any {w : World} {f : Fr} {da ra ma : Option Addr} {dc rc mc : Nat} :
    Calls Tryd.prog 27 #[.agg (fcells f (.slice da f.data.length dc) (.slice ra f.ranges.length rc) (.slice ma f.mac.length mc)).toArray] w fun e w' => e = .returned (.bool (decide (f.num = 0 ∧ f.off = 0 ∧ f.edge = 0 ∧ f.token = 0 ∧ f.nonce = 0 ∧ f.which = 0 ∧ f.backup = false ∧ f.data.length = 0 ∧ f.ranges.length = 0 ∧ f.mac.length = 0))) ∧ Below w.heap.size w w' := by
  obtain ⟨kind, path, num, off, edge, data, ranges, token, nonce, mac, backup, which⟩ := f
  simp only [fcells]
  generalize data.length = dl
  generalize ranges.length = rl
  generalize mac.length = ml
  go_enter Tryd.func27, Tryd.ntmps27
  go_wp2
  all_goals go_ret
  all_goals refine ⟨congrArg (fun b => Ending.returned (Value.bool b)) (show _ = _ from ?_), (Below.refl _ _).alloc (Nat.le_refl _) _⟩
  all_goals simp_all
  all_goals (rw [Bool.eq_iff_iff]; simp)

end Go.Proofs.YtgkfnbbgohdalaaDoor
