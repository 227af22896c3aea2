import Derived.Test.YtgkfnbbgohdalaaDoorRd0
namespace Go.Proofs.YtgkfnbbgohdalaaDoor
open Go.RowKit
set_option maxRecDepth 100000

set_option maxHeartbeats 1000000 in
theorem only_6 {w : World} {f : Fr} {da ra ma : Option Addr} {dc rc mc dl rl ml : Nat} (h : f.kind = 6) :
    Calls Tryd.prog 22 #[.agg (fcells f (.slice da dl dc) (.slice ra rl rc) (.slice ma ml mc)).toArray] w fun e w' =>
      e = .returned (.agg (fcells (only f) (.slice none 0 0) (.slice none 0 0) (.slice none 0 0)).toArray) ∧ Below w.heap.size w w' := by
  obtain ⟨kind, path, num, off, edge, data, ranges, token, nonce, mac, backup, which⟩ := f
  simp only at h
  subst h
  simp (config := { decide := true }) only [only, if_true, if_false, Fr.zero, fcells]
  go_enter Tryd.func22, Tryd.ntmps22
  go_wp2
  exact bodyPost_ret (((Row.new' _ _ _ 27 (w.heap.size + 1) (by simp) rfl).alloc _).result Tryd.results22 _ rfl _ Tryd.underlying27 rfl i27) rfl ⟨rfl, ((((Below.refl _ _).alloc (Nat.le_refl _) _).alloc (by simp) _).alloc (by simp only [World.size_alloc]; omega) _)⟩

set_option maxHeartbeats 1000000 in
theorem only_7 {w : World} {f : Fr} {da ra ma : Option Addr} {dc rc mc dl rl ml : Nat} (h : f.kind = 7) :
    Calls Tryd.prog 22 #[.agg (fcells f (.slice da dl dc) (.slice ra rl rc) (.slice ma ml mc)).toArray] w fun e w' =>
      e = .returned (.agg (fcells (only f) (.slice none 0 0) (.slice none 0 0) (.slice none 0 0)).toArray) ∧ Below w.heap.size w w' := by
  obtain ⟨kind, path, num, off, edge, data, ranges, token, nonce, mac, backup, which⟩ := f
  simp only at h
  subst h
  simp (config := { decide := true }) only [only, if_true, if_false, Fr.zero, fcells]
  go_enter Tryd.func22, Tryd.ntmps22
  go_wp2
  go_region
  go_wp2
  exact bodyPost_ret ((((Row.new' _ _ _ 27 (w.heap.size + 1) (by simp) rfl).alloc _).drawn _).result Tryd.results22 _ rfl _ Tryd.underlying27 rfl i27) rfl ⟨rfl, below_drawn ((((Below.refl _ _).alloc (Nat.le_refl _) _).alloc (by simp) _).alloc (by simp only [World.size_alloc]; omega) _) _⟩

set_option maxHeartbeats 1000000 in
theorem only_8 {w : World} {f : Fr} {da ra ma : Option Addr} {dc rc mc dl rl ml : Nat} (h : f.kind = 8) :
    Calls Tryd.prog 22 #[.agg (fcells f (.slice da dl dc) (.slice ra rl rc) (.slice ma ml mc)).toArray] w fun e w' =>
      e = .returned (.agg (fcells (only f) (.slice none 0 0) (.slice none 0 0) (.slice ma ml mc)).toArray) ∧ Below w.heap.size w w' := by
  obtain ⟨kind, path, num, off, edge, data, ranges, token, nonce, mac, backup, which⟩ := f
  simp only at h
  subst h
  simp (config := { decide := true }) only [only, if_true, if_false, Fr.zero, fcells]
  go_enter Tryd.func22, Tryd.ntmps22
  go_wp2
  go_region
  go_wp2
  exact bodyPost_ret ((((Row.new' _ _ _ 27 (w.heap.size + 1) (by simp) rfl).alloc _).drawn _).result Tryd.results22 _ rfl _ Tryd.underlying27 rfl i27) rfl ⟨rfl, below_drawn ((((Below.refl _ _).alloc (Nat.le_refl _) _).alloc (by simp) _).alloc (by simp only [World.size_alloc]; omega) _) _⟩
end Go.Proofs.YtgkfnbbgohdalaaDoor
