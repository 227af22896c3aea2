import Derived.Test.YtgkfnbbgohdalaaDoorFr0
namespace Go.Proofs.YtgkfnbbgohdalaaDoor
open Go.RowKit
set_option maxRecDepth 100000

theorem i27 : (Tryd.prog.info? 27).map (·.size) = some 12 := by kernel_rfl
set_option maxHeartbeats 8000000 in
theorem stripped_any {w : World} {f : Fr} {da ra ma : Option Addr} {dc rc mc : Nat} (h : known f.kind) :
    Calls Tryd.prog 28 #[.agg (fcells f (.slice da f.data.length dc) (.slice ra f.ranges.length rc) (.slice ma f.mac.length mc)).toArray] w fun e w' =>
      (∃ da' dc' ra' rc' ma' mc', e = .returned (.agg (fcells (strip f) (.slice da' (strip f).data.length dc') (.slice ra' (strip f).ranges.length rc') (.slice ma' (strip f).mac.length mc')).toArray)) ∧ Below w.heap.size w w' := by
  obtain ⟨kind, path, num, off, edge, data, ranges, token, nonce, mac, backup, which⟩ := f
  have hk := kinds h
  simp only at hk
  clear h
  rcases hk with rfl | rfl | rfl | rfl | rfl | rfl | rfl | rfl | rfl | rfl | rfl
  all_goals simp (config := { decide := true }) only [strip, if_true, if_false, fcells]
  all_goals
    go_enter Tryd.func28, Tryd.ntmps28
    go_wp2
    exact bodyPost_ret ((Row.new' _ _ _ 27 _ (by simp) rfl).result Tryd.results28 _ rfl _ Tryd.underlying27 rfl i27) rfl ⟨⟨_, _, _, _, _, _, rfl⟩, (((Below.refl _ _).alloc (Nat.le_refl _) _).alloc (by simp) _)⟩
end Go.Proofs.YtgkfnbbgohdalaaDoor
