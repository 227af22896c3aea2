import Derived.Test.YtjhkoanjocdboaaDoorTake
namespace Go.Proofs.YtjhkoanjocdboaaDoor
open Go.RowKit
set_option maxRecDepth 100000

set_option maxHeartbeats 400000 in
theorem firstState_any (w : World) : Calls Tryd.prog 30 #[] w fun e w' => e = .returned (.agg (wcells st0.l).toArray) ∧ Below w.heap.size w w' := by
  go_enter Tryd.func30, Tryd.ntmps30
  go_wp2
  refine bodyPost_ret (v := .agg (wcells st0.l).toArray) ((Row.new' w _ (wcells st0.l) 34 _ rfl rfl).result Tryd.results30 _ rfl _ Tryd.underlying34 rfl (by kernel_rfl)) rfl ⟨rfl, (Below.refl _ _).alloc (Nat.le_refl _) _⟩

def z64 : List (BitVec 8) := List.replicate 64 0#8
theorem built39 : Tryd.prog.built 39 [(0, .bool true), (1, .agg (wcells st0.l).toArray)] = some (hcells st0 z64 0).toArray := by kernel_rfl
/-- A plain Hash's cells. -/
def hz : List Value := .bool false :: (wcells (List.replicate 8 0#32) ++ (bcells z64 ++ [.int .u64 0]))
theorem hz_len : hz.length = 74 := by kernel_rfl
theorem zero39 : (Tryd.prog.info? 39).map (fun i => (i.zero, i.size)) = some (some (.agg hz.toArray), 74) := by kernel_rfl
theorem z39 (w : World) : (zeroValue 39).run Tryd.prog w = .ok (.agg hz.toArray) w := (zero_of_info zero39).1 w
theorem i39 : (Tryd.prog.info? 39).map (·.size) = some 74 := (zero_of_info zero39).2
theorem wpBuild39 {ops : Array Oper} {rest : List Oper} {o : Oper} {a : Act} {w : World} {Q : Exit → Act → World → Prop} (x : Operand) (hgd : o.guard = none) (ho : o.op = .build 39 #[(0, .const (.bool true)), (1, x)]) (hx : a.eval x = .agg (wcells st0.l).toArray)
    (k : wpList Tryd.prog ops Q rest (a.put o.dst (.agg (hcells st0 z64 0).toArray)) w) : wpList Tryd.prog ops Q (o :: rest) a w := by
  have e : (#[(0, Operand.const (.bool true)), (1, x)].map fun (i, x) => (i, a.eval x)).toList = [(0, .bool true), (1, .agg (wcells st0.l).toArray)] := by
    simp [hx]; rfl
  refine wpList_build hgd 39 _ ho (by rw [e, built39]; rfl) ?_
  rw [e, built39]
  exact k

theorem hcells_one (s : St) (l : List (BitVec 8)) (n : Nat) : ∀ v ∈ hcells s l n, v.oneCell' = true := by
  intro v hv
  simp only [hcells, List.mem_cons, List.mem_append, List.not_mem_nil, or_false] at hv
  rcases hv with rfl | hv | hv | rfl
  · rfl
  · exact wcells_one _ v hv
  · exact bcells_one _ v hv
  · rfl

set_option maxHeartbeats 400000 in
theorem fresh_any (w : World) : Calls Tryd.prog 24 #[] w fun e w' => e = .returned (.agg (hcells st0 z64 0).toArray) ∧ Below w.heap.size w w' := by
  have hz39 := z39
  go_enter Tryd.func24, Tryd.ntmps24
  go_wp2_with (first
    | (go_at_call 30; refine (firstState_any _).mono ?_; rintro e w1 ⟨rfl, hb1⟩; have HB1 : Hid _ := hb1; clear hb1)
    | (show wpList _ _ _ (Oper.mk (some 2) (.build 39 _) _ _ _ _ :: _) _ _; refine wpBuild39 (.tmp 1) rfl rfl rfl ?_)
    | (show wpList _ _ _ (Oper.mk none (.store 39 (.tmp 0) (.tmp 2)) _ _ _ _ :: _) _ _; refine ((Row.new w hz 39).kept HB1.out (by simp)).wpStore' 39 (.tmp 0) (.tmp 2) (hcells st0 z64 0) rfl rfl rfl rfl (by rw [hz_len, hcells_len _ _ _ (by rfl)]) (hcells_one _ _ _) (by rw [hcells_len _ _ _ (by rfl)]; exact i39) ?_; intro wx HX))
  have R : Row wx w.heap.size (hcells st0 z64 0) 39 := by rw [HX.out]; exact ((Row.new w hz 39).kept HB1.out (by simp)).row _
  refine bodyPost_ret (v := .agg (hcells st0 z64 0).toArray) (R.result Tryd.results24 _ rfl _ Tryd.underlying39 rfl (by rw [hcells_len _ _ _ (by rfl)]; exact i39)) rfl ⟨rfl, ?_⟩
  rw [HX.out]
  exact Go.below_setRow (((Below.refl _ _).alloc (Nat.le_refl _) _).trans (HB1.out.mono (by simp))) (Nat.le_refl _) _

set_option maxHeartbeats 400000 in
theorem new_any (w : World) : Calls Tryd.prog 15 #[] w fun e w' => ∃ p, e = .returned (.pointer (some ⟨p, 0, none⟩)) ∧ w.heap.size ≤ p ∧ HashAt w' p [] ∧ Below w.heap.size w w' := by
  have hz39 := z39
  go_enter Tryd.func15, Tryd.ntmps15
  go_wp2_with (first
    | (go_at_call 24; refine (fresh_any _).mono ?_; rintro e w1 ⟨rfl, hb1⟩; have HB1 : Hid _ := hb1; clear hb1)
    | (show wpList _ _ _ (Oper.mk none (.store 39 (.tmp 1) (.tmp 2)) _ _ _ _ :: _) _ _; refine (Row.new w1 hz 39).wpStore' 39 (.tmp 1) (.tmp 2) (hcells st0 z64 0) rfl rfl rfl rfl (by rw [hz_len, hcells_len _ _ _ (by rfl)]) (hcells_one _ _ _) (by rw [hcells_len _ _ _ (by rfl)]; exact i39) ?_; intro wx HX))
  go_ret
  refine ⟨w1.heap.size, rfl, HB1.out.size, ⟨st0, z64, Took.nil _ rfl, ?_⟩, ?_⟩
  · rw [HX.out]; exact (Row.new w1 hz 39).row _
  · rw [HX.out]
    exact Go.below_setRow (HB1.out.alloc HB1.out.size _) HB1.out.size _
end Go.Proofs.YtjhkoanjocdboaaDoor
