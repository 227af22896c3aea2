import Derived.Test.YtjpllcliehgnfaaDoorTake
namespace Go.Proofs.YtjpllcliehgnfaaDoor
open Go.RowKit
set_option maxRecDepth 100000

set_option maxHeartbeats 400000 in
theorem firstState_any (w : World) : Calls Tryd.prog 65 #[] w fun e w' => e = .returned (.agg (wcells st0.l).toArray) ∧ Below w.heap.size w w' := by
  go_enter Tryd.func65, Tryd.ntmps65
  go_wp2
  refine bodyPost_ret (v := .agg (wcells st0.l).toArray) ((Row.new' w _ (wcells st0.l) 90 _ rfl rfl).result Tryd.results65 _ rfl _ Tryd.underlying90 rfl (by kernel_rfl)) rfl ⟨rfl, (Below.refl _ _).alloc (Nat.le_refl _) _⟩

def z64 : List (BitVec 8) := List.replicate 64 0#8
theorem built39 : Tryd.prog.built 94 [(0, .bool true), (1, .agg (wcells st0.l).toArray)] = some (hcells st0 z64 0).toArray := by kernel_rfl
/-- A plain Hash's cells. -/
def hz : List Value := .bool false :: (wcells (List.replicate 8 0#32) ++ (bcells z64 ++ [.int .u64 0]))
theorem hz_len : hz.length = 74 := by kernel_rfl
theorem zero39 : (Tryd.prog.info? 94).map (fun i => (i.zero, i.size)) = some (some (.agg hz.toArray), 74) := by kernel_rfl
theorem z39 (w : World) : (zeroValue 94).run Tryd.prog w = .ok (.agg hz.toArray) w := (zero_of_info zero39).1 w
theorem i39 : (Tryd.prog.info? 94).map (·.size) = some 74 := (zero_of_info zero39).2
theorem wpBuild39 {ops : Array Oper} {rest : List Oper} {o : Oper} {a : Act} {w : World} {Q : Exit → Act → World → Prop} (x : Operand) (hgd : o.guard = none) (ho : o.op = .build 94 #[(0, .const (.bool true)), (1, x)]) (hx : a.eval x = .agg (wcells st0.l).toArray)
    (k : wpList Tryd.prog ops Q rest (a.put o.dst (.agg (hcells st0 z64 0).toArray)) w) : wpList Tryd.prog ops Q (o :: rest) a w := by
  have e : (#[(0, Operand.const (.bool true)), (1, x)].map fun (i, x) => (i, a.eval x)).toList = [(0, .bool true), (1, .agg (wcells st0.l).toArray)] := by
    simp [hx]; rfl
  refine wpList_build hgd 94 _ ho (by rw [e, built39]; rfl) ?_
  rw [e, built39]
  exact k

theorem hcells_one (s : St) (l : List (BitVec 8)) (n : Nat) : ∀ v ∈ hcells s l n, v.oneCell' = true := by
  intro v hv
  simp only [hcells, List.mem_cons, List.mem_append, List.not_mem_nil, or_false] at hv
  rcases hv with rfl | hv | hv | rfl
  · rfl
  · exact wcells_one _ v hv
  · exact bcells_one _ v hv
  · rfl

set_option maxHeartbeats 400000 in
theorem fresh_any (w : World) : Calls Tryd.prog 56 #[] w fun e w' => e = .returned (.agg (hcells st0 z64 0).toArray) ∧ Below w.heap.size w w' := by
  have hz39 := z39
  go_enter Tryd.func56, Tryd.ntmps56
  go_wp2_with (first
    | (go_at_call 65; refine (firstState_any _).mono ?_; rintro e w1 ⟨rfl, hb1⟩; have HB1 : Hid _ := hb1; clear hb1)
    | (show wpList _ _ _ (Oper.mk (some 2) (.build 94 _) _ _ _ _ :: _) _ _; refine wpBuild39 (.tmp 1) rfl rfl rfl ?_)
    | (show wpList _ _ _ (Oper.mk none (.store 94 (.tmp 0) (.tmp 2)) _ _ _ _ :: _) _ _; refine ((Row.new w hz 94).kept HB1.out (by simp)).wpStore' 94 (.tmp 0) (.tmp 2) (hcells st0 z64 0) rfl rfl rfl rfl (by rw [hz_len, hcells_len _ _ _ (by rfl)]) (hcells_one _ _ _) (by rw [hcells_len _ _ _ (by rfl)]; exact i39) ?_; intro wx HX))
  have R : Row wx w.heap.size (hcells st0 z64 0) 94 := by rw [HX.out]; exact ((Row.new w hz 94).kept HB1.out (by simp)).row _
  refine bodyPost_ret (v := .agg (hcells st0 z64 0).toArray) (R.result Tryd.results56 _ rfl _ Tryd.underlying94 rfl (by rw [hcells_len _ _ _ (by rfl)]; exact i39)) rfl ⟨rfl, ?_⟩
  rw [HX.out]
  exact Go.below_setRow (((Below.refl _ _).alloc (Nat.le_refl _) _).trans (HB1.out.mono (by simp))) (Nat.le_refl _) _

end Go.Proofs.YtjpllcliehgnfaaDoor
