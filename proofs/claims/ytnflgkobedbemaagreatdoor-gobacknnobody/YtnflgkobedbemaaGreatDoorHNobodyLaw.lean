import Derived.Test.YtnflgkobedbemaaGreatDoorHTake
namespace Go.Proofs.YtnflgkobedbemaaGreatDoor.Sh
open Go.RowKit
set_option maxRecDepth 100000

set_option maxHeartbeats 400000 in
theorem firstState_any (w : World) : Calls Tryz.prog 188 #[] w fun e w' => e = .returned (.agg (wcells st0.l).toArray) ∧ Below w.heap.size w w' := by
  go_enter Tryz.func188, Tryz.ntmps188
  go_wp2
  refine bodyPost_ret (v := .agg (wcells st0.l).toArray) ((Row.new' w _ (wcells st0.l) 217 _ rfl rfl).result Tryz.results188 _ rfl _ Tryz.underlying217 rfl (by kernel_rfl)) rfl ⟨rfl, (Below.refl _ _).alloc (Nat.le_refl _) _⟩

def z64 : List (BitVec 8) := List.replicate 64 0#8
theorem built39 : Tryz.prog.built 221 [(0, .bool true), (1, .agg (wcells st0.l).toArray)] = some (hcells st0 z64 0).toArray := by kernel_rfl
/-- A plain Hash's cells. -/
def hz : List Value := .bool false :: (wcells (List.replicate 8 0#32) ++ (bcells z64 ++ [.int .u64 0]))
theorem hz_len : hz.length = 74 := by kernel_rfl
theorem zero39 : (Tryz.prog.info? 221).map (fun i => (i.zero, i.size)) = some (some (.agg hz.toArray), 74) := by kernel_rfl
theorem z39 (w : World) : (zeroValue 221).run Tryz.prog w = .ok (.agg hz.toArray) w := (zero_of_info zero39).1 w
theorem i39 : (Tryz.prog.info? 221).map (·.size) = some 74 := (zero_of_info zero39).2
theorem wpBuild39 {ops : Array Oper} {rest : List Oper} {o : Oper} {a : Act} {w : World} {Q : Exit → Act → World → Prop} (x : Operand) (hgd : o.guard = none) (ho : o.op = .build 221 #[(0, .const (.bool true)), (1, x)]) (hx : a.eval x = .agg (wcells st0.l).toArray)
    (k : wpList Tryz.prog ops Q rest (a.put o.dst (.agg (hcells st0 z64 0).toArray)) w) : wpList Tryz.prog ops Q (o :: rest) a w := by
  have e : (#[(0, Operand.const (.bool true)), (1, x)].map fun (i, x) => (i, a.eval x)).toList = [(0, .bool true), (1, .agg (wcells st0.l).toArray)] := by
    simp [hx]; rfl
  refine wpList_build hgd 221 _ ho (by rw [e, built39]; rfl) ?_
  rw [e, built39]
  exact k

theorem hcells_one (s : St) (l : List (BitVec 8)) (n : Nat) : ∀ v ∈ hcells s l n, v.oneCell' = true := by
  intro v hv
  simp only [hcells, List.mem_cons, List.mem_append, List.not_mem_nil, or_false] at hv
  rcases hv with rfl | hv | hv | rfl
  · rfl
  · exact wcells_one _ v hv
  · exact bcells_one _ v hv
  · rfl

set_option maxHeartbeats 400000 in
theorem fresh_any (w : World) : Calls Tryz.prog 160 #[] w fun e w' => e = .returned (.agg (hcells st0 z64 0).toArray) ∧ Below w.heap.size w w' := by
  have hz39 := z39
  go_enter Tryz.func160, Tryz.ntmps160
  go_wp2_with (first
    | (go_at_call 188; refine (firstState_any _).mono ?_; rintro e w1 ⟨rfl, hb1⟩; have HB1 : Hid _ := hb1; clear hb1)
    | (show wpList _ _ _ (Oper.mk (some 2) (.build 221 _) _ _ _ _ :: _) _ _; refine wpBuild39 (.tmp 1) rfl rfl rfl ?_)
    | (show wpList _ _ _ (Oper.mk none (.store 221 (.tmp 0) (.tmp 2)) _ _ _ _ :: _) _ _; refine ((Row.new w hz 221).kept HB1.out (by simp)).wpStore' 221 (.tmp 0) (.tmp 2) (hcells st0 z64 0) rfl rfl rfl rfl (by rw [hz_len, hcells_len _ _ _ (by rfl)]) (hcells_one _ _ _) (by rw [hcells_len _ _ _ (by rfl)]; exact i39) ?_; intro wx HX))
  have R : Row wx w.heap.size (hcells st0 z64 0) 221 := by rw [HX.out]; exact ((Row.new w hz 221).kept HB1.out (by simp)).row _
  refine bodyPost_ret (v := .agg (hcells st0 z64 0).toArray) (R.result Tryz.results160 _ rfl _ Tryz.underlying221 rfl (by rw [hcells_len _ _ _ (by rfl)]; exact i39)) rfl ⟨rfl, ?_⟩
  rw [HX.out]
  exact Go.below_setRow (((Below.refl _ _).alloc (Nat.le_refl _) _).trans (HB1.out.mono (by simp))) (Nat.le_refl _) _

end Go.Proofs.YtnflgkobedbemaaGreatDoor.Sh

namespace Go.Proofs.YtnflgkobedbemaaGreatDoor.Sh
open Go.RowKit
set_option maxRecDepth 100000

theorem wp_world {code : Code} {Q : Exit → Act → World → Prop} {a : Act} {w : World} (h : ∀ w0, Hid (w0 = w) → code.wp Tryz.prog Q a w0) : code.wp Tryz.prog Q a w := h w rfl
/-- A Hash that neither New nor Fork gave. -/
def NoHash (w : World) (v : Value) : Prop := v = .pointer none ∨ ∃ p, v = .pointer (some ⟨p, 0, none⟩) ∧ Row w p hz 221

def z32 : List (BitVec 8) := List.replicate 32 0#8
theorem zero44 : (Tryz.prog.info? 171).map (fun i => (i.zero, i.size)) = some (some (.agg (bcells z32).toArray), 32) := by kernel_rfl
theorem i44 : (Tryz.prog.info? 171).map (·.size) = some 32 := (zero_of_info zero44).2
theorem NoHash.kept {w w' : World} {v : Value} (h : NoHash w v) (hb : Below w.heap.size w w') : NoHash w' v := by
  rcases h with h | ⟨p, h, R⟩
  · exact .inl h
  · exact .inr ⟨p, h, R.kept hb R.lt⟩
end Go.Proofs.YtnflgkobedbemaaGreatDoor.Sh

namespace Go.Proofs.YtnflgkobedbemaaGreatDoor.Sh
open Go.RowKit
set_option maxRecDepth 100000

theorem BytesAt.off {w : World} {a : Option Addr} {bs : List (BitVec 8)} (h : BytesAt w a bs) {p : Nat} (hp : w.heap.size ≤ p) : BytesOff p w a bs := fun k hk => by
  obtain ⟨g, o, e, c⟩ := h k hk
  have := World.block_lt_of_cell? w _ c
  exact ⟨g, o, e, by simp only at this; omega, c⟩
theorem BytesOff.kept {p : Nat} {w w' : World} {a : Option Addr} {bs : List (BitVec 8)} (h : BytesOff p w a bs) (hb : Below w.heap.size w w') : BytesOff p w' a bs := fun k hk => by
  obtain ⟨g, o, e, hg, c⟩ := h k hk
  exact ⟨g, o, e, hg, cell_kept hb c⟩
theorem NoHash.only {w w' : World} {v : Value} {p : Nat} (h : NoHash w v) (ho : Only p w w') (hp : ∀ q, v = .pointer (some ⟨q, 0, none⟩) → q ≠ p) : NoHash w' v := by
  rcases h with h | ⟨q, h, R⟩
  · exact .inl h
  · exact .inr ⟨q, h, ho.row R (hp q h)⟩
end Go.Proofs.YtnflgkobedbemaaGreatDoor.Sh
