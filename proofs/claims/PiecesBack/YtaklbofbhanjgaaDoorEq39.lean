import Derived.Test.YtaklbofbhanjgaaDoorDe0
import Derived.Test.YtaklbofbhanjgaaDoorAl1
import Derived.Laws.StructEq
namespace Go.Proofs.YtaklbofbhanjgaaDoor
open Go.RowKit
set_option maxRecDepth 100000
theorem itemsD {xs : List (BitVec 8)} {N d : Nat} (hx : xs.length = N) (w : World) : ∀ is : List Nat, (∀ i ∈ is, i < N) → (Op.eqItems (d + 1) 5 1 (bcells xs).toArray (bcells xs).toArray is).run Tryd.prog w = .ok true w
  | [], _ => by simp [Op.eqItems]
  | i :: is, hi => by
    have hin := hi i (by simp)
    have h1 : (bcells xs).toArray[i]? = some (.int .u8 (ub (xs.getD i 0))) := by
      rw [List.getElem?_toArray, bcells_get (by omega)]
      simp [List.getD_eq_getElem?_getD, show i < xs.length by omega]
    have hp : (part 5 (bcells xs).toArray i).run Tryd.prog w = .ok (.int .u8 (ub (xs.getD i 0))) w := run_part_plain w (by kernel_rfl) h1
    generalize xs.getD i 0 = x at *
    have he : (Op.equalIn (d + 1) 5 (.int .u8 (ub x)) (.int .u8 (ub x))).run Tryd.prog w = .ok (ub x == ub x) w := run_equalIn_int w d 5 .u8 .u8 (ub x) (ub x) Tryd.underlying5
    have ih := itemsD (d := d) hx w is (fun j hj => hi j (by simp [hj]))
    simp only [Op.eqItems, Nat.mul_one, Sem.run_bind, hp, Result.andThen_ok, he]
    simp [ih]
theorem eq25d {E : List (BitVec 8)} {d : Nat} (hE : E.length = 32) (w : World) : (Op.equalIn (d + 2) 25 (.agg (bcells E).toArray) (.agg (bcells E).toArray)).run Tryd.prog w = .ok true w := by
  obtain ⟨i, h1, _, _, _⟩ := info5
  rw [run_equalIn_array w (d + 1) (i := i) (bcells E).toArray (bcells E).toArray Tryd.underlying25 h1, show Tryd.prog.cellsOf 5 = 1 by kernel_rfl, itemsD (N := 32) hE w _ (fun j hj => by simpa using hj)]
theorem part39 {m : Mf} (h : m.rt.length = 32) (w : World) : (part 25 m.cells.toArray 3).run Tryd.prog w = .ok (.agg (bcells m.rt).toArray) w := by
  obtain ⟨nm, sz, pc, rt⟩ := m
  dsimp only at h
  obtain ⟨x0, x1, x2, x3, x4, x5, x6, x7, x8, x9, x10, x11, x12, x13, x14, x15, x16, x17, x18, x19, x20, x21, x22, x23, x24, x25, x26, x27, x28, x29, x30, x31, rfl⟩ := list32 rt h
  kernel_rfl
theorem fields39 : ∃ f0 f1 f2 f3 : Field, (Tryd.prog.fieldsOf 39).toList = [f0, f1, f2, f3] ∧ (f0.name ≠ "_" ∧ f0.type = 9 ∧ f0.offset = 0) ∧ (f1.name ≠ "_" ∧ f1.type = 3 ∧ f1.offset = 1) ∧ (f2.name ≠ "_" ∧ f2.type = 3 ∧ f2.offset = 2) ∧ (f3.name ≠ "_" ∧ f3.type = 25 ∧ f3.offset = 3) := by
  have hf : (Tryd.prog.fieldsOf 39).toList.map (fun f => (f.name, f.type, f.offset)) = [("Name", 9, 0), ("Size", 3, 1), ("Piece", 3, 2), ("Root", 25, 3)] := by kernel_rfl
  generalize (Tryd.prog.fieldsOf 39).toList = L at *
  rcases L with _ | ⟨f0, _ | ⟨f1, _ | ⟨f2, _ | ⟨f3, _ | ⟨x, L⟩⟩⟩⟩⟩ <;> simp only [List.map_cons, List.map_nil, List.cons.injEq, Prod.mk.injEq, and_true, reduceCtorEq, and_false] at hf
  obtain ⟨⟨a1, a2, a3⟩, ⟨b1, b2, b3⟩, ⟨c1, c2, c3⟩, d1, d2, d3⟩ := hf
  exact ⟨f0, f1, f2, f3, rfl, ⟨by rw [a1]; decide, a2, a3⟩, ⟨by rw [b1]; decide, b2, b3⟩, ⟨by rw [c1]; decide, c2, c3⟩, ⟨by rw [d1]; decide, d2, d3⟩⟩
theorem eqF_step {P : Program} {w : World} {d : Nat} {xs : Array Value} {f : Field} {fs : List Field} {a : Value} (hn : f.name ≠ "_") (ha : (part f.type xs f.offset).run P w = .ok a w) (he : (Op.equalIn d f.type a a).run P w = .ok true w) : (Op.eqFields d xs xs (f :: fs)).run P w = (Op.eqFields d xs xs fs).run P w := by
  conv => lhs; unfold Op.eqFields
  rw [if_pos hn]
  simp only [Sem.run_bind, ha, he, Result.andThen_ok, Bool.not_true, Bool.false_eq_true, if_false]
theorem eqMf {m : Mf} {d : Nat} (h : m.rt.length = 32) (w : World) : (Op.equalIn (d + 4) 39 (.agg m.cells.toArray) (.agg m.cells.toArray)).run Tryd.prog w = .ok true w := by
  have hp := part39 h w
  have he : (Op.equalIn (d + 3) 25 (.agg (bcells m.rt).toArray) (.agg (bcells m.rt).toArray)).run Tryd.prog w = .ok true w := eq25d (d := d + 1) h w
  obtain ⟨nm, sz, pc, rt⟩ := m
  rw [run_equalIn_struct w (d + 3) 39 _ _ Tryd.underlying39 (by kernel_rfl)]
  obtain ⟨f0, f1, f2, f3, e, ⟨n0, t0, o0⟩, ⟨n1, t1, o1⟩, ⟨n2, t2, o2⟩, ⟨n3, t3, o3⟩⟩ := fields39
  rw [e]
  have p0 : (part 9 (Mf.cells ⟨nm, sz, pc, rt⟩).toArray 0).run Tryd.prog w = .ok (.string nm) w := run_part_plain w (by kernel_rfl) rfl
  have p1 : (part 3 (Mf.cells ⟨nm, sz, pc, rt⟩).toArray 1).run Tryd.prog w = .ok (.int .i64 sz) w := run_part_plain w (by kernel_rfl) rfl
  have p2 : (part 3 (Mf.cells ⟨nm, sz, pc, rt⟩).toArray 2).run Tryd.prog w = .ok (.int .i64 pc) w := run_part_plain w (by kernel_rfl) rfl
  have q1 : (Op.equalIn (d + 3) 3 (.int .i64 sz) (.int .i64 sz)).run Tryd.prog w = .ok (sz == sz) w := run_equalIn_int w (d + 2) 3 .i64 .i64 sz sz Tryd.underlying3
  have q2 : (Op.equalIn (d + 3) 3 (.int .i64 pc) (.int .i64 pc)).run Tryd.prog w = .ok (pc == pc) w := run_equalIn_int w (d + 2) 3 .i64 .i64 pc pc Tryd.underlying3
  have q0 : (Op.equalIn (d + 3) 9 (.string nm) (.string nm)).run Tryd.prog w = .ok true w := by
    have := run_equalIn_string (P := Tryd.prog) w (d + 2) 9 nm nm Tryd.underlying9
    rw [beq_self_eq_true] at this
    exact this
  generalize (Mf.cells ⟨nm, sz, pc, rt⟩).toArray = A at *
  dsimp only at hp he
  generalize (Value.agg (bcells rt).toArray) = V at *
  rw [beq_self_eq_true] at q1 q2
  rw [eqF_step (a := .string nm) n0 (by rw [t0, o0]; exact p0) (by rw [t0]; exact q0), eqF_step (a := .int .i64 sz) n1 (by rw [t1, o1]; exact p1) (by rw [t1]; exact q1), eqF_step (a := .int .i64 pc) n2 (by rw [t2, o2]; exact p2) (by rw [t2]; exact q2), eqF_step (a := V) n3 (by rw [t3, o3]; exact hp) (by rw [t3]; exact he)]
  rfl
theorem eqMf10 {m : Mf} (h : m.rt.length = 32) (w : World) : (Op.equalIn 10000 39 (.agg m.cells.toArray) (.agg m.cells.toArray)).run Tryd.prog w = .ok true w := eqMf (d := 9996) h w
end Go.Proofs.YtaklbofbhanjgaaDoor
