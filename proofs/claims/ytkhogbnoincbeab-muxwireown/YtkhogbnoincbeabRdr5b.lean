import Derived.Test.YtkhogbnoincbeabRdr5
import Derived.Test.YtkhogbnoincbeabRegL
namespace Go.Proofs.Ytkhogbnoincbeab
open Go.RowKit Go.Maps Go.Sort
set_option maxRecDepth 100000

section
variable {P : Program} {ops : Array Oper} {Q : Exit → Act → World → Prop} {md : Region.Mode} {S : World → Prop} {N : Nat}
/-- Two may come up. -/
theorem wpAnyF_two {i j : Nat} {o o' : Oper} {fuel : Nat} {listed : Array Bool} {a : Act} {w : World} (ho : ops[i]? = some o) (ho' : ops[j]? = some o') (hg : o.guard = none) (hg' : o'.guard = none) (hr : Region.ready md ops listed = [i, j])
    (h : o.wp P a w (fun a' w' => (i ≠ N → S w') ∧ wpAnyF P md ops Q S N fuel (listed.setIfInBounds i true) a' w') Q) (h' : o'.wp P a w (fun a' w' => (j ≠ N → S w') ∧ wpAnyF P md ops Q S N fuel (listed.setIfInBounds j true) a' w') Q) : wpAnyF P md ops Q S N (fuel + 1) listed a w := by
  refine ⟨fun h0 => (by rw [hr] at h0; cases h0), fun k hk => ?_⟩
  rw [hr] at hk
  rcases List.mem_cons.1 hk with e | hk
  · subst e
    unfold wpOp
    simp only [ho, Region.wanted, hg]
    exact .inl h
  · rw [List.mem_singleton] at hk
    subst hk
    unfold wpOp
    simp only [ho', Region.wanted, hg']
    exact .inl h'
end
theorem step_valueR {P : Program} {o : Oper} {a : Act} {w w' : World} {v : Value} {K : Act → World → Prop} {Q : Exit → Act → World → Prop} (e : (execOp a.eval o).run P w = .ok (.value v) w') (h : K (a.put o.dst v) w') : Oper.wp P o a w K Q := by
  unfold Oper.wp
  rw [e, Oper.upon_value]
  exact h
theorem step_callx {P : Program} {o : Oper} {a : Act} {w : World} {K : Act → World → Prop} {Q : Exit → Act → World → Prop} {f : FuncId} {args : Array Value} {G : Value → World → Prop} (e : (execOp a.eval o).run P w = .ok (.enter f args) w)
    (hc : Calls P f args w fun e w' => ∃ v, e = .returned v ∧ G v w') (h : ∀ v w', G v w' → K (a.put o.dst v) w') : Oper.wp P o a w K Q := by
  unfold Oper.wp
  rw [e, Oper.upon_enter]
  refine Calls.mono hc ?_
  rintro e w' ⟨v, rfl, hg⟩
  exact h v w' hg
theorem step_alloc25 {o : Oper} {a : Act} {w : World} {K : Act → World → Prop} {Q : Exit → Act → World → Prop} (ho : o.op = .alloc 41) (h : K (a.put o.dst (.pointer (some ⟨w.heap.size, 0, none⟩))) (w.alloc (.cells #[.int .i64 0, .int .u64 0, .int .u64 0, .int .i64 0, .int .i64 0, .slice none 0 0] 41))) : Oper.wp Try.prog o a w K Q :=
  step_valueR (w' := w.alloc (.cells #[.int .i64 0, .int .u64 0, .int .u64 0, .int .i64 0, .int .i64 0, .slice none 0 0] 41)) (by generalize a.eval = r at *; simp [execOp, ho, go_sem]) h
theorem step_store25 {o : Oper} {a : Act} {w : World} {K : Act → World → Prop} {Q : Exit → Act → World → Prop} {x1 x2 : Operand} {b : Nat} {k s n c h : Int} {av : Option Addr} {l cap : Nat} (ho : o.op = .store 41 x1 x2) (hx : a.eval x1 = .pointer (some ⟨b, 0, none⟩)) (hy : a.eval x2 = .agg #[.int .i64 k, .int .u64 s, .int .u64 n, .int .i64 c, .int .i64 h, .slice av l cap])
    (R : Row w b [.int .i64 0, .int .u64 0, .int .u64 0, .int .i64 0, .int .i64 0, .slice none 0 0] 41) (hK : K (a.put o.dst undef) (six w b k s n c h (.slice av l cap))) : Oper.wp Try.prog o a w K Q := by
  have z0 := R.cell 0 _ rfl
  have z1 := R.cell 1 _ rfl
  have z2 := R.cell 2 _ rfl
  have z3 := R.cell 3 _ rfl
  have z4 := R.cell 4 _ rfl
  have z5 := R.cell 5 _ rfl
  have f0 := R.frozen 0
  have f1 := R.frozen 1
  have f2 := R.frozen 2
  have f3 := R.frozen 3
  have f4 := R.frozen 4
  have f5 := R.frozen 5
  have e : (execOp a.eval o).run Try.prog w = .ok .skip (six w b k s n c h (.slice av l cap)) := by
    unfold six
    generalize a.eval = r at *
    simp [execOp, ho, hx, hy, z0, z1, z2, z3, z4, z5, f0, f1, f2, f3, f4, f5, go_sem]
  unfold Oper.wp
  rw [e]
  exact hK
theorem Dt.frT {w w' : World} {B : Nat} {d : Value} {bs : List (BitVec 8)} {S : Nat → Prop} (H : Dt w B d bs) (hf : Fr S w w') (hS : ∀ g c, Row w g c 5 → B ≤ g → ¬ S g) : Dt w' B d bs := by
  rcases H with H | ⟨g, h1, h2, h3⟩
  · exact .inl H
  · exact .inr ⟨g, h1, hf.row h2 (hS g _ h2 h3), h3⟩
/-- A Reader where only one row of frames is turned. -/
theorem Rdr.frB {B : Nat} {w w' : World} {q p : Nat} {v : Value} {all : List (BitVec 8)} {left : Nat} {at_ fault : Int} (H : Rdr B w q p v all left at_ fault) {bx : Nat} {c : List Value} (hb : Row w bx c 41) (hf : Fr (fun x => x = bx) w w') : Rdr B w' q p v all left at_ fault :=
  ⟨hf.row H.row (fun e => by have := row_type (by rw [← e]; exact H.row) hb; cases this), H.sc.fr hf (fun j hj e => sc_type H.sc hj (by rw [e]; exact hb) (by decide) (by decide)), hf.own H.own (fun x hx e => by have := own_type H.own hx (by rw [e]; exact hb); cases this), H.le, H.bq, H.bp⟩
/-- A Reader behind take. -/
theorem Rdr.took {B : Nat} {w w' : World} {q p : Nat} {v : Value} {all : List (BitVec 8)} {left : Nat} {at_ fault : Int} (H : Rdr B w q p v all left at_ fault) (hf : Fr (fun x => x = p) w w') (hs : Sc w' p (.slice none 0 0) 0 0 0 0 0 (.slice none 0 0)) : Rdr B w' q p v all left at_ fault :=
  ⟨hf.row H.row (fun e => by have := row_type (by rw [← e]; exact H.row) H.sc.row; cases this), hs, hf.own H.own (fun x hx e => by have := own_type H.own hx (by rw [e]; exact H.sc.row); cases this), H.le, H.bq, H.bp⟩
/-- All that stands behind the reading of a frame. -/
structure Nx (B : Nat) (w : World) (q p b0 bx : Nat) (v : Value) (all : List (BitVec 8)) (left : Nat) (at_ : Int) (G : PF) (d : Value) (W : World) : Prop where
  box : Row W bx [.int .i64 G.k, .int .u64 G.s, .int .u64 G.n, .int .i64 G.c, .int .i64 G.h, d] 41
  res : Row W b0 [.int .i64 0, .int .u64 0, .int .u64 0, .int .i64 0, .int .i64 0, .slice none 0 0] 41
  ne : bx ≠ b0
  rd : Rdr B W q p v all left at_ 0
  dt : Dt W w.heap.size d G.bs
  fr : Fr (fun x => x = p) w W
  ge : w.heap.size ≤ bx
  g0 : w.heap.size ≤ b0
theorem Nx.mk' {B : Nat} {w W : World} {q p b0 bx : Nat} {v : Value} {all : List (BitVec 8)} {left : Nat} {at_ : Int} {G : PF} {d : Value} (hbx : Row W bx [.int .i64 0, .int .u64 0, .int .u64 0, .int .i64 0, .int .i64 0, .slice none 0 0] 41)
    (hb0 : Row W b0 [.int .i64 0, .int .u64 0, .int .u64 0, .int .i64 0, .int .i64 0, .slice none 0 0] 41) (hne : bx ≠ b0) (hR : Rdr B W q p v all left at_ 0) (hd : Dt W w.heap.size d G.bs) (hf : Fr (fun x => x = p) w W) (hge : w.heap.size ≤ bx) (hg0 : w.heap.size ≤ b0) :
    Nx B w q p b0 bx v all left at_ G d (six W bx G.k G.s G.n G.c G.h d) := by
  have F := six_fr W bx G.k G.s G.n G.c G.h d
  refine ⟨six_row _ _ _ _ _ _ hbx, F.row hb0 (fun e => hne e.symm), hne, hR.frB hbx F, hd.frT F (fun g c hr _ e => ?_), hf.trans F (fun x e => .inr (by rw [e]; exact hge)), hge, hg0⟩
  have := row_type (by rw [← e]; exact hr) hbx
  cases this
end Go.Proofs.Ytkhogbnoincbeab
