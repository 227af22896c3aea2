import Derived.Test.YtjeokomocopjhaaFa15
import Derived.Test.YtjeokomocopjhaaFa14
import Derived.Test.YtjeokomocopjhaaVw
namespace Go.Proofs.Ytjeokomocopjhaa
open Go.RowKit Go.Maps Go.Sort
set_option maxRecDepth 100000

theorem toK {n : Nat} {args : Array Value} {v : Value} {w : World} (h : ∀ w', Below w.heap.size w w' → Calls Try.prog n args w' fun e w'' => e = .returned v ∧ Below w'.heap.size w' w'') (d : Nat) (os : Array Obj) : Calls Try.prog n args (grow (redrawn w d) os) fun e w'' => e = .returned v ∧ ∃ q : Regrown, w'' = grow (redrawn w q.d) q.os := by
  have hb := below_regrown w d os
  refine (h _ hb).mono ?_
  rintro e w' ⟨rfl, hb'⟩
  exact ⟨rfl, regrown_of_below (hb.trans (hb'.mono hb.size))⟩
/-- A Fair whose memory lies from s0 up to s1. -/
def FaB (s0 s1 : Nat) (w : World) (p : Nat) (F : Fs) : Prop := F.Ok ∧ s0 ≤ w.heap.size ∧ ∃ b V, FaAt w p b V F ∧ ∀ k, Foot p b V F k → s0 ≤ k ∧ k < s1
theorem Fa.toB {s0 p : Nat} {w : World} {F : Fs} (h : Fa s0 w p F) : FaB s0 w.heap.size w p F := by
  obtain ⟨k, hs, b, V, hA, hf⟩ := h
  exact ⟨k, hs, b, V, hA, fun j hj => ⟨hf j hj, hA.lt hj⟩⟩
theorem FaB.below {s0 s1 p : Nat} {w w' : World} {F : Fs} (h : FaB s0 s1 w p F) (hb : Below w.heap.size w w') : FaB s0 s1 w' p F := by
  obtain ⟨k, hs, b, V, hA, hf⟩ := h
  exact ⟨k, Nat.le_trans hs hb.size, b, V, hA.below hb, hf⟩
theorem FaB.fa {s0 s1 p : Nat} {w : World} {F : Fs} (h : FaB s0 s1 w p F) : Fa s0 w p F := by
  obtain ⟨k, hs, b, V, hA, hf⟩ := h
  exact ⟨k, hs, b, V, hA, fun j hj => (hf j hj).1⟩
theorem fab_next {s0 s1 p : Nat} {w : World} {F : Fs} (h : FaB s0 s1 w p F) {most : Int} (hm : 1 ≤ most) {x : Ln} {B : List Int} (t : F.Turn x B) :
    Calls Try.prog 11 #[pt p 0, .int .i64 most] w fun e w' => e = .returned (.tuple #[.agg #[.int .u64 x.num, .int .i64 (x.tk F.q most)], .bool true]) ∧ Fa s0 w' p (F.next x most B) ∧ Mo s0 w w' ∧ ∀ g c ty, Row w g c ty → s1 ≤ g → Row w' g c ty := by
  obtain ⟨k, hs, b, V, hA, hf⟩ := h
  have hx := t.mem
  have hl := k.rlen (k.cls x hx)
  have hw : 0 < x.s.wt := ((k.one hx (fun s => s.cls = x.s.cls ∧ 0 < s.wt)).1 ((k.row _ (k.cls x hx) _).1 (by rw [t.row]; simp))).2
  refine (next_some hA hm hx (k.cls x hx) t.low t.row (by omega) (k.num x hx).1 (k.num x hx).2 k.q0 k.q1 (k.shr x hx).1 (k.shr x hx).2 hw (k.wt x hx).2 (k.cr' hx).1 (k.cr' hx).2).mono ?_
  rintro e w' ⟨rfl, V', m⟩
  have h2 := m.fa hA hs (fun j hj => (hf j hj).1) (k.next hx hm t.row)
  exact ⟨rfl, h2.1, h2.2, fun g c ty hr hg => m.fr.row hr (fun hk => by have := (hf g hk).2; omega)⟩
/-- Whatever is added, taken out or said. -/
theorem fa_add_any {s0 p : Nat} {w : World} {F : Fs} (h : Fa s0 w p F) {id : Int} (cls shr : Int) (h0 : 0 ≤ id) (h1 : id ≤ 18446744073709551615) :
    Calls Try.prog 9 #[pt p 0, .int .u64 id, .int .i64 cls, .int .i64 shr] w fun e w' => ∃ v F', e = .returned v ∧ Fa s0 w' p F' ∧ Mo s0 w w' := by
  by_cases hE : F.addE id cls shr = 0
  · obtain ⟨_, hc0, _⟩ := addE_ok hE
    obtain ⟨c, rfl⟩ : ∃ c : Nat, cls = (c : Int) := ⟨cls.toNat, by omega⟩
    exact (fa_add h h0 h1 hE).mono (fun _ _ ⟨he, _, hF, hM⟩ => ⟨_, _, he, hF, hM⟩)
  · refine (fa_add_no h h0 h1 hE).mono ?_
    rintro e w' ⟨rfl, rfl⟩
    exact ⟨_, F, rfl, h, Mo.of_below (Below.refl _ _) h.size⟩
theorem fa_remove_any {s0 p : Nat} {w : World} {F : Fs} (h : Fa s0 w p F) {id : Int} (h0 : 0 ≤ id) (h1 : id ≤ 18446744073709551615) :
    Calls Try.prog 12 #[pt p 0, .int .u64 id] w fun e w' => ∃ v F', e = .returned v ∧ Fa s0 w' p F' ∧ Mo s0 w w' := by
  cases hf : fnd F.U id with
  | some x => exact (fa_remove h hf).mono (fun _ _ ⟨he, hF, hM⟩ => ⟨_, _, he, hF, hM⟩)
  | none =>
    refine (fa_remove_none h h0 h1 hf).mono ?_
    rintro e w' ⟨rfl, rfl⟩
    exact ⟨_, F, rfl, h, Mo.of_below (Below.refl _ _) h.size⟩
theorem next_waits {F : Fs} (k : F.Ok) {x : Ln} {B : List Int} (t : F.Turn x B) {most : Int} : (F.next x most B).waits = F.waits - x.tk F.q most := by
  show waitL _ (F.next x most B).U = _
  rw [next_U, waitL_upd k.rise t.mem]
  show F.waits - x.s.wt + _ = _
  have : (if (x.aft F.q most).wt = 0 ∨ (x.aft F.q most).cr = 0 then (x.aft F.q most).over else x.aft F.q most).wt = x.s.wt - x.tk F.q most := by split <;> rfl
  rw [this]
  omega
/-- What is given, and that no lower class waits. -/
theorem turn_bd {F : Fs} (k : F.Ok) {x : Ln} {B : List Int} (t : F.Turn x B) {most : Int} (hm : 1 ≤ most) : 1 ≤ x.tk F.q most ∧ x.tk F.q most ≤ most ∧ x.tk F.q most ≤ x.s.wt ∧ 0 < x.s.wt ∧ ∀ y ∈ F.U, 0 < y.s.wt → x.s.cls ≤ y.s.cls := by
  have hx := t.mem
  have hw : 0 < x.s.wt := ((k.one hx (fun s => s.cls = x.s.cls ∧ 0 < s.wt)).1 ((k.row _ (k.cls x hx) _).1 (by rw [t.row]; simp))).2
  obtain ⟨hC1, hC2⟩ := Ln.cr1_bd k hx
  have hT : 1 ≤ x.tk F.q most ∧ x.tk F.q most ≤ most ∧ x.tk F.q most ≤ x.s.wt := by unfold Ln.tk; omega
  refine ⟨hT.1, hT.2.1, hT.2.2, hw, fun y hy hyw => ?_⟩
  rcases Nat.lt_or_ge y.s.cls x.s.cls with h | h
  · have := (k.row _ (k.cls y hy) y.num).2 ⟨y, hy, rfl, rfl, hyw⟩
    rw [t.low _ h] at this
    cases this
  · exact h
/-- A call of the script. -/
structure OpF where
  kind : Int
  other : Bool
  id : Int
  cls : Int
  shr : Int
  n : Int
def OpF.cells (o : OpF) : List Value := [.int .i64 o.kind, .bool o.other, .int .u64 o.id, .int .i64 o.cls, .int .i64 o.shr, .int .i64 o.n]
structure OpsAt (w : World) (a : Option Addr) (S : List OpF) : Prop where
  at_ : ∀ k (h : k < S.length), ∃ g o, a = some ⟨g, o, none⟩ ∧ ∀ j v, S[k].cells[j]? = some v → w.cell? ⟨g, o + k * 6 + j, none⟩ = some v
  id0 : ∀ o ∈ S, 0 ≤ o.id ∧ o.id ≤ 18446744073709551615
theorem eq31z (w : World) : (Op.equalIn 10000 31 (.agg #[.int .u64 0, .int .i64 0]) (.agg #[.int .u64 0, .int .i64 0])).run Try.prog w = .ok true w := by kernel_rfl
theorem flat_row {w : World} {g : Nat} {L : List Ln} (h : Row w g (flatI L) 44) {i : Nat} (hi : i < L.length) : w.cell? ⟨g, i * 5, none⟩ = some (.int .u64 L[i].num) ∧ w.cell? ⟨g, i * 5 + 1, none⟩ = some (.int .i64 L[i].s.cls) ∧ w.cell? ⟨g, i * 5 + 3, none⟩ = some (.int .i64 L[i].s.wt) := by
  obtain ⟨h0, h1, _, h3, _⟩ := flatI_get L i hi
  exact ⟨h.cell _ _ h0, h.cell _ _ h1, h.cell _ _ h3⟩
end Go.Proofs.Ytjeokomocopjhaa
