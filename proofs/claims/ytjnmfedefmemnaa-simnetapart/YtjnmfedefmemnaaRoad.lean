import Derived.Test.YtjnmfedefmemnaaBag
import Derived.Deep.RegionHeld3
import Derived.Deep.RegionLaw
import Derived.Deep.DrawnRows
namespace Go.Proofs.Ytjnmfedefmemnaa
open Go.RowKit
set_option maxRecDepth 100000
attribute [local go_sem ↓] Go.wp_at_zero Go.wp_at_succ

/-- append and copy by their runs. -/
theorem wp_append_by {P : Program} {w : World} {o : Oper} {a : Act} {K : Act → World → Prop} {Q : Exit → Act → World → Prop} (s x : Operand) (t : TypeId)
    (ho : o.op = .call { callee := .builtin .append, args := #[s, x], argTypes := #[t, t] }) {v u v' : Value} {w' : World} (hs : a.eval s = v) (hx : a.eval x = u)
    (hr : (Builtin.append_ #[t, t] o.type #[v, u]).run P w = .ok v' w') (h : K (a.put o.dst v') w') : o.wp P a w K Q := by
  unfold Oper.wp execOp
  simp only [ho, resolve, invoke, builtin, Sem.run_bind, Sem.run_pure, Result.andThen_ok, List.map_toArray, List.map_cons, List.map_nil, hs, hx, hr]
  exact h
theorem wpList_append_by {P : Program} {w : World} {ops : Array Oper} {rest : List Oper} {o : Oper} {a : Act} {Q : Exit → Act → World → Prop} (hgd : o.guard = none) (s x : Operand) (t : TypeId)
    (ho : o.op = .call { callee := .builtin .append, args := #[s, x], argTypes := #[t, t] }) {v u v' : Value} {w' : World} (hs : a.eval s = v) (hx : a.eval x = u)
    (hr : (Builtin.append_ #[t, t] o.type #[v, u]).run P w = .ok v' w') (h : wpList P ops Q rest (a.put o.dst v') w') : wpList P ops Q (o :: rest) a w :=
  wpList_plain hgd fun _ hK => wp_append_by s x t ho hs hx hr (hK _ _ h)
theorem step_append_by {P : Program} {w : World} {ops : Array Oper} {o : Oper} {a : Act} {K : Act → World → Prop} {Q : Exit → Act → World → Prop} {E : Prop} (hgd : o.guard = none) (s x : Operand) (t : TypeId)
    (ho : o.op = .call { callee := .builtin .append, args := #[s, x], argTypes := #[t, t] }) {v u v' : Value} {w' : World} (hs : a.eval s = v) (hx : a.eval x = u)
    (hr : (Builtin.append_ #[t, t] o.type #[v, u]).run P w = .ok v' w') (h : K (a.put o.dst v') w') : if Region.wanted o (yielded ops a.tmps) = true then Oper.wp P o a w K Q else E := by
  have hw : Region.wanted o (yielded ops a.tmps) = true := by simp [Region.wanted, hgd]
  rw [if_pos hw]
  exact wp_append_by s x t ho hs hx hr h
theorem wp_copy_by {P : Program} {w : World} {o : Oper} {a : Act} {K : Act → World → Prop} {Q : Exit → Act → World → Prop} (s x : Operand) (t : TypeId)
    (ho : o.op = .call { callee := .builtin .copy, args := #[s, x], argTypes := #[t, t] }) {v u v' : Value} {w' : World} (hs : a.eval s = v) (hx : a.eval x = u)
    (hr : (Builtin.copy_ #[t, t] o.type #[v, u]).run P w = .ok v' w') (h : K (a.put o.dst v') w') : o.wp P a w K Q := by
  unfold Oper.wp execOp
  simp only [ho, resolve, invoke, builtin, Sem.run_bind, Sem.run_pure, Result.andThen_ok, List.map_toArray, List.map_cons, List.map_nil, hs, hx, hr]
  exact h
theorem step_copy_by {P : Program} {w : World} {ops : Array Oper} {o : Oper} {a : Act} {K : Act → World → Prop} {Q : Exit → Act → World → Prop} {E : Prop} (hgd : o.guard = none) (s x : Operand) (t : TypeId)
    (ho : o.op = .call { callee := .builtin .copy, args := #[s, x], argTypes := #[t, t] }) {v u v' : Value} {w' : World} (hs : a.eval s = v) (hx : a.eval x = u)
    (hr : (Builtin.copy_ #[t, t] o.type #[v, u]).run P w = .ok v' w') (h : K (a.put o.dst v') w') : if Region.wanted o (yielded ops a.tmps) = true then Oper.wp P o a w K Q else E := by
  have hw : Region.wanted o (yielded ops a.tmps) = true := by simp [Region.wanted, hgd]
  rw [if_pos hw]
  exact wp_copy_by s x t ho hs hx hr h

set_option maxHeartbeats 400000 in
theorem paths_at {w : World} {p n cap : Nat} {a : Option Addr} (h : w.cell? ⟨p, 0, none⟩ = some (.slice a n cap)) : Calls Try.prog 19 #[.pointer (some ⟨p, 0, none⟩)] w fun e w' => e = .returned (.int .i64 n) ∧ w' = w := by
  go_enter Try.func19, Try.ntmps19
  go_wp2
  go_ret
  exact ⟨rfl, rfl⟩
set_option maxHeartbeats 400000 in
theorem road_in {w : World} {p n g k : Nat} (h : w.cell? ⟨p, 0, none⟩ = some (.slice (some ⟨g, 0, none⟩) n n)) (hk : k < n) : Calls Try.prog 34 #[.pointer (some ⟨p, 0, none⟩), .int .i64 k] w fun e w' => e = .returned (.pointer (some ⟨g, k * 16, none⟩)) ∧ w' = w := by
  have HP := hid (paths_at h)
  have h1 : decide ((k : Int) < 0) = false := by simp
  have h2 : decide ((n : Int) ≤ (k : Int)) = false := by simp; omega
  have h3 : decide ((k : Int) ≥ (n : Int)) = false := by simp; omega
  have h4 : (k : Int) < (n : Int) := by omega
  go_enter Try.func34, Try.ntmps34
  go_wp2_with (go_at_call 19; refine Calls.mono HP.out ?_; rintro e w' ⟨rfl, rfl⟩)
  go_ret
  exact ⟨rfl, rfl⟩
set_option maxHeartbeats 400000 in
theorem bag_in {w : World} {p n g k d : Nat} (h : w.cell? ⟨p, 0, none⟩ = some (.slice (some ⟨g, 0, none⟩) n n)) (hk : k < n) (hd : d < 2) : Calls Try.prog 23 #[.pointer (some ⟨p, 0, none⟩), .int .i64 k, .int .i64 d] w fun e w' => e = .returned (.tuple #[.pointer (some ⟨g, k * 16, none⟩), .int .i64 0]) ∧ w' = w := by
  have HP := hid (road_in h hk)
  have h1 : decide ((d : Int) < 0) = false := by simp
  have h2 : decide ((2 : Int) ≤ (d : Int)) = false := by simp; omega
  have h3 : decide ((d : Int) ≥ 2) = false := by simp; omega
  clear h hk
  go_enter Try.func23, Try.ntmps23
  go_wp2_with (go_at_call 34; refine Calls.mono HP.out ?_; rintro e w' ⟨rfl, rfl⟩)
  go_ret2
  exact ⟨rfl, rfl⟩
set_option maxHeartbeats 1000000 in
theorem full_any {w : World} {g b n cap d : Nat} {a : Option Addr} {C : Int} (hd : d < 2) (h1 : w.cell? ⟨g, b + 1, none⟩ = some (.int .i64 C)) (h2 : w.cell? ⟨g, b + 14 + d, none⟩ = some (.slice a n cap)) :
    Calls Try.prog 24 #[.pointer (some ⟨g, b, none⟩), .int .i64 d] w fun e w' => e = .returned (.bool (decide (C ≤ n))) ∧ ∃ q, w' = w.drewN q := by
  have k1 : (0 : Int) ≤ (d : Int) := by omega
  have k2 : (d : Int) < 2 := by omega
  go_enter Try.func24, Try.ntmps24
  go_wp2
  go_quiet (fail)
  go_wp2
  go_ret
  exact ⟨rfl, nq, rfl⟩
set_option maxHeartbeats 1000000 in
theorem lay_any {w : World} {g b d q : Nat} {c : List Value} {v : Value} {qs : List Nat} (R : Row w g c 67) (hd : d < 2) (hv : c[b + 14 + d]? = some v) (hB : BagAt w v qs) (hl : qs.length ≤ 1073741824) :
    Calls Try.prog 25 #[.pointer (some ⟨g, b, none⟩), .int .i64 d, .pointer (some ⟨q, 0, none⟩)] w fun e w' => e = .returned (.tuple #[]) ∧ ∃ v', Row w' g (c.set (b + 14 + d) v') 67 ∧ BagAt w' v' (qs ++ [q]) ∧ Only (g :: blk v) w w' ∧ (∀ x ∈ blk v', x ∈ blk v ∨ w.heap.size ≤ x) := by
  have k1 : (0 : Int) ≤ (d : Int) := by omega
  have k2 : (d : Int) < 2 := by omega
  have c1 := R.cell _ _ hv
  have hba : Below w.heap.size w (w.alloc (.cells #[.pointer (some ⟨q, 0, none⟩)] 73)).drew := ((Below.refl _ _).alloc (Nat.le_refl _) _).drew
  have hcell : (w.alloc (.cells #[.pointer (some ⟨q, 0, none⟩)] 73)).drew.cell? ⟨w.heap.size, 0, none⟩ = some (ptr q) := (Row.new w [ptr q] 73).cell 0 _ rfl
  obtain ⟨v', w1, hrun, hB1, ho1, hx1⟩ := append_bag (hB.kept hba) q w.heap.size 64 hcell hl
  obtain ⟨a, cap, rfl⟩ := hB.shape
  have hgn : g ∉ blk (.slice a qs.length cap) := fun hm => by
    obtain ⟨c', R'⟩ := hB.blkRow g hm
    exact absurd (R.type R') (by decide)
  have R1 := ho1.row (R.kept hba R.lt) hgn
  have c2 := R1.cell _ _ hv
  have f2 := R1.frozen (b + 14 + d)
  obtain ⟨a', cap', rfl⟩ := hB1.shape
  have HFIN : Hid (∃ v', Row (w1.setCell ⟨g, b + 14 + d, none⟩ (.slice a' (qs ++ [q]).length cap')) g (c.set (b + 14 + d) v') 67 ∧ BagAt (w1.setCell ⟨g, b + 14 + d, none⟩ (.slice a' (qs ++ [q]).length cap')) v' (qs ++ [q]) ∧ Only (g :: blk (.slice a qs.length cap)) w (w1.setCell ⟨g, b + 14 + d, none⟩ (.slice a' (qs ++ [q]).length cap')) ∧ (∀ x ∈ blk v', x ∈ blk (.slice a qs.length cap) ∨ w.heap.size ≤ x)) := by
    have hgn' : ∀ x ∈ blk (.slice a' (qs ++ [q]).length cap'), x ≠ g := fun x hx e => by
      subst e
      rcases hx1 x hx with h | h
      · exact hgn h
      · have := R.lt
        have := hba.size
        omega
    refine ⟨_, R1.set _ _, ?_, ?_, fun x hx => ?_⟩
    · exact hB1.only ((Only.refl [g] w1).setCell g _ _ (.inl (by simp))) (fun x hx hm => hgn' x hx (by simpa using hm))
    · refine Only.setCell ?_ g _ _ (.inl (by simp))
      exact (Only.of_below (S := g :: blk (.slice a qs.length cap)) hba (Nat.le_refl _)).trans ho1 (fun x hx => .inl (List.mem_cons_of_mem _ hx))
    · rcases hx1 x hx with h | h
      · exact .inl h
      · exact .inr (Nat.le_trans hba.size h)
  have c3 := (R.alloc (.cells #[.pointer (some ⟨q, 0, none⟩)] 73)).cell _ _ hv
  rw [show (qs ++ [q]).length = qs.length + 1 by simp] at HFIN hrun
  clear hB R hv hl hba hcell hB1 ho1 hx1 hgn R1
  go_enter Try.func25, Try.ntmps25
  go_wp2_with fail
  have HRUN := hid hrun
  clear hrun
  go_region_law (refine step_append_by (by rfl) _ _ _ (by rfl) (by rfl) (by rfl) HRUN.out ?_)
  all_goals go_wp2
  all_goals go_end0
  all_goals exact ⟨rfl, HFIN.out⟩
end Go.Proofs.Ytjnmfedefmemnaa
