import Derived.Test.YtfhjiggaacgncaaDoorJd1
import Derived.Deep.RegionLaw
namespace Go.Proofs.YtfhjiggaacgncaaDoor
open Go.RowKit Go.Maps Go.Sort
set_option maxRecDepth 100000

/-- Bytes with others laid over them at a place. -/
def lay (S : List (BitVec 8)) (at_ : Nat) (b : List (BitVec 8)) : List (BitVec 8) := S.take at_ ++ b ++ S.drop (at_ + b.length)
theorem lay_len {S : List (BitVec 8)} {at_ : Nat} {b : List (BitVec 8)} (h : at_ + b.length ≤ S.length) : (lay S at_ b).length = S.length := by
  simp [lay]; omega
theorem lay_nil (S : List (BitVec 8)) (k : Nat) : lay S k [] = S := by simp [lay]
theorem bcells_app (a b : List (BitVec 8)) : bcells (a ++ b) = bcells a ++ bcells b := by simp [bcells]
theorem bcells_take (a : List (BitVec 8)) (n : Nat) : bcells (a.take n) = (bcells a).take n := by simp [bcells, List.map_take]
theorem bcells_drop (a : List (BitVec 8)) (n : Nat) : bcells (a.drop n) = (bcells a).drop n := by simp [bcells, List.map_drop]
theorem lay_cells {cur : List Value} {S b : List (BitVec 8)} {k : Nat} (h : cur.take S.length = bcells S) (hf : k + b.length ≤ S.length) :
    (cur.take k ++ bcells b ++ cur.drop (k + b.length)).take S.length = bcells (lay S k b) := by
  have hl : S.length ≤ cur.length := by
    have := congrArg List.length h
    rw [List.length_take, bcells_len] at this
    omega
  rw [lay, bcells_app, bcells_app, bcells_take, bcells_drop, ← h, List.take_take, Nat.min_eq_left (by omega), List.drop_take, List.append_assoc, List.append_assoc, List.take_append, List.take_append, bcells_len, List.length_take, Nat.min_eq_left (by omega : k ≤ cur.length)]
  rw [List.take_of_length_le (l := cur.take k) (by rw [List.length_take]; omega), List.take_of_length_le (l := bcells b) (by rw [bcells_len]; omega), Nat.sub_sub]
theorem run_copyB {w : World} {g c off n cp dLen dCap : Nat} {S bs : List (BitVec 8)} {a : Option Addr} (hO : OwnBy w 0 (.slice (some ⟨g, 0, none⟩) S.length c) S) (hB : BytesAt w a bs) (hn : bs.length = n) (hz : a = none → cp = 0)
    (hfit : off + n ≤ S.length) (hd : n ≤ dLen) :
    ∃ w', (Builtin.copy_ #[30, 30] 3 #[.slice (some ⟨g, off, none⟩) dLen dCap, .slice a n cp]).run Tryd.prog w = .ok (.int .i64 n) w' ∧ OwnBy w' 0 (.slice (some ⟨g, 0, none⟩) S.length c) (lay S off bs) ∧ Fr (fun x => x = g) w w' := by
  subst hn
  obtain ⟨hl, ⟨e, _⟩ | ⟨g', cap, cur, e, hb, hg, hnc, hcm, hcs, htk⟩⟩ := hO
  · cases e
  · cases e
    rw [Nat.mul_one] at htk hcs
    cases a with
    | none =>
      obtain rfl : bs = [] := by
        cases bs with
        | nil => rfl
        | cons b l => obtain ⟨g, o, e, _⟩ := hB 0 (by simp); cases e
      obtain rfl : cp = 0 := hz rfl
      refine ⟨w, run_copy_nil (P := Tryd.prog) w 30 30 3 5 _ _ _ Tryd.underlying30 (by kernel_rfl), ?_, Fr.refl _ _⟩
      rw [lay_nil]
      exact ⟨hl, .inr ⟨g, c, cur, rfl, hb, hg, hnc, hcm, by simpa using hcs, by simpa using htk⟩⟩
    | some ad =>
      have hrun := run_copy_row (P := Tryd.prog) w 30 30 3 5 g off dLen dCap ad bs.length cp cur 5 (bcells bs) Tryd.underlying30 (by kernel_rfl) hg (by rw [bcells_len]; exact (Nat.min_eq_left hd).symm) (fun j v hv => by
        have hj : j < bs.length := by
          have := (List.getElem?_eq_some_iff.1 hv).1
          rwa [bcells_len] at this
        obtain ⟨g2, o2, e2, c2⟩ := hB j hj
        cases e2
        rw [bcells_get hj] at hv
        rw [Addr.add_mid, c2]
        exact hv) (by rw [bcells_len, hcs]; omega) (bcells_one _)
      rw [bcells_len] at hrun
      refine ⟨_, hrun, ?_, ?_⟩
      · refine ⟨by rw [bcells_len, lay_len hfit, Nat.mul_one], .inr ⟨g, c, _, by rw [lay_len hfit], hb, setRow_heap w g _ _ 5 (0, 0) hg, by rw [lay_len hfit]; exact hnc, hcm, ?_, ?_⟩⟩
        · simp [bcells_len]
          omega
        · rw [lay_len hfit, Nat.mul_one]
          exact lay_cells htk hfit
      · exact ⟨rfl, rfl, rfl, by rw [setRow_size]; exact Nat.le_refl _, fun k _ hk => setRow_other w g k _ hk⟩
theorem step_copy_eq {ops : Array Oper} {o : Oper} {a : Act} {w : World} {K : Act → World → Prop} {Q : Exit → Act → World → Prop} {E : Prop} (hgd : o.guard = none) (d s : Operand)
    (ho : o.op = .call { callee := .builtin .copy, args := #[d, s], argTypes := #[30, 30] }) (hty : o.type = 3) (v u : Value) (hd : a.eval d = v) (hs : a.eval s = u) {v' : Value} {w' : World}
    (hr : (Builtin.copy_ #[30, 30] 3 #[v, u]).run Tryd.prog w = .ok v' w') (h : K (a.put o.dst v') w') :
    if Region.wanted o (yielded ops a.tmps) = true then Oper.wp Tryd.prog o a w K Q else E := by
  have hw : Region.wanted o (yielded ops a.tmps) = true := by simp [Region.wanted, hgd]
  rw [if_pos hw]
  rw [← hty] at hr
  unfold Oper.wp
  simp [execOp, ho, resolve, invoke, builtin, hd, hs, hr, Result.andThen]
  exact h
set_option maxHeartbeats 1000000 in
/-- A write onto bytes. -/
theorem onto_any {w : World} {g c at_ n cp : Nat} {S bs : List (BitVec 8)} {a : Option Addr} (hO : OwnBy w 0 (.slice (some ⟨g, 0, none⟩) S.length c) S) (hB : BytesAt w a bs) (hn : bs.length = n) (hz : a = none → cp = 0)
    (hfit : at_ + n ≤ S.length) (hat : at_ < S.length) :
    Calls Tryd.prog 44 #[.agg #[.int .i64 at_, .slice a n cp], .slice (some ⟨g, 0, none⟩) S.length c] w fun e w' => e = .returned (.tuple #[]) ∧ OwnBy w' 0 (.slice (some ⟨g, 0, none⟩) S.length c) (lay S at_ bs) ∧ Fr (fun x => x = g) w w' := by
  obtain ⟨_, _, e, hc1, hc2, _⟩ := own_len hO
  cases e
  unfold maxLen at hc2
  have i1 : (at_ : Int) ≤ S.length := by omega
  have i0 : (at_ : Int) < c := by omega
  have i4 : ¬ c = at_ := by omega
  have i5 : ¬ (c : Int) = at_ := by omega
  have i2 : (S.length : Int) ≤ c := by omega
  have i3 : (c : Int) ≤ 9223372036854775807 := by omega
  have hb := below_new w (.cells #[.int .i64 at_, .slice a n cp] 92)
  have hbd := below_drewN hb 1
  obtain ⟨w', hrun, hO', hF⟩ := run_copyB (w := (w.alloc (.cells #[.int .i64 at_, .slice a n cp] 92)).drewN 1) (dLen := S.length - at_) (dCap := c - at_) (own_below hO hbd) (hB.kept hbd) hn hz hfit (by omega)
  have HO := hid hO'
  have HF := hid ((Fr.of_below (S := fun x => x = g) hbd (Nat.le_refl _)).trans hF (fun x hx => .inl hx))
  have HR := hid hrun
  generalize S.length = L at *
  clear hO hB hn hz hO' hF hb hbd hrun hfit
  go_enter Tryd.func44, Tryd.ntmps44
  go_upto_region 1 with fail
  go_region_law (refine step_copy_eq rfl (.tmp 7) (.tmp 9) rfl rfl _ _ (by simp [Act.eval, Act.put]) (by simp [Act.eval, Act.put]) HR.out ?_)
  all_goals (refine bodyPost_end (results_none Tryd.results44 _ _ _) rfl ?_; exact ⟨rfl, HO.out, HF.out⟩)
end Go.Proofs.YtfhjiggaacgncaaDoor
