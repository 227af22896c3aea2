import Derived.Test.YtjnmfedefmemnabApart0
import Derived.Laws.StructEq
import Derived.Laws.Tables
import Derived.Laws.OwnMore
import Derived.Test.YtjnmfedefmemnabOpen1
namespace Go.Proofs.Ytjnmfedefmemnab
open Go.RowKit Go.Maps
set_option maxRecDepth 100000

/-- Of one path and direction: the counts add up, and what lies there was put there. -/
structure Sound (k d : Nat) (D : Dat) (puts : List OpV) : Prop where
  bal : (D.cn k (4 + d) + D.cn k (12 + d) - D.cn k (6 + d) - D.cn k (8 + d) - D.cn k (10 + d) - ((D.fd k d).length : Int)) % 18446744073709551616 = 0
  from_ : ∀ f ∈ D.fd k d, ∃ o ∈ puts, o.path = k ∧ o.dir = d ∧ o.frame = f.1
def putsOf (puts : List OpV) (o : OpV) : List OpV := if o.kind = 1 then puts ++ [o] else puts
theorem mem_putsOf {puts : List OpV} {o x : OpV} (h : x ∈ puts) : x ∈ putsOf puts o := by
  unfold putsOf
  split
  · exact List.mem_append_left _ h
  · exact h
theorem Sound.more {k d : Nat} {D : Dat} {puts : List OpV} (h : Sound k d D puts) (o : OpV) : Sound k d D (putsOf puts o) :=
  ⟨h.bal, fun f hf => by obtain ⟨x, hx, e⟩ := h.from_ f hf; exact ⟨x, mem_putsOf hx, e⟩⟩
theorem Sound.same {k d : Nat} {D E : Dat} {puts : List OpV} (h : Sound k d D puts) (s : SameAt k d E D) : Sound k d E puts :=
  ⟨by rw [s.cn 4 (by simp), s.cn 12 (by simp), s.cn 6 (by simp), s.cn 8 (by simp), s.cn 10 (by simp), s.fd]; exact h.bal, by rw [s.fd]; exact h.from_⟩
theorem bump_eq (x : Int) : bump x = (x + 1) % 18446744073709551616 := by unfold bump; rw [IntKind.wrap_u64]
theorem at_mem {D : Dat} {k d j : Nat} (hj : j < (D.fd k d).length) : D.at k d j ∈ D.fd k d := by
  unfold Dat.at
  simp only [Int.toNat_natCast]
  rw [List.getD_eq_getElem?_getD, List.getElem?_eq_getElem hj]
  exact List.getElem_mem hj
section
variable {k d n : Nat} {D : Dat} {puts : List OpV}
theorem upd_far {α : Type} (f : Nat → Nat → α) (k i j : Nat) (v : α) (h : i ≠ j) : upd f k j v k i = f k i := upd_other _ _ _ _ (fun e => h e.2)
theorem Sound.put (h : Sound k d D puts) (o : OpV) (hp : o.path = k) (hdd : o.dir = d) (hk1 : o.kind = 1) : Sound k d (D.put n k d o.frame) (putsOf puts o) := by
  have h' := h.more o
  unfold Dat.put
  simp only [Int.toNat_natCast]
  split
  · exact h'
  split
  · exact h'
  split
  · refine ⟨?_, fun f hf => ?_⟩
    · simp only [upd_same]
      rw [upd_far _ _ _ _ _ (by omega), upd_far _ _ _ _ _ (by omega), upd_far _ _ _ _ _ (by omega), upd_far _ _ _ _ _ (by omega), bump_eq]
      have := h.bal
      simp only [List.length_append, List.length_cons, List.length_nil]
      omega
    · simp only [upd_same] at hf
      rcases List.mem_append.1 hf with hf | hf
      · exact h'.from_ f hf
      · have e : f = (o.frame, fun _ => 0) := by simpa using hf
        subst e
        exact ⟨o, by unfold putsOf; rw [if_pos hk1]; simp, hp, hdd, rfl⟩
  · refine ⟨?_, h'.from_⟩
    simp only [upd_same]
    rw [upd_far _ _ (4 + d) _ _ (by omega), upd_same, upd_far _ _ (12 + d) _ _ (by omega), upd_far _ _ (12 + d) _ _ (by omega), upd_far _ _ (8 + d) _ _ (by omega), upd_far _ _ (8 + d) _ _ (by omega), upd_far _ _ (10 + d) _ _ (by omega), upd_far _ _ (10 + d) _ _ (by omega), bump_eq, bump_eq]
    have := h.bal
    omega
theorem Sound.take (h : Sound k d D puts) (z : Int) : Sound k d (D.take n k d z) puts := by
  unfold Dat.take
  split
  · rename_i he
    obtain ⟨k', d', j, e1, e2, rfl, _, _, hj, _⟩ := Dat.err_zero he
    obtain rfl : k = k' := by omega
    obtain rfl : d = d' := by omega
    simp only [Int.toNat_natCast]
    refine ⟨?_, fun f hf => ?_⟩
    · simp only [upd_same]
      rw [upd_far _ _ _ _ _ (by omega), upd_far _ _ _ _ _ (by omega), upd_far _ _ _ _ _ (by omega), upd_far _ _ _ _ _ (by omega), bump_eq]
      have := h.bal
      rw [List.length_eraseIdx_of_lt hj]
      omega
    · simp only [upd_same] at hf
      exact h.from_ f (List.mem_of_mem_eraseIdx hf)
  · exact h
theorem Sound.drop (h : Sound k d D puts) (z : Int) : Sound k d (D.drop n k d z) puts := by
  unfold Dat.drop
  split
  · rename_i he
    obtain ⟨k', d', j, e1, e2, rfl, _, _, hj, _⟩ := Dat.err_zero he
    obtain rfl : k = k' := by omega
    obtain rfl : d = d' := by omega
    simp only [Int.toNat_natCast]
    refine ⟨?_, fun f hf => ?_⟩
    · simp only [upd_same]
      rw [upd_far _ _ _ _ _ (by omega), upd_far _ _ _ _ _ (by omega), upd_far _ _ _ _ _ (by omega), upd_far _ _ _ _ _ (by omega), bump_eq]
      have := h.bal
      rw [List.length_eraseIdx_of_lt hj]
      omega
    · simp only [upd_same] at hf
      exact h.from_ f (List.mem_of_mem_eraseIdx hf)
  · exact h
theorem Sound.double (h : Sound k d D puts) (z : Int) : Sound k d (D.double n k d z) puts := by
  unfold Dat.double
  split
  · rename_i he
    obtain ⟨k', d', j, e1, e2, rfl, _, _, hj, _⟩ := Dat.err_zero he.1
    obtain rfl : k = k' := by omega
    obtain rfl : d = d' := by omega
    simp only [Int.toNat_natCast]
    refine ⟨?_, fun f hf => ?_⟩
    · simp only [upd_same]
      rw [upd_far _ _ _ _ _ (by omega), upd_far _ _ _ _ _ (by omega), upd_far _ _ _ _ _ (by omega), upd_far _ _ _ _ _ (by omega), bump_eq]
      have := h.bal
      simp only [List.length_append, List.length_cons, List.length_nil]
      omega
    · simp only [upd_same] at hf
      rcases List.mem_append.1 hf with hf | hf
      · exact h.from_ f hf
      · have e : f = D.at k d j := by simpa using hf
        subst e
        exact h.from_ _ (at_mem hj)
  · exact h
theorem Sound.spoil (h : Sound k d D puts) (z a : Int) (m : BitVec 8) : Sound k d (D.spoil n k d z a m) puts := by
  unfold Dat.spoil
  split
  · rename_i he
    obtain ⟨k', d', j, e1, e2, rfl, _, _, hj, _⟩ := Dat.err_zero he.1
    obtain rfl : k = k' := by omega
    obtain rfl : d = d' := by omega
    simp only [Int.toNat_natCast]
    refine ⟨?_, fun f hf => ?_⟩
    · simp only [upd_same, List.length_set]
      exact h.bal
    · simp only [upd_same] at hf
      rcases List.mem_or_eq_of_mem_set hf with hf | rfl
      · exact h.from_ f hf
      · obtain ⟨x, hx, e⟩ := h.from_ _ (at_mem hj)
        exact ⟨x, hx, e⟩
  · exact h
theorem Sound.act (h : Sound k d D puts) (hd : d < 2) (o : OpV) : Sound k d (D.act n o) (putsOf puts o) := by
  by_cases hh : o.path = k ∧ (o.kind = 6 ∨ o.dir = d)
  · obtain ⟨hp, hor⟩ := hh
    unfold Dat.act
    rw [hp]
    by_cases h6 : o.kind = 6
    · simp only [h6]
      refine Sound.more ?_ o
      unfold Dat.set
      simp only [if_false, if_true, show ¬ (6 : Int) = 1 by decide, show ¬ (6 : Int) = 2 by decide, show ¬ (6 : Int) = 3 by decide, show ¬ (6 : Int) = 4 by decide, show ¬ (6 : Int) = 5 by decide]
      split
      · exact ⟨h.bal, h.from_⟩
      · exact h
    · have hdd : o.dir = d := hor.resolve_left h6
      rw [hdd]
      split
      · rename_i h1
        exact h.put o hp hdd h1
      refine Sound.more ?_ o
      split
      · exact h.take _
      split
      · exact h.drop _
      split
      · exact h.double _
      split
      · exact h.spoil _ _ _
      exact h
  · exact (h.same (far_act hd o hh)).more o
theorem act_cap (o : OpV) : (D.act n o).cap = D.cap := by
  unfold Dat.act Dat.put Dat.take Dat.drop Dat.double Dat.spoil Dat.set
  repeat' split
  all_goals rfl
theorem sp_none {T : Nat → BitVec 8} {f : List (BitVec 8)} (h : sp T f.length = false) : xorT f T = f := xorT_zero fun j hj => Classical.byContradiction fun hT => by
  have := (sp_iff T f.length).2 ⟨j, hj, hT⟩
  rw [h] at this
  cases this
/-- What a Take gives, where it is not spoilt, was put there. -/
theorem take_from (h : ∀ k d, k < n → d < 2 → Sound k d D puts) (o : OpV) (hh : D.hit n o = true) (hs : D.ansS n o = false) : ∃ x ∈ puts, x.path = o.path ∧ x.dir = o.dir ∧ x.frame = D.ansB n o := by
  have he := (of_decide_eq_true hh).2
  obtain ⟨k, d, j, e1, e2, e3, hk, hd, hj, _⟩ := Dat.err_zero he
  unfold Dat.ansS at hs
  unfold Dat.ansB
  rw [if_pos hh] at hs ⊢
  rw [sp_none hs, e1, e2, e3]
  obtain ⟨x, hx, h1, h2, h3⟩ := (h k d hk hd).from_ _ (at_mem hj)
  exact ⟨x, hx, h1, h2, h3⟩
end
theorem Sound.wrapped {k d : Nat} {D : Dat} {puts : List OpV} (h : Sound k d D puts) {L : Int} (hL : L = ((D.fd k d).length : Int)) :
    IntKind.u64.wrap (D.cn k (4 + d) + D.cn k (12 + d)) = IntKind.u64.wrap (IntKind.u64.wrap (IntKind.u64.wrap (D.cn k (6 + d) + D.cn k (8 + d)) + D.cn k (10 + d)) + L) := by
  simp only [IntKind.wrap_u64]
  have := h.bal
  subst hL
  omega
theorem Sound.new (k d : Nat) (cs : List Int) : Sound k d (newD cs) [] := ⟨rfl, fun f hf => by cases hf⟩
end Go.Proofs.Ytjnmfedefmemnab
namespace Go.Proofs.Ytjnmfedefmemnab
open Go.RowKit Go.Maps
set_option maxRecDepth 100000

theorem i37 : (Try.prog.info? 37).map (·.size) = some 9 := by kernel_rfl
theorem info37 : ∃ (i : TypeInfo) (z : Value), Try.prog.info? 37 = some i ∧ i.zero = some z ∧ i.size = 9 ∧ i.bytes = 80 ∧ z.cells.size = 9 := by
  have h : (Try.prog.info? 37).map (fun i => (i.zero.map fun z => z.cells.size, i.size, i.bytes)) = some (some 9, 9, 80) := by kernel_rfl
  cases hq : Try.prog.info? 37 with
  | none => rw [hq] at h; cases h
  | some i =>
    rw [hq] at h
    simp at h
    obtain ⟨⟨z, hz, hs⟩, h1, h2⟩ := h
    exact ⟨i, z, rfl, hz, h1, h2, hs⟩
theorem OpV.cells_len (o : OpV) : o.cells.length = 9 := rfl
theorem OpV.cells_one (o : OpV) : ∀ v ∈ o.cells, v.oneCell' = true := by simp [OpV.cells, Value.oneCell']
def flat (puts : List OpV) : List Value := puts.flatMap OpV.cells
theorem flat_len : ∀ puts : List OpV, (flat puts).length = puts.length * 9
  | [] => rfl
  | o :: r => by
    have := flat_len r
    simp only [flat, List.flatMap_cons, List.length_append, List.length_cons, OpV.cells_len] at *
    omega
theorem flat_snoc (puts : List OpV) (o : OpV) : flat (puts ++ [o]) = flat puts ++ o.cells := by simp [flat]
theorem flat_get : ∀ (puts : List OpV) (i j : Nat) (hi : i < puts.length) (_ : j < 9), (flat puts)[i * 9 + j]? = puts[i].cells[j]?
  | o :: r, 0, j, _, hj => by
    simp only [flat, List.flatMap_cons, Nat.zero_mul, Nat.zero_add, List.getElem_cons_zero]
    rw [List.getElem?_append_left (by rw [OpV.cells_len]; exact hj)]
  | o :: r, i + 1, j, hi, hj => by
    have h := flat_get r i j (by simpa using hi) hj
    simp only [flat, List.flatMap_cons, List.getElem_cons_succ] at *
    rw [List.getElem?_append_right (by rw [OpV.cells_len]; omega), OpV.cells_len, show (i + 1) * 9 + j - 9 = i * 9 + j by omega]
    exact h
/-- The list of what was put, as the law keeps it. -/
structure PutsAt (W w : World) (pv : Value) (puts : List OpV) : Prop where
  own : w.ownsRow W.heap.size 37 9 pv puts.length (flat puts)
  fr : ∀ o ∈ puts, BytesAt W o.fa o.frame
section
variable {W w w' : World} {pv : Value} {puts : List OpV}
theorem PutsAt.spared (h : PutsAt W w pv puts) (s : Spares w w') : PutsAt W w' pv puts := by
  refine ⟨?_, h.fr⟩
  obtain ⟨h1, h2 | ⟨g, cap, cur, e, hb, hh, rest⟩⟩ := h.own
  · exact ⟨h1, .inl h2⟩
  · have r : Row w g cur.toList 37 := ⟨by simpa using hh⟩
    have r' := (s _ _ _ (by decide) (by decide) (by decide) r).at_
    exact ⟨h1, .inr ⟨g, cap, cur, e, hb, by simpa using r', rest⟩⟩
theorem PutsAt.kept (h : PutsAt W w pv puts) (hb : Below w.heap.size w w') : PutsAt W w' pv puts := h.spared (Spares.of_below hb)
theorem PutsAt.view (h : PutsAt W w pv puts) : ∃ a cap, pv = .slice a puts.length cap ∧ ∀ i (hi : i < puts.length), ∃ g, a = some ⟨g, 0, none⟩ ∧ ∀ j v, puts[i].cells[j]? = some v → w.cell? ⟨g, i * 9 + j, none⟩ = some v := by
  obtain ⟨h1, ⟨rfl, h0⟩ | ⟨g, cap, cur, rfl, hb, hh, hc, _, hs, ht⟩⟩ := h.own
  · exact ⟨none, 0, by rw [h0], fun i hi => by omega⟩
  · refine ⟨_, _, rfl, fun i hi => ⟨g, rfl, fun j v hv => ?_⟩⟩
    have hj : j < 9 := by have := (List.getElem?_eq_some_iff.1 hv).1; simpa [OpV.cells] using this
    have h3 := flat_get puts i j hi hj
    rw [cell_of_row w g (i * 9 + j) cur 37 (0, 0) hh]
    have hlt : i * 9 + j < puts.length * 9 := by omega
    have e : (flat puts)[i * 9 + j]? = cur.toList[i * 9 + j]? := by rw [← ht, List.getElem?_take_of_lt hlt]
    rw [← hv, ← h3, e]
    simp
theorem PutsAt.block (h : PutsAt W w pv puts) : ∀ x, pv.ownBlock = some x → W.heap.size ≤ x ∧ ∃ cc, Row w x cc 37 := by
  obtain ⟨h1, ⟨rfl, _⟩ | ⟨g, cap, cur, rfl, hb, hh, rest⟩⟩ := h.own
  · intro x hx; cases hx
  · intro x hx
    simp only [Value.ownBlock, Option.some.injEq] at hx
    subst hx
    exact ⟨hb, cur.toList, ⟨by simpa using hh⟩⟩
/-- A call of the script behind the list: append. -/
theorem PutsAt.append (h : PutsAt W w pv puts) (hW : Below W.heap.size W w) (hl : puts.length ≤ 1048576) (o : OpV) (hB : BytesAt W o.fa o.frame) (ty : TypeId) :
    ∃ v' w', (Builtin.append_ #[32, 32] ty #[pv, .slice (some ⟨w.heap.size, 0, none⟩) 1 1]).run Try.prog (w.alloc (.cells o.cells.toArray 37)) = .ok v' w' ∧ PutsAt W w' v' (puts ++ [o]) ∧ Only pv.ownBlock.toList w w' := by
  obtain ⟨i, z, i1, i2, i3, i4, i5⟩ := info37
  have hal := below_grow (Below.refl w.heap.size w) (.cells o.cells.toArray 37)
  have h' : (w.alloc (.cells o.cells.toArray 37)).ownsRow W.heap.size 37 9 pv puts.length (flat puts) := h.own.alloc _
  obtain ⟨v', w', hr, ho, hg, _⟩ := run_append_own (P := Try.prog) (w.alloc (.cells o.cells.toArray 37)) W.heap.size 32 ty 37 i z 9 80 Try.underlying32 i1 i2 i3 i4 i5 (by decide) pv puts.length (flat puts) h' ⟨w.heap.size, 0, none⟩ 1 1 o.cells rfl (fun j u hu => by
    rw [Addr.add_mid]
    have := (Row.new w o.cells 37).cell j u hu
    rw [Nat.zero_add]
    exact this) o.cells_one (by unfold maxLen; omega) (by omega) (Nat.le_trans hW.size hal.size)
  refine ⟨v', w', hr, ⟨by rw [flat_snoc]; simpa using ho, fun x hx => ?_⟩, ?_⟩
  · rcases List.mem_append.1 hx with hx | hx
    · exact h.fr x hx
    · obtain rfl : x = o := by simpa using hx
      exact hB
  · have h2 : Only pv.ownBlock.toList (w.alloc (.cells o.cells.toArray 37)) w' := ⟨hg.os, hg.tape, hg.output, hg.size, fun k hk hs => hg.block k hk (fun e => hs (by rw [← e]; simp))⟩
    exact (Only.of_below hal (Nat.le_refl _)).trans h2 (fun x hx => .inl hx)
set_option maxHeartbeats 2000000 in
theorem from_any (h : PutsAt W w pv puts) (hW : Below W.heap.size W w) (hl : puts.length ≤ 1048576) {a : Option Addr} {bs : List (BitVec 8)} {m cap : Nat} (hB : BytesAt w a bs) (hm : bs.length = m) {path dir : Int} (hx : ∃ x ∈ puts, x.path = path ∧ x.dir = dir ∧ x.frame = bs) :
    Calls Try.prog 12 #[pv, .int .i64 path, .int .i64 dir, .slice a m cap] w fun e w' => e = .returned (.bool true) ∧ w' = w := by
  obtain ⟨x, hx, hx1, hx2, hx3⟩ := hx
  obtain ⟨q, hq, hqx⟩ := List.getElem_of_mem hx
  obtain ⟨av, capv, rfl, hv⟩ := h.view
  have HV := hid hv
  have HF := hid (fun o ho => (h.fr o ho).kept hW)
  have HB := hid hB
  have HM := hid hm
  have HQ := hid hq
  have HQX : Hid (∀ h : q < puts.length, puts[q].path = path ∧ puts[q].dir = dir ∧ puts[q].frame = bs) := fun h => by rw [hqx]; exact ⟨hx1, hx2, hx3⟩
  have hl2 : (puts.length : Int) ≤ 1048576 := by omega
  clear h hv hB hm hx hx1 hx2 hx3 hqx hq
  go_enter Try.func12, Try.ntmps12
  go_wp2
  go_loop [9] (fun i => ∃ j : Nat, j ≤ q ∧ i = .int .i64 j) (fun i => q - (intOf i).toNat)
  case atStart => exact ⟨0, Nat.zero_le _, rfl⟩
  case round =>
    obtain ⟨j, hj, rfl⟩ := hrel
    have hq := HQ.out
    have hjl : j < puts.length := by omega
    have l1 : (j : Int) < (puts.length : Int) := by omega
    obtain ⟨gp, rfl, hcc⟩ := HV.out j hjl
    have d2 := hcc 2 (.int .i64 puts[j].path) rfl
    have d3 := hcc 3 (.int .i64 puts[j].dir) rfl
    have d8 := hcc 8 (.slice puts[j].fa puts[j].frame.length puts[j].fcap) rfl
    have HSM := hid (same_any (cap := puts[j].fcap) (cap' := cap) (HF.out puts[j] (List.getElem_mem hjl)) rfl HB.out HM.out)
    have HJ : Hid (j = q ∨ j < q) := by show _ ∨ _; omega
    have HEQ : Hid (j = q → puts[j].path = path ∧ puts[j].dir = dir ∧ puts[j].frame = bs) := fun e => by subst e; exact HQX.out hjl
    have hjb : (j : Int) ≤ 1048576 := by omega
    clear hcc hq
    generalize puts[j] = o at *
    obtain ⟨_, _, op, od, _, _, _, _, of, ofa, ofc⟩ := o
    simp only at d2 d3 d8 HSM HEQ
    by_cases h1 : op = path
    · have q1 : (op == path) = true := by rw [h1]; exact beq_self_eq_true _
      by_cases h2 : od = dir
      · have q2 : (od == dir) = true := by rw [h2]; exact beq_self_eq_true _
        by_cases h3 : of = bs
        · rw [decide_eq_true h3] at HSM
          clear h1 h2 h3
          go_wp2_with (go_at_call 23; refine Calls.mono HSM.out ?_; rintro e w2 ⟨rfl, rfl⟩)
          go_ret
          exact ⟨rfl, rfl⟩
        · have HLT : Hid (j < q) := HJ.out.resolve_left (fun e => h3 (HEQ.out e).2.2)
          rw [decide_eq_false h3] at HSM
          clear h1 h2 h3
          go_wp2_with (go_at_call 23; refine Calls.mono HSM.out ?_; rintro e w2 ⟨rfl, rfl⟩)
          go_round
          case rel => exact ⟨j + 1, HLT.out, by first | go_num | (rw [Int.natCast_succ])⟩
          case measure =>
            simp [intOf]
            have := HLT.out
            omega
      · have HLT : Hid (j < q) := HJ.out.resolve_left (fun e => h2 (HEQ.out e).2.1)
        have q2 : (od == dir) = false := beq_eq_false_iff_ne.2 h2
        clear h1 h2
        go_wp2
        go_round
        case rel => exact ⟨j + 1, HLT.out, by first | go_num | (rw [Int.natCast_succ])⟩
        case measure =>
          simp [intOf]
          have := HLT.out
          omega
    · have HLT : Hid (j < q) := HJ.out.resolve_left (fun e => h1 (HEQ.out e).1)
      have q1 : (op == path) = false := beq_eq_false_iff_ne.2 h1
      clear h1
      go_wp2
      go_round
      case rel => exact ⟨j + 1, HLT.out, by first | go_num | (rw [Int.natCast_succ])⟩
      case measure =>
        simp [intOf]
        have := HLT.out
        omega
end
end Go.Proofs.Ytjnmfedefmemnab
namespace Go.Proofs.Ytjnmfedefmemnab
open Go.RowKit Go.Maps
set_option maxRecDepth 100000

theorem fitL_len (cs : List Int) : 1 ≤ (fitL cs).length ∧ (fitL cs).length ≤ 8 := by
  unfold fitL
  split
  · simp
  · next h =>
    have : 0 < cs.length := List.length_pos_iff.2 h
    simp
    omega
theorem fitL_good (cs : List Int) : ∀ c ∈ fitL cs, goodCap c := by
  unfold fitL
  split
  · intro c hc
    have : c = 2 := by simpa using hc
    subst this
    unfold goodCap
    omega
  · intro c hc
    obtain ⟨x, _, rfl⟩ := List.mem_map.1 hc
    have := cap9_bd x
    unfold goodCap
    omega
theorem new_good {w : World} {a : Option Addr} {n cap : Nat} {cs : List Int} (hC : CellsAt w a (cs.map (Value.int .i64))) (hn : cs.length = n) (h1 : 1 ≤ n) (h2 : n ≤ 8) (hg : ∀ c ∈ cs, goodCap c) :
    Calls Try.prog 6 #[.slice a n cap] w fun e w' => ∃ p q, e = .returned (.tuple #[.pointer (some ⟨p, 0, none⟩), .int .i64 0]) ∧ Below w.heap.size w w' ∧ w.heap.size ≤ q ∧ q < p ∧ Row w' q (roadsv cs) 62 ∧ Row w' p [.slice (some ⟨q, 0, none⟩) n n] 58 := by
  refine (new_list hC hn h1 h2).mono ?_
  rintro e w' ⟨hb, ⟨⟨c, hc, hbad⟩, _⟩ | ⟨_, p, q, rfl, h3, h4, h5, h6⟩⟩
  · exact absurd (hg c hc) hbad
  · exact ⟨p, q, rfl, hb, h3, h4, h5, h6⟩
/-- The list that fit made, as it lies. -/
structure CapsAt (w : World) (av : Option Addr) (fs : List Int) : Prop where
  at_ : ∃ gc cur, av = some ⟨gc, 0, none⟩ ∧ Row w gc cur 3 ∧ ∀ k (h : k < fs.length), cur[k]? = some (.int .i64 fs[k])
theorem caps_of {base : Nat} {w : World} {v : Value} {l : List Int} {m : Nat} (hm : m = l.length) (h0 : 0 < m) (h : w.ownsRow base 3 1 v m (l.map (Value.int .i64))) : ∃ a cap, v = .slice a m cap ∧ CapsAt w a l ∧ CellsAt w a (l.map (Value.int .i64)) := by
  obtain ⟨a, cap, e, hc⟩ := owns_ints h
  refine ⟨a, cap, e, ?_, hc⟩
  obtain ⟨h1, ⟨e2, h3⟩ | ⟨g, cap', cur, e2, hb, hh, hcc, _, hs, ht⟩⟩ := h
  · omega
  · rw [e] at e2
    cases e2
    refine ⟨g, cur.toList, rfl, ⟨by simpa using hh⟩, fun k hk => ?_⟩
    have e : (l.map (Value.int .i64))[k]? = cur.toList[k]? := by rw [← ht, Nat.mul_one, List.getElem?_take_of_lt (by omega)]
    rw [← e, List.getElem?_map, List.getElem?_eq_getElem hk]
    rfl
/-- All that the law has, at a moment. -/
structure NS (W w : World) (n p g K : Nat) (D : Dat) (puts : List OpV) (pv : Value) (fs : List Int) (av : Option Addr) : Prop where
  net : ∃ vs fr, NetP W.heap.size w p g n vs fr K D
  bel : Below W.heap.size W w
  puts : PutsAt W w pv puts
  caps : CapsAt w av fs
section
variable {W w w' : World} {n p g K : Nat} {D : Dat} {puts : List OpV} {pv : Value} {fs : List Int} {av : Option Addr}
theorem CapsAt.spared (h : CapsAt w av fs) (s : Spares w w') : CapsAt w' av fs := by
  obtain ⟨gc, cur, e, r, hc⟩ := h.at_
  exact ⟨gc, cur, e, s _ _ _ (by decide) (by decide) (by decide) r, hc⟩
theorem CapsAt.cell (h : CapsAt w av fs) {k : Nat} (hk : k < fs.length) : ∃ gc, av = some ⟨gc, 0, none⟩ ∧ w.cell? ⟨gc, k, none⟩ = some (.int .i64 fs[k]) := by
  obtain ⟨gc, cur, e, r, hc⟩ := h.at_
  exact ⟨gc, e, r.cell k _ (hc k hk)⟩
theorem NS.kept (h : NS W w n p g K D puts pv fs av) (hb : Below w.heap.size w w') : NS W w' n p g K D puts pv fs av := by
  obtain ⟨vs, fr, hn⟩ := h.net
  exact ⟨⟨vs, fr, hn.kept hb⟩, h.bel.trans (hb.mono h.bel.size), h.puts.kept hb, h.caps.spared (Spares.of_below hb)⟩
theorem NS.act (h : NS W w n p g K D puts pv fs av) (o : OpV) (hF : BytesAt w o.fa o.frame) (hm : o.frame.length ≤ 1048576) (hK : K < 1099511627776) :
    Calls Try.prog 11 #[.pointer (some ⟨p, 0, none⟩), .agg o.cells.toArray] w fun e w' => ∃ a, e = .returned (.tuple #[.agg #[.slice a (D.ansB n o).length (D.ansB n o).length, .bool (D.ansS n o)], .bool (D.hit n o)]) ∧ Ans w' a (D.ansB n o) ∧ Spares w w' ∧ NS W w' n p g (K + 1) (D.act n o) puts pv fs av := by
  obtain ⟨vs, fr, h1⟩ := h.net
  refine (act_any h1 o hF hm hK).mono ?_
  rintro e w' ⟨a, m, b, got, rfl, hs, vs', fr', hn, hst⟩
  obtain ⟨rfl, rfl, rfl, ha⟩ := hs.ans
  have sp : Spares w w' := fun x cc t n1 n2 n3 r => h1.rowKept hst r n1 n2 n3
  exact ⟨a, rfl, ha, sp, ⟨vs', fr', hn⟩, h.bel.trans (h1.below hst), h.puts.spared sp, h.caps.spared sp⟩
theorem NS.look (h : NS W w n p g K D puts pv fs av) {k : Nat} (hk : k < n) :
    Calls Try.prog 13 #[.pointer (some ⟨p, 0, none⟩), .int .i64 k] w fun e w' => ∃ cv : List Value, e = .returned (.tuple #[.agg cv.toArray, .int .i64 0]) ∧ cv.length = 14 ∧ (∀ v ∈ cv, v.oneCell' = true) ∧ cv[0]? = some (.bool (D.up k)) ∧ cv[1]? = some (.int .i64 (D.cap k)) ∧ (∀ d, d < 2 → cv[2 + d]? = some (.int .i64 (D.fd k d).length)) ∧ (∀ i, 4 ≤ i → i < 14 → cv[i]? = some (.int .u64 (D.cn k i))) ∧ Below w.heap.size w w' := by
  obtain ⟨vs, fr, h1⟩ := h.net
  exact h1.look hk
theorem NS.peek (h : NS W w n p g K D puts pv fs av) {k d j : Nat} (hk : k < n) (hd : d < 2) (hj : j < (D.fd k d).length) :
    Calls Try.prog 14 #[.pointer (some ⟨p, 0, none⟩), .int .i64 k, .int .i64 d, .int .i64 j] w fun e w' => ∃ g', e = .returned (.tuple #[.agg #[.slice (some ⟨g', 0, none⟩) (D.at k d j).1.length (D.at k d j).1.length, .bool (sp (D.at k d j).2 (D.at k d j).1.length)], .int .i64 0]) ∧ w.heap.size ≤ g' ∧ Row w' g' (bcells (xorT (D.at k d j).1 (D.at k d j).2)) 5 ∧ Below w.heap.size w w' := by
  obtain ⟨vs, fr, h1⟩ := h.net
  exact h1.peek hk hd hj
theorem NS.len (h : NS W w n p g K D puts pv fs av) {k d : Nat} (hk : k < n) (hd : d < 2) : ((D.fd k d).length : Int) ≤ D.cap k ∧ (D.fd k d).length ≤ 1073741824 := by
  obtain ⟨vs, fr, c, hG, hD⟩ := h.net
  obtain ⟨C, h1, _, h3, h4⟩ := hG.cap k hk
  have h2 := hD.cap k hk
  rw [h2] at h1
  simp only [Option.some.injEq, Value.int.injEq, true_and] at h1
  have h5 := h4 d hd
  rw [← hD.fd k d hk hd, List.length_map, h1]
  exact ⟨h5, by omega⟩
theorem NS.append (h : NS W w n p g K D puts pv fs av) (hl : puts.length ≤ 1048576) (o : OpV) (hB : BytesAt W o.fa o.frame) (ty : TypeId) :
    ∃ v' w', (Builtin.append_ #[32, 32] ty #[pv, .slice (some ⟨w.heap.size, 0, none⟩) 1 1]).run Try.prog (w.alloc (.cells o.cells.toArray 37)) = .ok v' w' ∧ NS W w' n p g K D (puts ++ [o]) v' fs av ∧ Only pv.ownBlock.toList w w' := by
  obtain ⟨v', w', hr, hp, ho⟩ := h.puts.append h.bel hl o hB ty
  obtain ⟨vs, fr, h1⟩ := h.net
  refine ⟨v', w', hr, ⟨⟨vs, fr, h1.far ho (fun x hx => ?_)⟩, h.bel.trans (ho.below h.bel.size (fun x hx => (h.puts.block x (by simpa using hx)).1)), hp, ?_⟩, ho⟩
  · obtain ⟨_, cc, r⟩ := h.puts.block x (by simpa using hx)
    exact ⟨cc, 37, r, by decide, by decide, by decide, by decide, by decide⟩
  · obtain ⟨gc, cur, e, r, hc⟩ := h.caps.at_
    refine ⟨gc, cur, e, ho.row r (fun hm => ?_), hc⟩
    obtain ⟨_, cc, r2⟩ := h.puts.block gc (by simpa using hm)
    exact absurd (r.type r2) (by decide)
theorem NS.paths (h : NS W w n p g K D puts pv fs av) : Calls Try.prog 15 #[.pointer (some ⟨p, 0, none⟩)] w fun e w' => e = .returned (.int .i64 n) ∧ w' = w := by
  obtain ⟨vs, fr, c, hG, hD⟩ := h.net
  have c0 := hG.net.cell 0 _ rfl
  clear hG hD h
  go_enter Try.func15, Try.ntmps15
  go_wp2
  go_ret
  exact ⟨rfl, rfl⟩
end
end Go.Proofs.Ytjnmfedefmemnab
namespace Go.Proofs.Ytjnmfedefmemnab
open Go.RowKit Go.Maps
set_option maxRecDepth 100000

/-- The document's own net, as it lies: paths of fourteen cells, to be read. -/
structure RefR (w : World) (m gp n cap : Nat) (c : List Value) (D : Dat) : Prop where
  net : Row w m [.slice (some ⟨gp, 0, none⟩) n cap] 65
  row : Row w gp c 69
  n8 : n ≤ 8
  nc : n ≤ cap
  up : ∀ k, k < n → c[k * 14]? = some (.bool (D.up k))
  cap_ : ∀ k, k < n → c[k * 14 + 1]? = some (.int .i64 (D.cap k))
  bag : ∀ k d, k < n → d < 2 → ∃ a cp, c[k * 14 + 2 + d]? = some (.slice a (D.fd k d).length cp)
  cn : ∀ k i, k < n → 4 ≤ i → i < 14 → c[k * 14 + i]? = some (.int .u64 (D.cn k i))
section
variable {w w' : World} {m gp n cap : Nat} {c : List Value} {D : Dat}
theorem RefR.kept (h : RefR w m gp n cap c D) (hb : Below w.heap.size w w') : RefR w' m gp n cap c D := { h with net := h.net.kept hb h.net.lt, row := h.row.kept hb h.row.lt }
theorem RefR.drewN (h : RefR w m gp n cap c D) (k : Nat) : RefR (w.drewN k) m gp n cap c D := { h with net := h.net.drew k, row := h.row.drew k }
theorem lying_any (h : RefR w m gp n cap c D) {k d : Nat} (hk : k < n) (hd : d < 2) :
    Calls Try.prog 18 #[.pointer (some ⟨m, 0, none⟩), .int .i64 k, .int .i64 d] w fun e w' => e = .returned (.int .i64 (D.fd k d).length) ∧ w' = w := by
  obtain ⟨a, cp, hv⟩ := h.bag k d hk hd
  have c0 := h.net.cell 0 _ rfl
  have c1 := h.row.cell _ _ hv
  have k0 : (0 : Int) ≤ (k : Int) := by omega
  have k1 : (k : Int) < (n : Int) := by omega
  have k2 : (k : Int) ≤ 8 := by have := h.n8; omega
  have d0 : (0 : Int) ≤ (d : Int) := by omega
  have d1 : (d : Int) < 2 := by omega
  clear h hv hk hd
  go_enter Try.func18, Try.ntmps18
  go_wp2
  go_ret
  exact ⟨rfl, rfl⟩
theorem end_in (h : RefR w m gp n cap c D) {k d : Nat} (hk : k < n) (hd : d < 2) :
    Calls Try.prog 56 #[.pointer (some ⟨m, 0, none⟩), .int .i64 k, .int .i64 d] w fun e w' => e = .returned (.int .i64 0) ∧ w' = w := by
  have c0 := h.net.cell 0 _ rfl
  have k1 : decide ((n : Int) ≤ (k : Int)) = false := decide_eq_false (by omega)
  have k1' : decide (n ≤ k) = false := decide_eq_false (by omega)
  have k0 : decide ((k : Int) < 0) = false := decide_eq_false (by omega)
  have hn8 := h.n8
  rcases (show d = 0 ∨ d = 1 by omega) with rfl | rfl
  · rw [show ((0 : Nat) : Int) = 0 from rfl]
    clear h hk hd
    go_enter Try.func56, Try.ntmps56
    go_wp2
    go_ret
    exact ⟨rfl, rfl⟩
  · rw [show ((1 : Nat) : Int) = 1 from rfl]
    clear h hk hd
    go_enter Try.func56, Try.ntmps56
    go_wp2
    go_ret
    exact ⟨rfl, rfl⟩
theorem rfind_place (h : RefR w m gp n cap c D) {k d : Nat} (hk : k < n) (hd : d < 2) (hl : (D.fd k d).length ≤ 1073741824) :
    Calls Try.prog 39 #[.pointer (some ⟨m, 0, none⟩), .int .i64 k, .int .i64 d, .int .i64 (D.fd k d).length, .bool false] w fun e w' => e = .returned (.int .i64 45) ∧ w' = w := by
  have HE := hid (end_in h hk hd)
  have HL := hid (lying_any h hk hd)
  obtain ⟨L, hL⟩ : ∃ L : Int, L = ((D.fd k d).length : Int) := ⟨_, rfl⟩
  have l0 : decide (L < 0) = false := decide_eq_false (by omega)
  have l1 : decide (L ≤ L) = true := decide_eq_true (Int.le_refl _)
  rw [← hL] at HL
  rw [← hL]
  clear h hk hd hL hl
  go_enter Try.func39, Try.ntmps39
  go_wp2_with (first
    | (go_at_call 56; refine Calls.mono HE.out ?_; rintro e w2 ⟨rfl, rfl⟩)
    | (go_at_call 18; refine Calls.mono HL.out ?_; rintro e w2 ⟨rfl, rfl⟩))
  go_ret
  exact ⟨rfl, rfl⟩
theorem i72 : (Try.prog.info? 72).map (·.size) = some 2 := by kernel_rfl
theorem rpeek_place (h : RefR w m gp n cap c D) {k d : Nat} (hk : k < n) (hd : d < 2) (hl : (D.fd k d).length ≤ 1073741824) :
    Calls Try.prog 19 #[.pointer (some ⟨m, 0, none⟩), .int .i64 k, .int .i64 d, .int .i64 (D.fd k d).length] w fun e w' => e = .returned (.tuple #[.agg #[.slice none 0 0, .bool false], .int .i64 45]) ∧ Below w.heap.size w w' := by
  have hb := below_grow (Below.refl w.heap.size w) (.cells #[.slice none 0 0, .bool false] 72)
  have HF := hid (rfind_place (h.kept hb) hk hd hl)
  have HR := hid (Row.new w [.slice none 0 0, .bool false] 72)
  have HB := hid hb
  generalize ((D.fd k d).length : Int) = L at *
  clear h hk hd hl hb
  go_enter Try.func19, Try.ntmps19
  go_upto_region 1 with (fail)
  refine wp_world fun w1 HW => ?_
  have HW' : Hid (w1 = w.alloc (.cells [Value.slice none 0 0, .bool false].toArray 72)) := HW.out
  rw [← HW'.out] at HR HF HB
  obtain ⟨r, hr⟩ : ∃ r, r = w.heap.size := ⟨_, rfl⟩
  rw [← hr] at HR
  rw [← hr]
  have HRR := hid hr
  clear HW HW' hr
  have c0 := HR.out.cell 0 _ rfl
  go_wp2_with (first
    | (go_at_call 39; refine Calls.mono HF.out ?_; rintro e w2 ⟨rfl, rfl⟩)
    | (show wpList _ _ _ (Oper.mk none (.store 72 (.tmp 8) (.tmp 18)) _ _ _ _ :: _) _ _; refine HR.out.wpStore' 72 (.tmp 8) (.tmp 18) [.slice none 0 0, .bool false] rfl rfl rfl rfl rfl (by simp [Value.oneCell']) i72 ?_; intro wz HZ))
  have h1 : Row wz r [.slice none 0 0, .bool false] 72 := by rw [HZ.out]; exact HR.out.row _
  have h2 : Below w.heap.size w wz := by rw [HZ.out]; exact below_setRow HB.out (by rw [HRR.out]; exact Nat.le_refl _) _
  exact bodyPost_ret (v := .tuple #[.agg #[.slice none 0 0, .bool false], .int .i64 45]) (h1.result2 Try.results19 _ rfl rfl _ Try.underlying72 rfl i72) rfl ⟨rfl, h2⟩
theorem parcel_none (e : Int) :
    Calls Try.prog 20 #[.agg #[.slice none 0 0, .bool false], .int .i64 e, .agg #[.slice none 0 0, .bool false], .int .i64 e] w fun r w' => r = .returned (.bool true) ∧ Below w.heap.size w w' := by
  have hb1 := below_grow (Below.refl w.heap.size w) (.cells #[.slice none 0 0, .bool false] 39)
  have hb := below_grow hb1 (.cells #[.slice none 0 0, .bool false] 72)
  have r1 : Row ((w.alloc (.cells #[.slice none 0 0, .bool false] 39)).alloc (.cells #[.slice none 0 0, .bool false] 72)) w.heap.size [.slice none 0 0, .bool false] 39 := (Row.new' _ _ _ _ _ rfl rfl).alloc _
  have r2 : Row ((w.alloc (.cells #[.slice none 0 0, .bool false] 39)).alloc (.cells #[.slice none 0 0, .bool false] 72)) (w.heap.size + 1) [.slice none 0 0, .bool false] 72 := Row.new' _ _ _ _ _ (by simp) rfl
  have HB := hid hb
  have q1 : (e == e) = true := beq_self_eq_true _
  have HS := hid (same_any (w := (w.alloc (.cells #[.slice none 0 0, .bool false] 39)).alloc (.cells #[.slice none 0 0, .bool false] 72)) (cap := 0) (cap' := 0) (BytesAt_nil _ none) (rfl : ([] : List (BitVec 8)).length = 0) (BytesAt_nil _ none) (rfl : ([] : List (BitVec 8)).length = 0))
  rw [decide_eq_true (rfl : ([] : List (BitVec 8)) = [])] at HS
  have c0 := r1.cell 0 _ rfl
  have c1 := r1.cell 1 _ rfl
  have g0 := r2.cell 0 _ rfl
  have g1 := r2.cell 1 _ rfl
  clear hb1 hb r1 r2
  go_enter Try.func20, Try.ntmps20
  go_upto_region 1 with (fail)
  generalize ((w.alloc (.cells #[.slice none 0 0, .bool false] 39)).alloc (.cells #[.slice none 0 0, .bool false] 72)) = wa at *
  go_wp2_with (go_at_call 23; refine Calls.mono HS.out ?_; rintro e w2 ⟨rfl, rfl⟩)
  go_loop [10] (fun i => i = .int .i64 0) (fun _ => 0)
  case atStart => rfl
  case round =>
    subst hrel
    go_wp2
    go_ret
    exact ⟨rfl, HB.out⟩
end
end Go.Proofs.Ytjnmfedefmemnab
namespace Go.Proofs.Ytjnmfedefmemnab
open Go.RowKit Go.Maps
set_option maxRecDepth 100000

theorem eq43 (a b : Int) (w : World) : (Op.equalIn 10000 43 (.agg #[.int .i64 a, .int .i64 b]) (.agg #[.int .i64 a, .int .i64 b])).run Try.prog w = .ok true w := by
  have u3 := Try.underlying3
  have a3 := Try.isAgg3
  have z3 := Try.sizeOf3
  rw [show (10000 : Nat) = 9999 + 1 from rfl, Op.equalIn]
  simp only [Sem.run_bind, run_underlying Try.underlying43, Result.andThen_ok]
  simp only [Std.Legacy.Range.forIn_eq_forIn_range', Std.Legacy.Range.size, Nat.sub_zero, Nat.add_sub_cancel, Nat.div_one, List.range'_succ, List.range'_zero, List.forIn_cons, List.forIn_nil]
  go_simp
theorem eq45 (a b : Int) (w : World) : (Op.equalIn 10000 45 (.agg #[.int .u64 a, .int .u64 b]) (.agg #[.int .u64 a, .int .u64 b])).run Try.prog w = .ok true w := by
  have u3 := Try.underlying44
  have a3 := Try.isAgg44
  have z3 := Try.sizeOf44
  rw [show (10000 : Nat) = 9999 + 1 from rfl, Op.equalIn]
  simp only [Sem.run_bind, run_underlying Try.underlying45, Result.andThen_ok]
  simp only [Std.Legacy.Range.forIn_eq_forIn_range', Std.Legacy.Range.size, Nat.sub_zero, Nat.add_sub_cancel, Nat.div_one, List.range'_succ, List.range'_zero, List.forIn_cons, List.forIn_nil]
  go_simp
/-- What Look tells, of the data. -/
def viewL (D : Dat) (k : Nat) : List Value := [.bool (D.up k), .int .i64 (D.cap k), .int .i64 (D.fd k 0).length, .int .i64 (D.fd k 1).length, .int .u64 (D.cn k 4), .int .u64 (D.cn k 5), .int .u64 (D.cn k 6), .int .u64 (D.cn k 7), .int .u64 (D.cn k 8), .int .u64 (D.cn k 9), .int .u64 (D.cn k 10), .int .u64 (D.cn k 11), .int .u64 (D.cn k 12), .int .u64 (D.cn k 13)]
theorem viewL_of {D : Dat} {k : Nat} {cv : List Value} (hl : cv.length = 14) (h0 : cv[0]? = some (.bool (D.up k))) (h1 : cv[1]? = some (.int .i64 (D.cap k))) (h2 : ∀ d, d < 2 → cv[2 + d]? = some (.int .i64 (D.fd k d).length)) (h3 : ∀ i, 4 ≤ i → i < 14 → cv[i]? = some (.int .u64 (D.cn k i))) : cv = viewL D k := by
  apply List.ext_getElem?
  intro i
  by_cases hi : i < 14
  · rcases (show i = 0 ∨ i = 1 ∨ i = 2 ∨ i = 3 ∨ i = 4 ∨ i = 5 ∨ i = 6 ∨ i = 7 ∨ i = 8 ∨ i = 9 ∨ i = 10 ∨ i = 11 ∨ i = 12 ∨ i = 13 by omega) with rfl | rfl | rfl | rfl | rfl | rfl | rfl | rfl | rfl | rfl | rfl | rfl | rfl | rfl
    · exact h0
    · exact h1
    · exact h2 0 (by decide)
    · exact h2 1 (by decide)
    all_goals exact h3 _ (by decide) (by decide)
  · rw [List.getElem?_eq_none (by omega), List.getElem?_eq_none (by simp [viewL]; omega)]
section
variable {w w' : World} {m gp n cap : Nat} {c : List Value} {D : Dat}
set_option maxHeartbeats 2000000 in
theorem view_any (h : RefR w m gp n cap c D) {k : Nat} (hk : k < n) :
    Calls Try.prog 17 #[.agg (viewL D k).toArray, .pointer (some ⟨m, 0, none⟩), .int .i64 k] w fun e w' => e = .returned (.bool true) ∧ Below w.heap.size w w' := by
  obtain ⟨a0, cp0, hv0⟩ := h.bag k 0 hk (by decide)
  obtain ⟨a1, cp1, hv1⟩ := h.bag k 1 hk (by decide)
  rw [Nat.add_zero] at hv0
  have hb := below_grow (Below.refl w.heap.size w) (.cells (viewL D k).toArray 47)
  have r1 : Row (w.alloc (.cells (viewL D k).toArray 47)) w.heap.size (viewL D k) 47 := Row.new _ _ _
  have hr := h.kept hb
  have HB := hid hb
  have HR := hid hr
  have HV := hid r1
  have HL0 := hid (fun u (hu : Below w.heap.size w u) => lying_any (h.kept hu) hk (show 0 < 2 by decide))
  have HL1 := hid (fun u (hu : Below w.heap.size w u) => lying_any (h.kept hu) hk (show 1 < 2 by decide))
  have c0 := hr.net.cell 0 _ rfl
  have e0 := hr.row.cell _ _ (hr.up k hk)
  have e1 := hr.row.cell _ _ (hr.cap_ k hk)
  have e2 := hr.row.cell _ _ hv0
  have e3 := hr.row.cell _ _ hv1
  have e4 := hr.row.cell _ _ (hr.cn k 4 hk (by decide) (by decide))
  have e5 := hr.row.cell _ _ (hr.cn k 5 hk (by decide) (by decide))
  have e6 := hr.row.cell _ _ (hr.cn k 6 hk (by decide) (by decide))
  have e7 := hr.row.cell _ _ (hr.cn k 7 hk (by decide) (by decide))
  have e8 := hr.row.cell _ _ (hr.cn k 8 hk (by decide) (by decide))
  have e9 := hr.row.cell _ _ (hr.cn k 9 hk (by decide) (by decide))
  have e10 := hr.row.cell _ _ (hr.cn k 10 hk (by decide) (by decide))
  have e11 := hr.row.cell _ _ (hr.cn k 11 hk (by decide) (by decide))
  have e12 := hr.row.cell _ _ (hr.cn k 12 hk (by decide) (by decide))
  have e13 := hr.row.cell _ _ (hr.cn k 13 hk (by decide) (by decide))
  have k0 : (0 : Int) ≤ (k : Int) := by omega
  have k1 : (k : Int) < (n : Int) := by omega
  have k2 : (k : Int) ≤ 8 := by have := h.n8; omega
  clear h hb r1 hr hv0 hv1 hk
  simp only [viewL] at HV HB e0 e1 e2 e3 e4 e5 e6 e7 e8 e9 e10 e11 e12 e13 c0 ⊢
  rw [Nat.add_assoc (k * 14) 2 1] at e3
  go_enter Try.func17, Try.ntmps17
  go_upto_region 2 with (fail)
  refine wp_world fun w2 HW => ?_
  have HB2 : Hid (Below w.heap.size w w2) := by show Below _ _ _; rw [HW.out]; exact below_grow HB.out _
  have RV : Row w2 w.heap.size [.bool (D.up k), .int .i64 (D.cap k), .int .i64 (D.fd k 0).length, .int .i64 (D.fd k 1).length, .int .u64 (D.cn k 4), .int .u64 (D.cn k 5), .int .u64 (D.cn k 6), .int .u64 (D.cn k 7), .int .u64 (D.cn k 8), .int .u64 (D.cn k 9), .int .u64 (D.cn k 10), .int .u64 (D.cn k 11), .int .u64 (D.cn k 12), .int .u64 (D.cn k 13)] 47 := by rw [HW.out]; exact HV.out.alloc _
  have RP : Row w2 (w.heap.size + 1) [.bool (D.up k), .int .i64 (D.cap k), .slice a0 (D.fd k 0).length cp0, .slice a1 (D.fd k 1).length cp1, .int .u64 (D.cn k 4), .int .u64 (D.cn k 5), .int .u64 (D.cn k 6), .int .u64 (D.cn k 7), .int .u64 (D.cn k 8), .int .u64 (D.cn k 9), .int .u64 (D.cn k 10), .int .u64 (D.cn k 11), .int .u64 (D.cn k 12), .int .u64 (D.cn k 13)] 69 := by rw [HW.out]; exact Row.new' _ _ _ _ _ (by simp) rfl
  have HL : Hid (∀ (j : Nat) (d : Int), d = 0 ∨ d = 1 → Calls Try.prog 18 #[.pointer (some ⟨m, 0, none⟩), .int .i64 k, .int .i64 d] (w2.drewN j) fun e w' => e = .returned (.int .i64 (if d = 0 then ((D.fd k 0).length : Int) else ((D.fd k 1).length : Int))) ∧ w' = w2.drewN j) := fun j d hd => by
    rcases hd with rfl | rfl
    · exact HL0.out _ (below_drewN HB2.out _)
    · exact HL1.out _ (below_drewN HB2.out _)
  obtain ⟨v, hv⟩ : ∃ v, v = w.heap.size := ⟨_, rfl⟩
  obtain ⟨q, hq⟩ : ∃ q, q = w.heap.size + 1 := ⟨_, rfl⟩
  rw [← hq] at RP
  rw [← hv] at RV
  rw [← hq, ← hv]
  clear hv hq HW HV HR HL0 HL1 HB c0 e0 e1 e2 e3 e4 e5 e6 e7 e8 e9 e10 e11 e12 e13
  generalize ((D.fd k 0).length : Int) = l0 at *
  generalize ((D.fd k 1).length : Int) = l1 at *
  generalize D.up k = bu at *
  generalize D.cap k = ca at *
  generalize D.cn k 4 = x4 at *
  generalize D.cn k 5 = x5 at *
  generalize D.cn k 6 = x6 at *
  generalize D.cn k 7 = x7 at *
  generalize D.cn k 8 = x8 at *
  generalize D.cn k 9 = x9 at *
  generalize D.cn k 10 = x10 at *
  generalize D.cn k 11 = x11 at *
  generalize D.cn k 12 = x12 at *
  generalize D.cn k 13 = x13 at *
  have v0 := RV.cell 0 _ rfl
  have v1 := RV.cell 1 _ rfl
  have v2 := RV.cell 2 _ rfl
  have v3 := RV.cell 3 _ rfl
  have v4 := RV.cell 4 _ rfl
  have v5 := RV.cell 5 _ rfl
  have v6 := RV.cell 6 _ rfl
  have v7 := RV.cell 7 _ rfl
  have v8 := RV.cell 8 _ rfl
  have v9 := RV.cell 9 _ rfl
  have v10 := RV.cell 10 _ rfl
  have v11 := RV.cell 11 _ rfl
  have v12 := RV.cell 12 _ rfl
  have v13 := RV.cell 13 _ rfl
  have p0 := RP.cell 0 _ rfl
  have p1 := RP.cell 1 _ rfl
  have p4 := RP.cell 4 _ rfl
  have p5 := RP.cell 5 _ rfl
  have p6 := RP.cell 6 _ rfl
  have p7 := RP.cell 7 _ rfl
  have p8 := RP.cell 8 _ rfl
  have p9 := RP.cell 9 _ rfl
  have p10 := RP.cell 10 _ rfl
  have p11 := RP.cell 11 _ rfl
  have p12 := RP.cell 12 _ rfl
  have p13 := RP.cell 13 _ rfl
  clear RV RP
  have q43 := eq43 l0 l1
  have q4 := eq45 x4 x5
  have q6 := eq45 x6 x7
  have q8 := eq45 x8 x9
  have q10 := eq45 x10 x11
  have q12 := eq45 x12 x13
  have t0 : (bu == bu) = true := beq_self_eq_true _
  have t1 : (ca == ca) = true := beq_self_eq_true _
  go_quiet (first | (go_at_call 18; exact Calls.quiet_of_same (HL.out _ _ (by first | exact .inl rfl | exact .inr rfl))))
  go_wp2
  go_ret
  exact ⟨rfl, below_drewN HB2.out _⟩
end
end Go.Proofs.Ytjnmfedefmemnab
namespace Go.Proofs.Ytjnmfedefmemnab
open Go.RowKit Go.Maps
set_option maxRecDepth 100000

/-- A net of the program and one of the document that tell the same. -/
structure Pair (W w : World) (n p g K : Nat) (D : Dat) (m gp cap : Nat) (c : List Value) : Prop where
  net : ∃ vs fr, NetP W.heap.size w p g n vs fr K D
  ref : RefR w m gp n cap c D
section
variable {W w w' : World} {n p g K : Nat} {D : Dat} {m gp cap : Nat} {c : List Value}
theorem Pair.kept (h : Pair W w n p g K D m gp cap c) (hb : Below w.heap.size w w') : Pair W w' n p g K D m gp cap c := by
  obtain ⟨vs, fr, hn⟩ := h.net
  exact ⟨⟨vs, fr, hn.kept hb⟩, h.ref.kept hb⟩
theorem Pair.paths (h : Pair W w n p g K D m gp cap c) : Calls Try.prog 15 #[.pointer (some ⟨p, 0, none⟩)] w fun e w' => e = .returned (.int .i64 n) ∧ w' = w := by
  obtain ⟨vs, fr, c, hG, hD⟩ := h.net
  have c0 := hG.net.cell 0 _ rfl
  clear hG hD h
  go_enter Try.func15, Try.ntmps15
  go_wp2
  go_ret
  exact ⟨rfl, rfl⟩
theorem Pair.look (h : Pair W w n p g K D m gp cap c) {k : Nat} (hk : k < n) :
    Calls Try.prog 13 #[.pointer (some ⟨p, 0, none⟩), .int .i64 k] w fun e w' => e = .returned (.tuple #[.agg (viewL D k).toArray, .int .i64 0]) ∧ Below w.heap.size w w' := by
  obtain ⟨vs, fr, h1⟩ := h.net
  refine (h1.look hk).mono ?_
  rintro e w' ⟨cv, rfl, hl, _, h2, h3, h4, h5, hb⟩
  rw [viewL_of hl h2 h3 h4 h5]
  exact ⟨rfl, hb⟩
theorem Pair.peek_end (h : Pair W w n p g K D m gp cap c) {k d : Nat} (hk : k < n) (hd : d < 2) :
    Calls Try.prog 14 #[.pointer (some ⟨p, 0, none⟩), .int .i64 k, .int .i64 d, .int .i64 (D.fd k d).length] w fun e w' => e = .returned (.tuple #[.agg #[.slice none 0 0, .bool false], .int .i64 45]) ∧ Below w.heap.size w w' := by
  obtain ⟨vs, fr, h1⟩ := h.net
  have e : D.err n k d (D.fd k d).length false = 45 := by
    unfold Dat.err
    rw [if_neg (fun e => e ⟨by omega, by omega⟩), if_neg (fun e => e ⟨by omega, by omega⟩), if_neg (fun e => by cases e.1), if_pos (fun e => by simp at e)]
  have := h1.findEr (x := k) (y := d) (z := (D.fd k d).length) (b := false) (by rw [e]; decide)
  rw [e] at this
  exact peek_er this
theorem Pair.len (h : Pair W w n p g K D m gp cap c) {k d : Nat} (hk : k < n) (hd : d < 2) : (D.fd k d).length ≤ 1073741824 := by
  obtain ⟨vs, fr, c, hG, hD⟩ := h.net
  have := hG.len30 hk hd
  rw [← hD.fd k d hk hd, List.length_map]
  simpa using this
theorem Pair.rpeek_end (h : Pair W w n p g K D m gp cap c) {k d : Nat} (hk : k < n) (hd : d < 2) :
    Calls Try.prog 19 #[.pointer (some ⟨m, 0, none⟩), .int .i64 k, .int .i64 d, .int .i64 (D.fd k d).length] w fun e w' => e = .returned (.tuple #[.agg #[.slice none 0 0, .bool false], .int .i64 45]) ∧ Below w.heap.size w w' :=
  rpeek_place h.ref hk hd (h.len hk hd)
set_option maxHeartbeats 2000000 in
/-- whole, where nothing lies in any bag. -/
theorem whole_empty (h : Pair W w n p g K D m gp cap c) (hE : ∀ k d, D.fd k d = []) :
    Calls Try.prog 8 #[.pointer (some ⟨p, 0, none⟩), .pointer (some ⟨m, 0, none⟩)] w fun e w' => e = .returned (.bool true) ∧ Below w.heap.size w w' := by
  have HP := hid h
  have HE := hid hE
  have HN8 := hid h.ref.n8
  have c0 := h.ref.net.cell 0 _ rfl
  have HPA : Hid (∀ j, Calls Try.prog 15 #[.pointer (some ⟨p, 0, none⟩)] (w.drewN j) fun e w' => e = .returned (.int .i64 n) ∧ w' = w.drewN j) := fun j => (h.kept (below_drewN (Below.refl _ _) j)).paths
  have t0 : ((n : Int) != (n : Int)) = false := bne_self_eq_false _
  clear h hE
  go_enter Try.func8, Try.ntmps8
  go_upto_region 1 with (fail)
  go_quiet (first | (go_at_call 15; exact Calls.quiet_of_same (HPA.out _)))
  obtain ⟨w1, hw1⟩ : ∃ w1, w1 = w.drewN nq := ⟨_, rfl⟩
  rw [← hw1]
  have HB1 : Hid (Below w.heap.size w w1) := by show Below _ _ _; rw [hw1]; exact below_drewN (Below.refl _ _) _
  have HP1 := hid (HP.out.kept HB1.out)
  clear hw1 HP HPA c0 t0
  go_wp2
  go_loopw [5] (fun i wr => ∃ k : Nat, k ≤ n ∧ i = .int .i64 k ∧ Pair W wr n p g K D m gp cap c ∧ Below w.heap.size w wr) (fun i _ => n - (intOf i).toNat)
  case atStart => exact ⟨0, Nat.zero_le _, rfl, HP1.out, HB1.out⟩
  case round =>
    obtain ⟨k, hk, rfl, hp, hb⟩ := hrel
    clear HP1 HB1
    have HP2 := hid hp
    have HB2 := hid hb
    have c0 := hp.ref.net.cell 0 _ rfl
    clear hp hb
    by_cases hlt : k < n
    · have HK := hid hlt
      have l1 : (k : Int) < (n : Int) := by omega
      have k8 : (k : Int) ≤ 8 := by have := HN8.out; omega
      clear hlt hk
      go_upto_region 7 with (first
        | (go_at_call 13; refine Calls.mono (HP2.out.look HK.out) ?_; rintro e w3 ⟨rfl, hb⟩; have HP3 := hid (HP2.out.kept hb); have HB3 := hid (HB2.out.trans (hb.mono HB2.out.size)); clear hb HP2 HB2 c0)
        | (show wpList _ _ _ (Oper.mk none (.store 47 (.tmp 6) (.tmp 35)) _ _ _ _ :: _) _ _; refine Row.wpStore' (Row.new' w3 _ vz 47 _ rfl rfl) 47 (.tmp 6) (.tmp 35) (viewL D k) rfl rfl rfl rfl rfl (by simp [viewL, Value.oneCell']) (by exact i41) ?_; intro w5 HZ5))
      have HV5 : Hid (Row w5 w3.heap.size (viewL D k) 47) := by show Row _ _ _ _; rw [HZ5.out]; exact (Row.new' w3 _ vz 47 _ rfl rfl).row _
      have HB5 : Hid (Below w3.heap.size w3 w5) := by show Below _ _ _; rw [HZ5.out]; exact below_setRow (below_grow (Below.refl _ _) _) (Nat.le_refl _) _
      have HP5 := hid (HP3.out.kept HB5.out)
      have HBW5 := hid (HB3.out.trans (HB5.out.mono HB3.out.size))
      generalize w3.heap.size = vb at *
      clear HZ5 HB5 HP3 HB3
      have v0 := HV5.out.cell 0 _ rfl
      have v1 := HV5.out.cell 1 _ rfl
      have v2 := HV5.out.cell 2 _ rfl
      have v3 := HV5.out.cell 3 _ rfl
      have v4 := HV5.out.cell 4 _ rfl
      have v5 := HV5.out.cell 5 _ rfl
      have v6 := HV5.out.cell 6 _ rfl
      have v7 := HV5.out.cell 7 _ rfl
      have v8 := HV5.out.cell 8 _ rfl
      have v9 := HV5.out.cell 9 _ rfl
      have v10 := HV5.out.cell 10 _ rfl
      have v11 := HV5.out.cell 11 _ rfl
      have v12 := HV5.out.cell 12 _ rfl
      have v13 := HV5.out.cell 13 _ rfl
      have HVW := hid (fun u (hu : Below w5.heap.size w5 u) => view_any (HP5.out.ref.kept hu) HK.out)
      have HVV := hid (view_any HP5.out.ref HK.out)
      go_upto_region 9 with (go_at_call 17; refine Calls.mono HVV.out ?_; rintro e w6 ⟨rfl, hb⟩; have HP6 := hid (HP5.out.kept hb); have HB6 := hid (HBW5.out.trans (hb.mono HBW5.out.size)); clear hb)
      clear HP5 HBW5 HVW HVV HV5 v0 v1 v2 v3 v4 v5 v6 v7 v8 v9 v10 v11 v12 v13
      go_wp2
      go_loopw [8] (fun i wx => ∃ d : Nat, d ≤ 2 ∧ i = .int .i64 d ∧ Pair W wx n p g K D m gp cap c ∧ Below w.heap.size w wx) (fun i _ => 2 - (intOf i).toNat)
      case atStart => exact ⟨0, by decide, rfl, HP6.out, HB6.out⟩
      case round =>
        obtain ⟨d, hd, rfl, hp, hb⟩ := hrel
        clear HP6 HB6
        have HP7 := hid hp
        have HB7 := hid hb
        clear hp hb
        by_cases hlt : d < 2
        · have HD := hid hlt
          have d1 : (d : Int) < 2 := by omega
          clear hlt hd
          go_wp2
          go_loopw [9] (fun i wy => ∃ j : Nat, j ≤ 1 ∧ i = .int .i64 j ∧ Pair W wy n p g K D m gp cap c ∧ Below w.heap.size w wy) (fun i _ => 1 - (intOf i).toNat)
          case atStart => exact ⟨0, by decide, rfl, HP7.out, HB7.out⟩
          case round =>
            obtain ⟨j, hj, rfl, hp, hb⟩ := hrel
            clear HP7 HB7
            have HP8 := hid hp
            have HB8 := hid hb
            have HLY := hid (lying_any hp.ref HK.out HD.out)
            rw [HE.out k d, show (([] : List (List (BitVec 8) × (Nat → BitVec 8))).length : Int) = 0 from rfl] at HLY
            clear hp hb
            rcases (show j = 0 ∨ j = 1 by omega) with rfl | rfl
            · rw [show ((0 : Nat) : Int) = 0 from rfl]
              have HPK := hid (HP8.out.peek_end HK.out HD.out)
              rw [HE.out k d, show (([] : List (List (BitVec 8) × (Nat → BitVec 8))).length : Int) = 0 from rfl] at HPK
              go_upto_region 16 with (first
                | (go_at_call 18; refine Calls.mono HLY.out ?_; rintro e w9 ⟨rfl, rfl⟩)
                | (go_at_call 14; refine Calls.mono HPK.out ?_; rintro e w9 ⟨rfl, hb⟩; have HP9 := hid (HP8.out.kept hb); have HB9 := hid (HB8.out.trans (hb.mono HB8.out.size)); clear hb HP8 HB8))
              refine wp_world fun w10 HW => ?_
              obtain ⟨y, hy⟩ : ∃ y, y = w9.heap.size := ⟨_, rfl⟩
              have HB10 : Hid (Below w9.heap.size w9 w10) := by show Below _ _ _; rw [HW.out]; exact below_grow (Below.refl _ _) _
              have HY : Hid (Row w10 y [.slice none 0 0, .bool false] 39) := by show Row _ _ _ _; rw [HW.out, hy]; exact Row.new' _ _ _ _ _ rfl rfl
              have HP10 := hid (HP9.out.kept HB10.out)
              have HBW10 := hid (HB9.out.trans (HB10.out.mono HB9.out.size))
              rw [← hy]
              clear hy HW HB10 HP9 HB9 HPK HLY
              have HRP := hid (HP10.out.rpeek_end HK.out HD.out)
              rw [HE.out k d, show (([] : List (List (BitVec 8) × (Nat → BitVec 8))).length : Int) = 0 from rfl] at HRP
              go_upto_region 17 with (go_at_call 19; refine Calls.mono HRP.out ?_; rintro e w11 ⟨rfl, hb⟩; have HP11 := hid (HP10.out.kept hb); have HB11 := hid (HBW10.out.trans (hb.mono HBW10.out.size)); have HY11 := hid (HY.out.kept hb HY.out.lt); clear hb)
              clear HP10 HBW10 HY HRP
              refine wp_world fun w12 HW => ?_
              obtain ⟨z, hz⟩ : ∃ z, z = w11.heap.size := ⟨_, rfl⟩
              have HB12 : Hid (Below w11.heap.size w11 w12) := by show Below _ _ _; rw [HW.out]; exact below_grow (Below.refl _ _) _
              have HZ : Hid (Row w12 z [.slice none 0 0, .bool false] 72) := by show Row _ _ _ _; rw [HW.out, hz]; exact Row.new' _ _ _ _ _ rfl rfl
              have HP12 := hid (HP11.out.kept HB12.out)
              have HBW12 := hid (HB11.out.trans (HB12.out.mono HB11.out.size))
              have HY12 := hid (HY11.out.kept HB12.out HY11.out.lt)
              rw [← hz]
              clear hz HW HB12 HP11 HB11 HY11
              have y0 := HY12.out.cell 0 _ rfl
              have y1 := HY12.out.cell 1 _ rfl
              have z0 := HZ.out.cell 0 _ rfl
              have z1 := HZ.out.cell 1 _ rfl
              have HPC := hid (parcel_none (w := w12) 45)
              go_wp2_with (go_at_call 20; refine Calls.mono HPC.out ?_; rintro e w13 ⟨rfl, hb⟩; have HP13 := hid (HP12.out.kept hb); have HB13 := hid (HBW12.out.trans (hb.mono HBW12.out.size)); clear hb)
              go_roundw
              case rel => exact ⟨1, by decide, rfl, HP13.out, HB13.out⟩
              case measure => simp [intOf]
            · rw [show ((1 : Nat) : Int) = 1 from rfl]
              go_wp2_with (go_at_call 18; refine Calls.mono HLY.out ?_; rintro e w9 ⟨rfl, rfl⟩)
              go_roundw
              case rel => exact ⟨d + 1, HD.out, by first | go_num | (rw [Int.natCast_succ]), HP8.out, HB8.out⟩
              case measure =>
                simp [intOf]
                have := HD.out
                omega
        · have e3 : decide ((d : Int) < 2) = false := decide_eq_false (by omega)
          clear hlt hd
          go_wp2
          go_roundw
          case rel => exact ⟨k + 1, HK.out, by first | go_num | (rw [Int.natCast_succ]), HP7.out, HB7.out⟩
          case measure =>
            simp [intOf]
            have := HK.out
            omega
    · have e1 : decide ((k : Int) < (n : Int)) = false := decide_eq_false (by omega)
      have e2 : decide (k < n) = false := decide_eq_false hlt
      clear hlt hk
      go_wp2
      go_ret
      exact ⟨rfl, HB2.out⟩
end
end Go.Proofs.Ytjnmfedefmemnab
namespace Go.Proofs.Ytjnmfedefmemnab
open Go.RowKit Go.Maps
set_option maxRecDepth 100000

/-- A path of the document's net as New makes it. -/
def refv (c : Int) : List Value := [.bool true, .int .i64 c, .slice none 0 0, .slice none 0 0, .int .u64 0, .int .u64 0, .int .u64 0, .int .u64 0, .int .u64 0, .int .u64 0, .int .u64 0, .int .u64 0, .int .u64 0, .int .u64 0]
def refs (cs : List Int) : List Value := cs.flatMap refv
theorem refs_len : ∀ cs : List Int, (refs cs).length = cs.length * 14
  | [] => rfl
  | c :: r => by
    have := refs_len r
    simp only [refs, List.flatMap_cons, List.length_append, List.length_cons, show (refv c).length = 14 from rfl] at *
    omega
theorem refs_snoc (cs : List Int) (c : Int) : refs (cs ++ [c]) = refs cs ++ refv c := by simp [refs]
theorem refs_get : ∀ (cs : List Int) (i j : Nat) (hi : i < cs.length) (_ : j < 14), (refs cs)[i * 14 + j]? = (refv cs[i])[j]?
  | o :: r, 0, j, _, hj => by
    simp only [refs, List.flatMap_cons, Nat.zero_mul, Nat.zero_add, List.getElem_cons_zero]
    rw [List.getElem?_append_left (by rw [show (refv o).length = 14 from rfl]; exact hj)]
  | o :: r, i + 1, j, hi, hj => by
    have h := refs_get r i j (by simpa using hi) hj
    simp only [refs, List.flatMap_cons, List.getElem_cons_succ] at *
    rw [List.getElem?_append_right (by rw [show (refv o).length = 14 from rfl]; omega), show (refv o).length = 14 from rfl, show (i + 1) * 14 + j - 14 = i * 14 + j by omega]
    exact h
theorem info69 : ∃ (i : TypeInfo) (z : Value), Try.prog.info? 69 = some i ∧ i.zero = some z ∧ i.size = 14 ∧ i.bytes = 144 ∧ z.cells.size = 14 := by
  have h : (Try.prog.info? 69).map (fun i => (i.zero.map fun z => z.cells.size, i.size, i.bytes)) = some (some 14, 14, 144) := by kernel_rfl
  cases hq : Try.prog.info? 69 with
  | none => rw [hq] at h; cases h
  | some i =>
    rw [hq] at h
    simp at h
    obtain ⟨⟨z, hz, hs⟩, h1, h2⟩ := h
    exact ⟨i, z, rfl, hz, h1, h2, hs⟩
theorem build69 (c : Int) (w : World) : (Instr.build 69 #[(0, .bool true), (1, .int .i64 c)]).run Try.prog w = .ok (.agg (refv c).toArray) w := run_build w 69 _ _ (by kernel_rfl)
theorem append_ref {base k : Nat} {w : World} {v : Value} {xs : List Value} (h : w.ownsRow base 69 14 v k xs) (hk : k ≤ 8) (hbase : base ≤ w.heap.size) (c : Int) :
    ∃ v' w', (Builtin.append_ #[63, 63] 63 #[v, .slice (some ⟨w.heap.size, 0, none⟩) 1 1]).run Try.prog (w.alloc (.cells (refv c).toArray 69)).drew = .ok v' w' ∧ w'.ownsRow base 69 14 v' (k + 1) (xs ++ refv c) ∧ Only v.ownBlock.toList w w' := by
  obtain ⟨i, z, i1, i2, i3, i4, i5⟩ := info69
  have hal : Below w.heap.size w (w.alloc (.cells (refv c).toArray 69)).drew := ((Below.refl _ _).alloc (Nat.le_refl _) _).drew
  have h' : (w.alloc (.cells (refv c).toArray 69)).drew.ownsRow base 69 14 v k xs := h.alloc _
  obtain ⟨v', w', hr, ho, hg, _⟩ := run_append_own (P := Try.prog) (w.alloc (.cells (refv c).toArray 69)).drew base 63 63 69 i z 14 144 Try.underlying63 i1 i2 i3 i4 i5 (by decide) v k xs h' ⟨w.heap.size, 0, none⟩ 1 1 (refv c) rfl (fun j u hu => by
    rw [Addr.add_mid]
    have := (Row.new w (refv c) 69).cell j u hu
    rw [Nat.zero_add]
    exact this) (by simp [refv, Value.oneCell']) (by unfold maxLen; omega) (by omega) (Nat.le_trans hbase hal.size)
  refine ⟨v', w', hr, ho, ?_⟩
  have h2 : Only v.ownBlock.toList (w.alloc (.cells (refv c).toArray 69)).drew w' := ⟨hg.os, hg.tape, hg.output, hg.size, fun k hk hs => hg.block k hk (fun e => hs (by rw [← e]; simp))⟩
  exact (Only.of_below hal (Nat.le_refl _)).trans h2 (fun x hx => .inl hx)
end Go.Proofs.Ytjnmfedefmemnab
namespace Go.Proofs.Ytjnmfedefmemnab
open Go.RowKit Go.Maps
set_option maxRecDepth 100000

theorem getD_fs' {fs : List Int} {k : Nat} (hk : k < fs.length) : fs.getD k 0 = fs[k] := by rw [List.getD_eq_getElem?_getD, List.getElem?_eq_getElem hk]; rfl
theorem rnew_len {w : World} {a : Option Addr} {n cap : Nat} (h : n < 1 ∨ 8 < n) : Calls Try.prog 7 #[.slice a n cap] w fun e w' => e = .returned (.tuple #[.pointer none, .int .i64 40]) ∧ w' = w := by
  by_cases h1 : n < 1
  · obtain rfl : n = 0 := by omega
    clear h h1
    go_enter Try.func7, Try.ntmps7
    go_wp2
    go_ret2
    exact ⟨rfl, rfl⟩
  · have q1 : decide ((n : Int) < 1) = false := decide_eq_false (by omega)
    have q2 : decide ((8 : Int) < (n : Int)) = true := decide_eq_true (by omega)
    have q3 : decide (n < 1) = false := decide_eq_false h1
    have q4 : decide (8 < n) = true := decide_eq_true (by omega)
    have q5 : decide (n = 0) = false := decide_eq_false (by omega)
    clear h h1
    go_enter Try.func7, Try.ntmps7
    go_wp2
    go_ret2
    exact ⟨rfl, rfl⟩
theorem owns_cells {base k : Nat} {w : World} {pv : Value} {xs : List Value} (h : w.ownsRow base 69 14 pv k xs) (h0 : 0 < k) : ∃ (gp cap : Nat) (cur : List Value), pv = .slice (some ⟨gp, 0, none⟩) k cap ∧ k ≤ cap ∧ Row w gp cur 69 ∧ ∀ (j : Nat) (v : Value), xs[j]? = some v → cur[j]? = some v := by
  obtain ⟨h1, ⟨_, h0'⟩ | ⟨g, cap, cur, rfl, hb, hh, hc, _, hs, ht⟩⟩ := h
  · omega
  · refine ⟨g, cap, cur.toList, rfl, hc, ⟨by simpa using hh⟩, fun j v hv => ?_⟩
    have hj : j < k * 14 := by have := (List.getElem?_eq_some_iff.1 hv).1; omega
    rw [← hv, ← ht, List.getElem?_take_of_lt hj]
theorem refR_new {w : World} {m n base : Nat} {pv : Value} {cs : List Int} (hn : cs.length = n) (h1 : 1 ≤ n) (h8 : n ≤ 8) (R : Row w m [pv] 65) (h : w.ownsRow base 69 14 pv n (refs cs)) : ∃ gp cap c, RefR w m gp n cap c (newD cs) := by
  obtain ⟨gp, cap, cur, rfl, hc, r, hx⟩ := owns_cells h (by omega)
  have at_ : ∀ k i v, k < n → i < 14 → (refv (cs.getD k 0))[i]? = some v → cur[k * 14 + i]? = some v := fun k i v hk hi hv => by
    have hk' : k < cs.length := by omega
    refine hx _ _ ?_
    rw [refs_get cs k i hk' hi, ← getD_fs' hk']
    exact hv
  refine ⟨gp, cap, cur, ⟨R, r, h8, hc, fun k hk => ?_, fun k hk => at_ k 1 _ hk (by decide) rfl, fun k d hk hd => ⟨none, 0, ?_⟩, fun k i hk h4 h14 => ?_⟩⟩
  · have := at_ k 0 _ hk (by decide) rfl
    rwa [Nat.add_zero] at this
  · rw [Nat.add_assoc]
    refine at_ k (2 + d) _ hk (by omega) ?_
    rcases (show d = 0 ∨ d = 1 by omega) with rfl | rfl <;> rfl
  · refine at_ k i _ hk h14 ?_
    rcases (show i = 4 ∨ i = 5 ∨ i = 6 ∨ i = 7 ∨ i = 8 ∨ i = 9 ∨ i = 10 ∨ i = 11 ∨ i = 12 ∨ i = 13 by omega) with rfl | rfl | rfl | rfl | rfl | rfl | rfl | rfl | rfl | rfl <;> rfl
set_option maxHeartbeats 2000000 in
theorem rnew_list {w : World} {a : Option Addr} {n cap : Nat} {cs : List Int} (hC : CellsAt w a (cs.map (Value.int .i64))) (hn : cs.length = n) (h1 : 1 ≤ n) (h2 : n ≤ 8) :
    Calls Try.prog 7 #[.slice a n cap] w fun e w' => Below w.heap.size w w' ∧ (((∃ c ∈ cs, ¬ goodCap c) ∧ e = .returned (.tuple #[.pointer none, .int .i64 41])) ∨
      ((∀ c ∈ cs, goodCap c) ∧ ∃ m gp cap' c, e = .returned (.tuple #[.pointer (some ⟨m, 0, none⟩), .int .i64 0]) ∧ RefR w' m gp n cap' c (newD cs))) := by
  have HC := hid hC
  have HN := hid hn
  have HL1 := hid h1
  have HL8 := hid h2
  have q1 : decide ((n : Int) < 1) = false := decide_eq_false (by omega)
  have q2 : decide ((8 : Int) < (n : Int)) = false := decide_eq_false (by omega)
  have q3 : decide (n < 1) = false := decide_eq_false (by omega)
  have q4 : decide (8 < n) = false := decide_eq_false (by omega)
  have q5 : decide (n = 0) = false := decide_eq_false (by omega)
  have q6 : ¬ (n = 0) := by omega
  clear hC hn h1 h2
  go_enter Try.func7, Try.ntmps7
  go_upto_region 5 with (fail)
  refine wp_world fun w1 HW => ?_
  obtain ⟨m, hm⟩ : ∃ m, m = w.heap.size := ⟨_, rfl⟩
  have HM : Hid (Row w1 m [.slice none 0 0] 65) := by show Row _ _ _ _; rw [HW.out, hm]; exact Row.new' _ _ _ _ _ rfl rfl
  have HB1 : Hid (Below w.heap.size w w1) := by show Below _ _ _; rw [HW.out]; exact below_grow (Below.refl _ _) _
  have HMS : Hid (w.heap.size ≤ m) := by show _ ≤ _; omega
  rw [← hm]
  clear hm HW q1 q2 q3 q4 q5 q6
  go_loopw [5] (fun i wr => ∃ (k : Nat) (pv : Value), k ≤ n ∧ i = .int .i64 k ∧ Row wr m [pv] 65 ∧ wr.ownsRow w.heap.size 69 14 pv k (refs (cs.take k)) ∧ Below w.heap.size w wr ∧ ∀ c ∈ cs.take k, goodCap c) (fun i _ => n - (intOf i).toNat)
  case atStart => exact ⟨0, _, Nat.zero_le _, rfl, HM.out, ⟨rfl, .inl ⟨rfl, rfl⟩⟩, HB1.out, by simp⟩
  case round =>
    obtain ⟨k, pv, hk, rfl, hr, ho, hb, hg⟩ := hrel
    clear HM HB1
    have HR := hid hr
    have HO := hid ho
    have HB := hid hb
    have HG := hid hg
    clear hr ho hb hg
    by_cases hlt : k < n
    · have hkc : k < cs.length := by rw [HN.out]; exact hlt
      obtain ⟨ga, oa, rfl, ca⟩ := HC.out k (by simpa using hkc)
      rw [List.getElem_map] at ca
      have l1 : (k : Int) < (n : Int) := by omega
      have hx : cs[k] ∈ cs := List.getElem_mem hkc
      have HX := hid hx
      have hts : cs.take (k + 1) = cs.take k ++ [cs[k]] := take_snoc cs k hkc
      have HTS := hid hts
      have ca2 := cell_kept HB.out ca
      have HK := hid hlt
      have hk8 : (k : Int) ≤ 8 := by have := HL8.out; omega
      have HK8 : Hid (k ≤ 8) := by show _ ≤ _; omega
      generalize cs[k] = x at *
      clear ca hk hlt hkc hx hts
      by_cases hgood : goodCap x
      · have g1 : decide (x < 1) = false := decide_eq_false (by unfold goodCap at hgood; omega)
        have g2 : decide (1073741824 < x) = false := decide_eq_false (by unfold goodCap at hgood; omega)
        have HGD := hid hgood
        obtain ⟨v', w2, hrun, how, hon⟩ := append_ref HO.out HK8.out HB.out.size x
        obtain ⟨gn, cn, rfl⟩ : ∃ gn cn, v' = .slice (some ⟨gn, 0, none⟩) (k + 1) cn := by
          obtain ⟨gp, cp, _, e, _⟩ := owns_cells how (by omega)
          exact ⟨gp, cp, e⟩
        have c1 := HR.out.cell 0 _ rfl
        have c3 := (HR.out.alloc (.cells (refv x).toArray 69)).cell 0 _ rfl
        have hmn : m ∉ pv.ownBlock.toList := fun hmm => by
          obtain ⟨_, ⟨e, _⟩ | ⟨gg, cc, cur, e, _, hh, _⟩⟩ := HO.out
          · rw [e] at hmm; simp [Value.ownBlock] at hmm
          · rw [e] at hmm
            have : m = gg := by simpa [Value.ownBlock] using hmm
            subst this
            exact absurd (HR.out.type (⟨by simpa using hh⟩ : Row wr m cur.toList 69)) (by decide)
        have hR2 := hon.row HR.out hmn
        have c2 := hR2.cell 0 _ rfl
        have f2 := hR2.frozen 0
        have hB2 : Below w.heap.size w w2 := HB.out.trans (hon.below HB.out.size (fun y hy => by
          obtain ⟨_, ⟨e, _⟩ | ⟨gg, cc, cur, e, hbb, hh, _⟩⟩ := HO.out
          · rw [e] at hy; simp [Value.ownBlock] at hy
          · rw [e] at hy
            have : y = gg := by simpa [Value.ownBlock] using hy
            omega))
        have HFIN : Hid (∃ pv', .slice (some ⟨gn, 0, none⟩) (k + 1) cn = pv' ∧ Row (w2.setCell ⟨m, 0, none⟩ pv') m [pv'] 65 ∧ (w2.setCell ⟨m, 0, none⟩ pv').ownsRow w.heap.size 69 14 pv' (k + 1) (refs (cs.take (k + 1))) ∧ Below w.heap.size w (w2.setCell ⟨m, 0, none⟩ pv')) := by
          refine ⟨_, rfl, hR2.set 0 _, ?_, hB2.setCell (p := ⟨m, 0, none⟩) HMS.out _⟩
          rw [HTS.out, refs_snoc]
          obtain ⟨h1, h2 | ⟨gg, cc, cur, e, hbb, hh, rest⟩⟩ := how
          · exact ⟨h1, .inl h2⟩
          · have rr : Row w2 gg cur.toList 69 := ⟨by simpa using hh⟩
            have rr' := (rr.setOther ⟨m, 0, none⟩ (fun e => by
              have e : gg = m := e
              subst e
              exact absurd (hR2.type rr) (by decide)) (.slice (some ⟨gn, 0, none⟩) (k + 1) cn)).at_
            exact ⟨h1, .inr ⟨gg, cc, cur, e, hbb, by simpa using rr', rest⟩⟩
        have HRUN := hid hrun
        have hbld := build69 x
        simp only [refv] at hbld c3 HRUN
        clear hrun how hon hmn hR2 hB2 hgood
        have HGN : Hid (∀ c ∈ cs.take (k + 1), goodCap c) := fun c hc => by
          rw [HTS.out] at hc
          rcases List.mem_append.1 hc with hc | hc
          · exact HG.out c hc
          · obtain rfl : c = x := by simpa using hc
            exact HGD.out
        go_upto_region 9 with (fail)
        go_region_law (refine step_append_by (by rfl) _ _ _ (by rfl) (by rfl) (by rfl) HRUN.out ?_)
        all_goals
          go_wp2
          go_roundw
          case rel =>
            obtain ⟨_, rfl, h1, h2, h3⟩ := HFIN.out
            exact ⟨k + 1, _, HK.out, by first | go_num | (rw [Int.natCast_succ]), h1, h2, h3, HGN.out⟩
          case measure =>
            simp [intOf]
            have := HK.out
            omega
      · have HBAD : Hid (∃ c ∈ cs, ¬ goodCap c) := ⟨x, HX.out, hgood⟩
        by_cases g1 : x < 1
        · clear hgood
          go_wp2
          go_ret2
          exact ⟨HB.out, .inl ⟨HBAD.out, rfl⟩⟩
        · have g2 : decide (x < 1) = false := decide_eq_false g1
          have g3 : 1073741824 < x := by unfold goodCap at hgood; omega
          have g4 : decide (1073741824 < x) = true := decide_eq_true g3
          clear hgood g1 g3
          go_wp2
          go_ret2
          exact ⟨HB.out, .inl ⟨HBAD.out, rfl⟩⟩
    · have e1 : decide ((k : Int) < (n : Int)) = false := decide_eq_false (by omega)
      have e2 : decide (k < n) = false := decide_eq_false hlt
      have ek : k = n := by omega
      have HEK := hid ek
      have HTA : Hid (cs.take k = cs) := List.take_of_length_le (by rw [HN.out, HEK.out]; exact Nat.le_refl _)
      clear hlt hk ek
      go_wp2
      go_ret2
      rw [HTA.out] at HO HG
      have ho := HO.out
      rw [HEK.out] at ho
      obtain ⟨gp, cap', c, hr⟩ := refR_new HN.out HL1.out HL8.out HR.out ho
      exact ⟨HB.out, .inr ⟨HG.out, m, gp, cap', c, rfl, hr⟩⟩
end Go.Proofs.Ytjnmfedefmemnab
namespace Go.Proofs.Ytjnmfedefmemnab
open Go.RowKit Go.Maps
set_option maxRecDepth 100000

/-- A list that New refuses, and how. -/
def Bad (cs : List Int) (n : Nat) (er : Int) : Prop := ((n < 1 ∨ 8 < n) ∧ er = 40) ∨ ((1 ≤ n ∧ n ≤ 8) ∧ (∃ c ∈ cs, ¬ goodCap c) ∧ er = 41)
theorem bad_or (cs : List Int) (n : Nat) : (∃ er, Bad cs n er) ∨ ((1 ≤ n ∧ n ≤ 8) ∧ ∀ c ∈ cs, goodCap c) := by
  by_cases h : n < 1 ∨ 8 < n
  · exact .inl ⟨40, .inl ⟨h, rfl⟩⟩
  · have h18 : 1 ≤ n ∧ n ≤ 8 := by omega
    by_cases hg : ∀ c ∈ cs, goodCap c
    · exact .inr ⟨h18, hg⟩
    · refine .inl ⟨41, .inr ⟨h18, ?_, rfl⟩⟩
      exact Classical.byContradiction fun hc => hg fun c hm => Classical.byContradiction fun hn => hc ⟨c, hm, hn⟩
section
variable {w : World} {a : Option Addr} {n cap : Nat} {cs : List Int} {er : Int}
theorem new_bad (hC : CellsAt w a (cs.map (Value.int .i64))) (hn : cs.length = n) (hb : Bad cs n er) : Calls Try.prog 6 #[.slice a n cap] w fun e w' => e = .returned (.tuple #[.pointer none, .int .i64 er]) ∧ Below w.heap.size w w' := by
  rcases hb with ⟨h, rfl⟩ | ⟨⟨h1, h8⟩, ⟨c, hc, hbad⟩, rfl⟩
  · exact (new_len h).mono fun _ _ ⟨h1, h2⟩ => ⟨h1, by rw [h2]; exact Below.refl _ _⟩
  · refine (new_list hC hn h1 h8).mono ?_
    rintro e w' ⟨hb, ⟨_, rfl⟩ | ⟨hg, _⟩⟩
    · exact ⟨rfl, hb⟩
    · exact absurd (hg c hc) hbad
theorem rnew_bad (hC : CellsAt w a (cs.map (Value.int .i64))) (hn : cs.length = n) (hb : Bad cs n er) : Calls Try.prog 7 #[.slice a n cap] w fun e w' => e = .returned (.tuple #[.pointer none, .int .i64 er]) ∧ Below w.heap.size w w' := by
  rcases hb with ⟨h, rfl⟩ | ⟨⟨h1, h8⟩, ⟨c, hc, hbad⟩, rfl⟩
  · exact (rnew_len h).mono fun _ _ ⟨h1, h2⟩ => ⟨h1, by rw [h2]; exact Below.refl _ _⟩
  · refine (rnew_list hC hn h1 h8).mono ?_
    rintro e w' ⟨hb, ⟨_, rfl⟩ | ⟨hg, _⟩⟩
    · exact ⟨rfl, hb⟩
    · exact absurd (hg c hc) hbad
theorem rnew_good (hC : CellsAt w a (cs.map (Value.int .i64))) (hn : cs.length = n) (h1 : 1 ≤ n) (h8 : n ≤ 8) (hg : ∀ c ∈ cs, goodCap c) : Calls Try.prog 7 #[.slice a n cap] w fun e w' => ∃ m gp cap' c, e = .returned (.tuple #[.pointer (some ⟨m, 0, none⟩), .int .i64 0]) ∧ RefR w' m gp n cap' c (newD cs) ∧ Below w.heap.size w w' := by
  refine (rnew_list hC hn h1 h8).mono ?_
  rintro e w' ⟨hb, ⟨⟨c, hc, hbad⟩, _⟩ | ⟨_, m, gp, cap', c, rfl, hr⟩⟩
  · exact absurd (hg c hc) hbad
  · exact ⟨m, gp, cap', c, rfl, hr, hb⟩
end
theorem append_ints {w : World} {a : Option Addr} {n cap : Nat} {cs : List Int} (hC : CellsAt w a (cs.map (Value.int .i64))) (hn : cs.length = n) (hm : n ≤ 17592186043904) (hnil : a = none → cap = 0) :
    ∃ v' w', (Builtin.append_ #[22, 22] 22 #[.slice none 0 0, .slice a n cap]).run Try.prog w = .ok v' w' ∧ w'.ownsRow w.heap.size 3 1 v' n (cs.map (Value.int .i64)) ∧ Below w.heap.size w w' := by
  obtain ⟨i, i1, i2, i3, i4⟩ := info3
  have h0 : w.ownsRow w.heap.size 3 1 (.slice none 0 0) 0 [] := ⟨rfl, .inl ⟨rfl, rfl⟩⟩
  cases a with
  | none =>
    have hn0 : n = 0 := Classical.byContradiction fun h => by
      obtain ⟨g, o, e, _⟩ := hC 0 (by simp; omega)
      cases e
    subst hn0
    rw [hnil rfl]
    have hcs : cs = [] := List.eq_nil_of_length_eq_zero hn
    subst hcs
    exact ⟨_, _, run_append_owned_none w w.heap.size 22 22 3 i 1 Try.underlying22 i1 _ _ _ h0, h0, Below.refl _ _⟩
  | some ad =>
    obtain ⟨v', w', hr, ho, hg, _⟩ := run_append_own (P := Try.prog) w w.heap.size 22 22 3 i (.int .i64 0) 1 8 Try.underlying22 i1 i2 i3 i4 rfl (by decide) _ _ _ h0 ad n cap (cs.map (Value.int .i64)) (by simp; omega) (fun j u hu => by
      have hj := (List.getElem?_eq_some_iff.1 hu).1
      obtain ⟨g, o, e, c⟩ := hC j hj
      cases e
      rw [Addr.add_mid, c, ← hu, List.getElem?_eq_getElem hj]) (by simp [Value.oneCell']) (by unfold maxLen; omega) (by omega) (Nat.le_refl _)
    refine ⟨v', w', hr, by simpa using ho, ⟨hg.os, hg.tape, hg.output, hg.size, fun k hk => hg.block k hk (by simp [Value.ownBlock])⟩⟩
theorem append_one {base m : Nat} {w : World} {v : Value} {xs : List Value} (h : w.ownsRow base 3 1 v m xs) (hm : m ≤ 17592186043904) (hbase : base ≤ w.heap.size) (x : Int) :
    ∃ v' w', (Builtin.append_ #[22, 22] 22 #[v, .slice (some ⟨w.heap.size, 0, none⟩) 1 1]).run Try.prog (w.alloc (.cells #[.int .i64 x] 3)) = .ok v' w' ∧ w'.ownsRow base 3 1 v' (m + 1) (xs ++ [.int .i64 x]) ∧ Below base w w' := by
  obtain ⟨i, i1, i2, i3, i4⟩ := info3
  have hal := below_grow (Below.refl w.heap.size w) (.cells #[.int .i64 x] 3)
  have h' : (w.alloc (.cells #[.int .i64 x] 3)).ownsRow base 3 1 v m xs := h.alloc _
  obtain ⟨v', w', hr, ho, hg, _⟩ := run_append_own (P := Try.prog) (w.alloc (.cells #[.int .i64 x] 3)) base 22 22 3 i (.int .i64 0) 1 8 Try.underlying22 i1 i2 i3 i4 rfl (by decide) v m xs h' ⟨w.heap.size, 0, none⟩ 1 1 [.int .i64 x] rfl (fun j u hu => by
    match j, hu with
    | 0, hu => simp at hu; subst hu; rw [Addr.add_mid]; exact (Row.new w [Value.int .i64 x] 3).cell 0 _ rfl) (by simp [Value.oneCell']) (by unfold maxLen; omega) (by omega) (Nat.le_trans hbase hal.size)
  refine ⟨v', w', hr, ho, (hal.mono hbase).trans ⟨hg.os, hg.tape, hg.output, hg.size, fun k hk => hg.block k (by have := hal.size; omega) (fun e => ?_)⟩⟩
  obtain ⟨_, ⟨rfl, _⟩ | ⟨g, cap, cur, rfl, hbb, _⟩⟩ := h
  · cases e
  · simp only [Value.ownBlock, Option.some.injEq] at e
    omega
/-- The list that the law handed in: in a row of its own, marked up to a place. -/
structure Give (w : World) (gv n i : Nat) (cur : List Value) (cs : List Int) : Prop where
  row : Row w gv cur 3
  rest : ∀ j (h : j < cs.length), i ≤ j → cur[j]? = some (.int .i64 cs[j])
  last : cur[n]? = some (.int .i64 (-7))
theorem Give.step {w : World} {gv n i : Nat} {cur : List Value} {cs : List Int} (h : Give w gv n i cur cs) (hi : i < n) : Give (w.setCell ⟨gv, i, none⟩ (.int .i64 1)) gv n (i + 1) (cur.set i (.int .i64 1)) cs :=
  ⟨h.row.set _ _, fun j hj hle => by rw [List.getElem?_set_ne (by omega)]; exact h.rest j hj (by omega), by rw [List.getElem?_set_ne (by omega)]; exact h.last⟩
theorem Give.kept {w w' : World} {gv n i : Nat} {cur : List Value} {cs : List Int} (h : Give w gv n i cur cs) (hb : Below w.heap.size w w') : Give w' gv n i cur cs := { h with row := h.row.kept hb h.row.lt }
theorem give_of {base n : Nat} {w : World} {v : Value} {cs : List Int} (hn : cs.length = n) (h : w.ownsRow base 3 1 v (n + 1) (cs.map (Value.int .i64) ++ [.int .i64 (-7)])) : ∃ gv cap cur, v = .slice (some ⟨gv, 0, none⟩) (n + 1) cap ∧ n + 1 ≤ cap ∧ base ≤ gv ∧ Give w gv n 0 cur cs := by
  obtain ⟨h1, ⟨_, h0⟩ | ⟨g, cap, cur, rfl, hb, hh, hc, _, hs, ht⟩⟩ := h
  · omega
  · have at_ : ∀ j v, j < n + 1 → (cs.map (Value.int .i64) ++ [.int .i64 (-7)])[j]? = some v → cur.toList[j]? = some v := fun j v hj hv => by rw [← hv, ← ht, List.getElem?_take_of_lt (by omega)]
    refine ⟨g, cap, cur.toList, rfl, hc, hb, ⟨⟨by simpa using hh⟩, fun j hj _ => at_ j _ (by omega) ?_, at_ n _ (by omega) ?_⟩⟩
    · rw [List.getElem?_append_left (by simpa using hj), List.getElem?_map, List.getElem?_eq_getElem hj]
      rfl
    · rw [List.getElem?_append_right (by simp [hn]), List.length_map, hn, Nat.sub_self]
      rfl
theorem Give.cells {w : World} {gv n : Nat} {cur : List Value} {cs : List Int} (h : Give w gv n 0 cur cs) : CellsAt w (some ⟨gv, 0, none⟩) (cs.map (Value.int .i64)) := fun j hj => ⟨gv, 0, rfl, by
  have hj' : j < cs.length := by simpa using hj
  rw [Nat.zero_add, List.getElem_map]
  exact h.row.cell j _ (h.rest j hj' (Nat.zero_le _))⟩
theorem Pair.mark {W w : World} {n p g K : Nat} {D : Dat} {m gp cap : Nat} {c : List Value} (h : Pair W w n p g K D m gp cap c) {gv i : Nat} {cur : List Value} (r : Row w gv cur 3) (v : Value) : Pair W (w.setCell ⟨gv, i, none⟩ v) n p g K D m gp cap c := by
  obtain ⟨vs, fr, hn⟩ := h.net
  have ho : Only [gv] w (w.setCell ⟨gv, i, none⟩ v) := (Only.refl _ _).setCell _ _ _ (.inl (by simp))
  refine ⟨⟨vs, fr, hn.far ho (fun x hx => ⟨cur, 3, (by simpa using hx : x = gv) ▸ r, by decide, by decide, by decide, by decide, by decide⟩)⟩, { h.ref with net := ho.row h.ref.net ?_, row := ho.row h.ref.row ?_ }⟩
  · intro hm
    have e : m = gv := by simpa using hm
    subst e
    exact absurd (r.type h.ref.net) (by decide)
  · intro hm
    have e : gp = gv := by simpa using hm
    subst e
    exact absurd (r.type h.ref.row) (by decide)
end Go.Proofs.Ytjnmfedefmemnab
namespace Go.Proofs.Ytjnmfedefmemnab
open Go.RowKit Go.Maps
set_option maxRecDepth 100000

set_option maxHeartbeats 4000000 in
theorem makes_any {w : World} {a : Option Addr} {n cap : Nat} {cs : List Int} (hC : CellsAt w a (cs.map (Value.int .i64))) (hn : cs.length = n) (hm : n ≤ 17592186043904) (hnil : a = none → cap = 0) :
    Calls Try.prog 3 #[.slice a n cap] w fun e w' => e = .returned (.bool true) ∧ Below w.heap.size w w' := by
  obtain ⟨v1, w1, hr1, ho1, hb1⟩ := append_ints hC hn hm hnil
  obtain ⟨v2, w2, hr2, ho2, hb2⟩ := append_one ho1 hm hb1.size (-7)
  obtain ⟨gv, capv, cur, rfl, hcap, hgv, hG⟩ := give_of hn ho2
  have HR1 := hid hr1
  have HR2 := hid hr2
  have HG := hid hG
  have HGV := hid hgv
  have HB2 := hid (hb1.trans hb2)
  have HC := hid hC
  have HN := hid hn
  have n1 : (n : Int) ≤ 17592186043904 := by omega
  have n2 : (n : Int) ≤ (capv : Int) := by omega
  have n3 : n ≤ capv := by omega
  have n4 : ¬ (capv = 0) := by omega
  have n5 : (n : Int) < ((n + 1 : Nat) : Int) := by omega
  have n6 : n < n + 1 := by omega
  have n7 : n ≤ n + 1 := by omega
  clear hC hn hm hnil hr1 hr2 ho1 ho2 hb1 hb2 hcap hgv hG
  rcases bad_or cs n with ⟨er, hbad⟩ | ⟨⟨h1, h8⟩, hgood⟩
  · have HN1 := hid (new_bad (cap := capv) HG.out.cells HN.out hbad)
    have HBD := hid hbad
    clear hbad
    go_enter Try.func3, Try.ntmps3
    go_upto_region 5 with (first
      | (at_builtin; refine wpList_append_by rfl _ _ _ rfl rfl rfl HR1.out ?_)
      | (at_builtin; refine wpList_append_by rfl _ _ _ rfl rfl rfl HR2.out ?_)
      | (go_at_call 6; refine Calls.mono HN1.out ?_; rintro e w3 ⟨rfl, hb⟩; have HG3 := hid (HG.out.kept hb); have HB3 := hid (HB2.out.trans (hb.mono HB2.out.size)); clear hb))
    have HN2 := hid (rnew_bad (cap := cap) (HC.out.kept HB3.out) HN.out HBD.out)
    go_upto_region 6 with (go_at_call 7; refine Calls.mono HN2.out ?_; rintro e w4 ⟨rfl, hb⟩; have HG4 := hid (HG3.out.kept hb); have HB4 := hid (HB3.out.trans (hb.mono HB3.out.size)); clear hb)
    clear HN1 HN2 HG3 HB3 HB2 HG HR1 HR2 HBD
    have t1 : (er != er) = false := bne_self_eq_false _
    have c7 := HG4.out.row.cell n _ HG4.out.last
    go_wp2
    go_loopw [8] (fun i wr => ∃ (j : Nat) (cu : List Value), j ≤ n ∧ i = .int .i64 j ∧ Give wr gv n j cu cs ∧ Below w.heap.size w wr) (fun i _ => n - (intOf i).toNat)
    case atStart => exact ⟨0, _, Nat.zero_le _, rfl, HG4.out, HB4.out⟩
    case round =>
      obtain ⟨j, cu, hj, rfl, hg, hb⟩ := hrel
      clear HG4 HB4 c7
      have HG5 := hid hg
      have HB5 := hid hb
      clear hg hb
      by_cases hlt : j < n
      · have hjc : j < cs.length := by rw [HN.out]; exact hlt
        have cg := HG5.out.row.cell j _ (HG5.out.rest j hjc (Nat.le_refl _))
        have fg := HG5.out.row.frozen j
        obtain ⟨ga, oa, rfl, ca⟩ := HC.out j (by simpa using hjc)
        rw [List.getElem_map] at ca
        have ca2 := cell_kept HB5.out ca
        have l1 : (j : Int) < (n : Int) := by omega
        have l2 : (j : Int) < ((n + 1 : Nat) : Int) := by omega
        have l3 : j < n + 1 := by omega
        have l4 : (j : Int) ≤ 17592186043904 := by omega
        have HJ := hid hlt
        generalize cs[j] = x at *
        have t1 : (x != x) = false := bne_self_eq_false _
        clear ca hlt hj hjc
        go_upto_region 11 with (fail)
        go_quiet (fail)
        obtain ⟨w6, hw6⟩ : ∃ w6, w6 = wr.drewN nq := ⟨_, rfl⟩
        rw [← hw6]
        have HD6 : Hid (Below wr.heap.size wr w6) := by show Below _ _ _; rw [hw6]; exact below_drewN (Below.refl _ _) _
        have HG6 := hid (HG5.out.kept HD6.out)
        have HB6 := hid (HB5.out.trans (HD6.out.mono HB5.out.size))
        clear hw6 HG5 HB5 HD6 cg fg ca2
        have fg := HG6.out.row.frozen j
        have hjl : j < cu.length := by
          have := (List.getElem?_eq_some_iff.1 HG6.out.last).1
          have := HJ.out
          omega
        have cg := HG6.out.row.cell j (cu[j]'hjl) (List.getElem?_eq_getElem hjl)
        generalize cu[j]'hjl = y at *
        clear hjl
        go_wp2
        go_roundw
        case rel => exact ⟨j + 1, _, HJ.out, by first | go_num | (rw [Int.natCast_succ]), HG6.out.step HJ.out, HB6.out.setCell (p := ⟨gv, j, none⟩) HGV.out _⟩
        case measure =>
          simp [intOf]
          have := HJ.out
          omega
      · have e1 : decide ((j : Int) < (n : Int)) = false := decide_eq_false (by omega)
        have e2 : decide (j < n) = false := decide_eq_false hlt
        clear hlt hj
        go_wp2
        go_ret
        exact ⟨rfl, HB5.out⟩
  · have HN1 := hid (new_good (cap := capv) HG.out.cells HN.out h1 h8 hgood)
    have HL1 := hid h1
    have HL8 := hid h8
    have HGD := hid hgood
    clear hgood h1 h8
    go_enter Try.func3, Try.ntmps3
    go_upto_region 5 with (first
      | (at_builtin; refine wpList_append_by rfl _ _ _ rfl rfl rfl HR1.out ?_)
      | (at_builtin; refine wpList_append_by rfl _ _ _ rfl rfl rfl HR2.out ?_)
      | (go_at_call 6; refine Calls.mono HN1.out ?_; rintro e w3 ⟨p, g, rfl, hb, h3, h4, h5, h6⟩; have HNP := hid (netg_new HB2.out.size HN.out HGD.out h3 h4 h5 h6 0); have HG3 := hid (HG.out.kept hb); have HB3 := hid (HB2.out.trans (hb.mono HB2.out.size)); clear hb h3 h4 h5 h6))
    have HN2 := hid (rnew_good (cap := cap) (HC.out.kept HB3.out) HN.out HL1.out HL8.out HGD.out)
    go_upto_region 6 with (go_at_call 7; refine Calls.mono HN2.out ?_; rintro e w4 ⟨m, gp, cap', c, rfl, hr, hb⟩; have HP4 : Hid (Pair w w4 n p g 0 (newD cs) m gp cap' c) := ⟨⟨_, _, _, HNP.out.kept hb, datOf_new cs n HN.out⟩, hr⟩; have HG4 := hid (HG3.out.kept hb); have HB4 := hid (HB3.out.trans (hb.mono HB3.out.size)); clear hb hr)
    clear HN1 HN2 HG3 HB3 HB2 HG HR1 HR2 HNP
    have c7 := HG4.out.row.cell n _ HG4.out.last
    go_wp2
    go_loopw [8] (fun i wr => ∃ (j : Nat) (cu : List Value), j ≤ n ∧ i = .int .i64 j ∧ Give wr gv n j cu cs ∧ Below w.heap.size w wr ∧ Pair w wr n p g 0 (newD cs) m gp cap' c) (fun i _ => n - (intOf i).toNat)
    case atStart => exact ⟨0, _, Nat.zero_le _, rfl, HG4.out, HB4.out, HP4.out⟩
    case round =>
      obtain ⟨j, cu, hj, rfl, hg, hb, hp⟩ := hrel
      clear HG4 HB4 c7 HP4
      have HG5 := hid hg
      have HB5 := hid hb
      have HP5 := hid hp
      clear hg hb hp
      by_cases hlt : j < n
      · have hjc : j < cs.length := by rw [HN.out]; exact hlt
        have cg := HG5.out.row.cell j _ (HG5.out.rest j hjc (Nat.le_refl _))
        have fg := HG5.out.row.frozen j
        obtain ⟨ga, oa, rfl, ca⟩ := HC.out j (by simpa using hjc)
        rw [List.getElem_map] at ca
        have ca2 := cell_kept HB5.out ca
        have l1 : (j : Int) < (n : Int) := by omega
        have l2 : (j : Int) < ((n + 1 : Nat) : Int) := by omega
        have l3 : j < n + 1 := by omega
        have l4 : (j : Int) ≤ 17592186043904 := by omega
        have HJ := hid hlt
        generalize cs[j] = x at *
        have t1 : (x != x) = false := bne_self_eq_false _
        clear ca hlt hj hjc
        go_upto_region 11 with (fail)
        go_quiet (fail)
        obtain ⟨w6, hw6⟩ : ∃ w6, w6 = wr.drewN nq := ⟨_, rfl⟩
        rw [← hw6]
        have HD6 : Hid (Below wr.heap.size wr w6) := by show Below _ _ _; rw [hw6]; exact below_drewN (Below.refl _ _) _
        have HG6 := hid (HG5.out.kept HD6.out)
        have HB6 := hid (HB5.out.trans (HD6.out.mono HB5.out.size))
        have HP6 := hid (HP5.out.kept HD6.out)
        clear hw6 HG5 HB5 HD6 cg fg ca2 HP5
        have fg := HG6.out.row.frozen j
        have hjl : j < cu.length := by
          have := (List.getElem?_eq_some_iff.1 HG6.out.last).1
          have := HJ.out
          omega
        have cg := HG6.out.row.cell j (cu[j]'hjl) (List.getElem?_eq_getElem hjl)
        generalize cu[j]'hjl = y at *
        clear hjl
        go_wp2
        go_roundw
        case rel => exact ⟨j + 1, _, HJ.out, by first | go_num | (rw [Int.natCast_succ]), HG6.out.step HJ.out, HB6.out.setCell (p := ⟨gv, j, none⟩) HGV.out _, HP6.out.mark HG6.out.row _⟩
        case measure =>
          simp [intOf]
          have := HJ.out
          omega
      · have e1 : decide ((j : Int) < (n : Int)) = false := decide_eq_false (by omega)
        have e2 : decide (j < n) = false := decide_eq_false hlt
        clear hlt hj
        have HWH := hid (whole_empty HP5.out (fun _ _ => rfl))
        go_wp2_with (go_at_call 8; refine Calls.mono HWH.out ?_; rintro e w9 ⟨rfl, hb⟩; have HB9 := hid (HB5.out.trans (hb.mono HB5.out.size)); clear hb)
        go_ret
        exact ⟨rfl, HB9.out⟩
end Go.Proofs.Ytjnmfedefmemnab
namespace Go.Proofs.Ytjnmfedefmemnab
open Go.ChangeShapes Go.WideShapes Go.ChangeAt Go.RowKit Go.Deep

theorem bytes3 : Try.prog.bytesOf 3 = 8 := by kernel_rfl
theorem nil_cap {H : Type} {enc : TypeId × Value → H} {W : World} {sp : Nat → Bool} {held : Bool} {fuel len cap : Nat} {a : Option Addr} {x : DataW H × List MemPlace} (h : DataW.trod enc Try.prog W 0 sp held fuel 22 [.slice a len cap] = some x) : (a = none → cap = 0) ∧ (len = 0 ∨ ∃ elems sp, x.1 = .slice elems sp ∧ elems.length = len) := by
  rcases open_slice Try.underlying22 h with ⟨hcs, _⟩ | ⟨ad, l, c, m, n, D, Pl, hcs, _, hl, hm, hmm, hx, hel⟩
  · simp at hcs
    exact ⟨fun _ => hcs.2.2, .inl hcs.2.1⟩
  · simp at hcs
    refine ⟨fun e => ?_, .inr ⟨_, _, by rw [hx], ?_⟩⟩
    · rw [e] at hcs
      cases hcs.1
    · simp [hcs.2.1]
set_option maxRecDepth 100000 in
theorem makes_lifted (os : Os) (started : os.Started) (H : Type) (enc : TypeId × Value → H) :
    ReturnsInHanded {} Try.checked os 3 .any (Rows.simnetMakesSpec.pre6 enc Try.prog Try.f3 Rows.simnetMakesRow.domain false) (Rows.simnetMakesSpec.post enc Try.prog Try.f3 false true false false) := by
  refine returnsInHanded_of_change_sized (C := Try.checked) own started (by kernel_rfl) Try.func3
    (ChangeSpec.witness6 (enc := enc) (C := Try.checked) false ⟨#[], #[.slice none 0 0], []⟩ 8 (by kernel_rfl) (by kernel_rfl) (by kernel_rfl) (by kernel_rfl)) ?_
  intro W base args ds gs before hval0 hW _ hsz0 _
  have hsz : (DataW.weightsEach Try.prog (Try.f3.params.toList ++ Rows.simnetMakesSpec.plain.varTypes Try.prog) (ds ++ gs)).all (· ≤ reachBytes) = true := hsz0
  clear hsz0
  have hval : ∀ (j : Nat) t v, Try.f3.params[j]? = some t → args[j]? = some v → Value.okWide Try.prog W .any base t v := hval0
  have hW' := hW
  obtain ⟨p, q, hA0, hV, rfl, _, _⟩ := hW
  have hA : DataW.TrodAll enc Try.prog W 0 (fun _ => true) true Try.f3.params.toList args.toList ds p := hA0
  rw [Try.params3] at hA hval hsz
  obtain ⟨v0, d0, rfl, rfl, h0⟩ := trodAll_one hA
  obtain ⟨rfl, rfl⟩ := trodVars_none hV
  obtain ⟨a0, len, cap, rfl⟩ := okWide_slice Try.underlying22 (hval 0 22 v0 rfl rfl)
  have k0 := h0
  have lt0 : ∀ x ∈ p, x.block < W.heap.size := by obtain ⟨m, hm⟩ := k0; exact DataW.trod_lt m _ _ _ hm
  obtain ⟨hnil, hsl⟩ : (a0 = none → cap = 0) ∧ (len = 0 ∨ ∃ elems sp, d0 = .slice elems sp ∧ elems.length = len) := by
    obtain ⟨fuel, hf⟩ := h0
    exact nil_cap hf
  obtain ⟨ps, hpl, hP, _⟩ : ∃ ps : List Int, ps.length = len ∧ CellsAt W a0 (ps.map (Value.int .i64)) ∧ len ≤ Rows.uptoBulk d0 := by
    obtain ⟨fuel, hf⟩ := h0
    exact open_ints hf
  have hlen : len ≤ 17592186043904 := by
    rcases hsl with h | ⟨elems, sp, rfl, he⟩
    · omega
    · have := sized_slice hsz (j := 0) (t := 22) (e := 3) rfl rfl Try.underlying22
      rw [bytes3] at this
      simp only [reachBytes] at this
      omega
  clear hA0 hval0
  refine (makes_any (cap := cap) hP hpl hlen hnil).mono fun e W' ⟨he, bel⟩ => ?_
  subst he
  exact ⟨_, rfl, _, _, _, [], _, [], hW', trodAll_mk1 (shut_bool Try.underlying4 _), (trodAll_cons_mk (Below.trod laidOut (by kernel_rfl) (of_decide_eq_true (by kernel_rfl)) k0 bel lt0) trodAll_mk0), rfl, bel.frame _, fun h => by cases h⟩

/-- New of any list. -/
theorem makes_holds : Rows.SimnetMakesSaid :=
  OpenClaim.holds_of_wide 3 Try.f3 rfl rfl rfl rfl rfl rfl rfl ⟨rfl, rfl, rfl, rfl, rfl⟩ rfl rfl rfl rfl rfl (by kernel_rfl) Try.func3 (by kernel_rfl)
    (of_decide_eq_true (by kernel_rfl)) (by unfold Func.isWrapper; first | (rw [if_pos (by decide +kernel)]; kernel_rfl) | (rw [if_neg (by decide +kernel)]; exact ⟨rfl, rfl⟩))
    (fun os started H enc _ => makes_lifted os started H enc)
#print axioms makes_holds
end Go.Proofs.Ytjnmfedefmemnab
