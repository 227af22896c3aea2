import Derived.Test.YtjnmfedefmemnabApart0
import Derived.Deep.CutRange
import Derived.Test.YtjnmfedefmemnabOpenOps
namespace Go.Proofs.Ytjnmfedefmemnab
open Go.RowKit Go.Maps
set_option maxRecDepth 100000

/-- Of one path and direction: the counts add up, and what lies there was put there. -/
structure Sound (k d : Nat) (D : Dat) (puts : List OpV) : Prop where
  bal : (D.cn k (4 + d) + D.cn k (12 + d) - D.cn k (6 + d) - D.cn k (8 + d) - D.cn k (10 + d) - ((D.fd k d).length : Int)) % 18446744073709551616 = 0
  from_ : ∀ f ∈ D.fd k d, ∃ o ∈ puts, o.path = k ∧ o.dir = d ∧ o.frame = f.1
def putsOf (puts : List OpV) (o : OpV) : List OpV := if o.kind = 1 then puts ++ [o] else puts
theorem mem_putsOf {puts : List OpV} {o x : OpV} (h : x ∈ puts) : x ∈ putsOf puts o := by
  unfold putsOf
  split
  · exact List.mem_append_left _ h
  · exact h
theorem Sound.more {k d : Nat} {D : Dat} {puts : List OpV} (h : Sound k d D puts) (o : OpV) : Sound k d D (putsOf puts o) :=
  ⟨h.bal, fun f hf => by obtain ⟨x, hx, e⟩ := h.from_ f hf; exact ⟨x, mem_putsOf hx, e⟩⟩
theorem Sound.same {k d : Nat} {D E : Dat} {puts : List OpV} (h : Sound k d D puts) (s : SameAt k d E D) : Sound k d E puts :=
  ⟨by rw [s.cn 4 (by simp), s.cn 12 (by simp), s.cn 6 (by simp), s.cn 8 (by simp), s.cn 10 (by simp), s.fd]; exact h.bal, by rw [s.fd]; exact h.from_⟩
theorem bump_eq (x : Int) : bump x = (x + 1) % 18446744073709551616 := by unfold bump; rw [IntKind.wrap_u64]
theorem at_mem {D : Dat} {k d j : Nat} (hj : j < (D.fd k d).length) : D.at k d j ∈ D.fd k d := by
  unfold Dat.at
  simp only [Int.toNat_natCast]
  rw [List.getD_eq_getElem?_getD, List.getElem?_eq_getElem hj]
  exact List.getElem_mem hj
section
variable {k d n : Nat} {D : Dat} {puts : List OpV}
theorem upd_far {α : Type} (f : Nat → Nat → α) (k i j : Nat) (v : α) (h : i ≠ j) : upd f k j v k i = f k i := upd_other _ _ _ _ (fun e => h e.2)
theorem Sound.put (h : Sound k d D puts) (o : OpV) (hp : o.path = k) (hdd : o.dir = d) (hk1 : o.kind = 1) : Sound k d (D.put n k d o.frame) (putsOf puts o) := by
  have h' := h.more o
  unfold Dat.put
  simp only [Int.toNat_natCast]
  split
  · exact h'
  split
  · exact h'
  split
  · refine ⟨?_, fun f hf => ?_⟩
    · simp only [upd_same]
      rw [upd_far _ _ _ _ _ (by omega), upd_far _ _ _ _ _ (by omega), upd_far _ _ _ _ _ (by omega), upd_far _ _ _ _ _ (by omega), bump_eq]
      have := h.bal
      simp only [List.length_append, List.length_cons, List.length_nil]
      omega
    · simp only [upd_same] at hf
      rcases List.mem_append.1 hf with hf | hf
      · exact h'.from_ f hf
      · have e : f = (o.frame, fun _ => 0) := by simpa using hf
        subst e
        exact ⟨o, by unfold putsOf; rw [if_pos hk1]; simp, hp, hdd, rfl⟩
  · refine ⟨?_, h'.from_⟩
    simp only [upd_same]
    rw [upd_far _ _ (4 + d) _ _ (by omega), upd_same, upd_far _ _ (12 + d) _ _ (by omega), upd_far _ _ (12 + d) _ _ (by omega), upd_far _ _ (8 + d) _ _ (by omega), upd_far _ _ (8 + d) _ _ (by omega), upd_far _ _ (10 + d) _ _ (by omega), upd_far _ _ (10 + d) _ _ (by omega), bump_eq, bump_eq]
    have := h.bal
    omega
theorem Sound.take (h : Sound k d D puts) (z : Int) : Sound k d (D.take n k d z) puts := by
  unfold Dat.take
  split
  · rename_i he
    obtain ⟨k', d', j, e1, e2, rfl, _, _, hj, _⟩ := Dat.err_zero he
    obtain rfl : k = k' := by omega
    obtain rfl : d = d' := by omega
    simp only [Int.toNat_natCast]
    refine ⟨?_, fun f hf => ?_⟩
    · simp only [upd_same]
      rw [upd_far _ _ _ _ _ (by omega), upd_far _ _ _ _ _ (by omega), upd_far _ _ _ _ _ (by omega), upd_far _ _ _ _ _ (by omega), bump_eq]
      have := h.bal
      rw [List.length_eraseIdx_of_lt hj]
      omega
    · simp only [upd_same] at hf
      exact h.from_ f (List.mem_of_mem_eraseIdx hf)
  · exact h
theorem Sound.drop (h : Sound k d D puts) (z : Int) : Sound k d (D.drop n k d z) puts := by
  unfold Dat.drop
  split
  · rename_i he
    obtain ⟨k', d', j, e1, e2, rfl, _, _, hj, _⟩ := Dat.err_zero he
    obtain rfl : k = k' := by omega
    obtain rfl : d = d' := by omega
    simp only [Int.toNat_natCast]
    refine ⟨?_, fun f hf => ?_⟩
    · simp only [upd_same]
      rw [upd_far _ _ _ _ _ (by omega), upd_far _ _ _ _ _ (by omega), upd_far _ _ _ _ _ (by omega), upd_far _ _ _ _ _ (by omega), bump_eq]
      have := h.bal
      rw [List.length_eraseIdx_of_lt hj]
      omega
    · simp only [upd_same] at hf
      exact h.from_ f (List.mem_of_mem_eraseIdx hf)
  · exact h
theorem Sound.double (h : Sound k d D puts) (z : Int) : Sound k d (D.double n k d z) puts := by
  unfold Dat.double
  split
  · rename_i he
    obtain ⟨k', d', j, e1, e2, rfl, _, _, hj, _⟩ := Dat.err_zero he.1
    obtain rfl : k = k' := by omega
    obtain rfl : d = d' := by omega
    simp only [Int.toNat_natCast]
    refine ⟨?_, fun f hf => ?_⟩
    · simp only [upd_same]
      rw [upd_far _ _ _ _ _ (by omega), upd_far _ _ _ _ _ (by omega), upd_far _ _ _ _ _ (by omega), upd_far _ _ _ _ _ (by omega), bump_eq]
      have := h.bal
      simp only [List.length_append, List.length_cons, List.length_nil]
      omega
    · simp only [upd_same] at hf
      rcases List.mem_append.1 hf with hf | hf
      · exact h.from_ f hf
      · have e : f = D.at k d j := by simpa using hf
        subst e
        exact h.from_ _ (at_mem hj)
  · exact h
theorem Sound.spoil (h : Sound k d D puts) (z a : Int) (m : BitVec 8) : Sound k d (D.spoil n k d z a m) puts := by
  unfold Dat.spoil
  split
  · rename_i he
    obtain ⟨k', d', j, e1, e2, rfl, _, _, hj, _⟩ := Dat.err_zero he.1
    obtain rfl : k = k' := by omega
    obtain rfl : d = d' := by omega
    simp only [Int.toNat_natCast]
    refine ⟨?_, fun f hf => ?_⟩
    · simp only [upd_same, List.length_set]
      exact h.bal
    · simp only [upd_same] at hf
      rcases List.mem_or_eq_of_mem_set hf with hf | rfl
      · exact h.from_ f hf
      · obtain ⟨x, hx, e⟩ := h.from_ _ (at_mem hj)
        exact ⟨x, hx, e⟩
  · exact h
theorem Sound.act (h : Sound k d D puts) (hd : d < 2) (o : OpV) : Sound k d (D.act n o) (putsOf puts o) := by
  by_cases hh : o.path = k ∧ (o.kind = 6 ∨ o.dir = d)
  · obtain ⟨hp, hor⟩ := hh
    unfold Dat.act
    rw [hp]
    by_cases h6 : o.kind = 6
    · simp only [h6]
      refine Sound.more ?_ o
      unfold Dat.set
      simp only [if_false, if_true, show ¬ (6 : Int) = 1 by decide, show ¬ (6 : Int) = 2 by decide, show ¬ (6 : Int) = 3 by decide, show ¬ (6 : Int) = 4 by decide, show ¬ (6 : Int) = 5 by decide]
      split
      · exact ⟨h.bal, h.from_⟩
      · exact h
    · have hdd : o.dir = d := hor.resolve_left h6
      rw [hdd]
      split
      · rename_i h1
        exact h.put o hp hdd h1
      refine Sound.more ?_ o
      split
      · exact h.take _
      split
      · exact h.drop _
      split
      · exact h.double _
      split
      · exact h.spoil _ _ _
      exact h
  · exact (h.same (far_act hd o hh)).more o
theorem act_cap (o : OpV) : (D.act n o).cap = D.cap := by
  unfold Dat.act Dat.put Dat.take Dat.drop Dat.double Dat.spoil Dat.set
  repeat' split
  all_goals rfl
theorem sp_none {T : Nat → BitVec 8} {f : List (BitVec 8)} (h : sp T f.length = false) : xorT f T = f := xorT_zero fun j hj => Classical.byContradiction fun hT => by
  have := (sp_iff T f.length).2 ⟨j, hj, hT⟩
  rw [h] at this
  cases this
/-- What a Take gives, where it is not spoilt, was put there. -/
theorem take_from (h : ∀ k d, k < n → d < 2 → Sound k d D puts) (o : OpV) (hh : D.hit n o = true) (hs : D.ansS n o = false) : ∃ x ∈ puts, x.path = o.path ∧ x.dir = o.dir ∧ x.frame = D.ansB n o := by
  have he := (of_decide_eq_true hh).2
  obtain ⟨k, d, j, e1, e2, e3, hk, hd, hj, _⟩ := Dat.err_zero he
  unfold Dat.ansS at hs
  unfold Dat.ansB
  rw [if_pos hh] at hs ⊢
  rw [sp_none hs, e1, e2, e3]
  obtain ⟨x, hx, h1, h2, h3⟩ := (h k d hk hd).from_ _ (at_mem hj)
  exact ⟨x, hx, h1, h2, h3⟩
end
theorem Sound.wrapped {k d : Nat} {D : Dat} {puts : List OpV} (h : Sound k d D puts) {L : Int} (hL : L = ((D.fd k d).length : Int)) :
    IntKind.u64.wrap (D.cn k (4 + d) + D.cn k (12 + d)) = IntKind.u64.wrap (IntKind.u64.wrap (IntKind.u64.wrap (D.cn k (6 + d) + D.cn k (8 + d)) + D.cn k (10 + d)) + L) := by
  simp only [IntKind.wrap_u64]
  have := h.bal
  subst hL
  omega
theorem Sound.new (k d : Nat) (cs : List Int) : Sound k d (newD cs) [] := ⟨rfl, fun f hf => by cases hf⟩
end Go.Proofs.Ytjnmfedefmemnab
namespace Go.Proofs.Ytjnmfedefmemnab
open Go.RowKit Go.Maps
set_option maxRecDepth 100000

theorem i37 : (Try.prog.info? 37).map (·.size) = some 9 := by kernel_rfl
theorem info37 : ∃ (i : TypeInfo) (z : Value), Try.prog.info? 37 = some i ∧ i.zero = some z ∧ i.size = 9 ∧ i.bytes = 80 ∧ z.cells.size = 9 := by
  have h : (Try.prog.info? 37).map (fun i => (i.zero.map fun z => z.cells.size, i.size, i.bytes)) = some (some 9, 9, 80) := by kernel_rfl
  cases hq : Try.prog.info? 37 with
  | none => rw [hq] at h; cases h
  | some i =>
    rw [hq] at h
    simp at h
    obtain ⟨⟨z, hz, hs⟩, h1, h2⟩ := h
    exact ⟨i, z, rfl, hz, h1, h2, hs⟩
theorem OpV.cells_len (o : OpV) : o.cells.length = 9 := rfl
theorem OpV.cells_one (o : OpV) : ∀ v ∈ o.cells, v.oneCell' = true := by simp [OpV.cells, Value.oneCell']
def flat (puts : List OpV) : List Value := puts.flatMap OpV.cells
theorem flat_len : ∀ puts : List OpV, (flat puts).length = puts.length * 9
  | [] => rfl
  | o :: r => by
    have := flat_len r
    simp only [flat, List.flatMap_cons, List.length_append, List.length_cons, OpV.cells_len] at *
    omega
theorem flat_snoc (puts : List OpV) (o : OpV) : flat (puts ++ [o]) = flat puts ++ o.cells := by simp [flat]
theorem flat_get : ∀ (puts : List OpV) (i j : Nat) (hi : i < puts.length) (_ : j < 9), (flat puts)[i * 9 + j]? = puts[i].cells[j]?
  | o :: r, 0, j, _, hj => by
    simp only [flat, List.flatMap_cons, Nat.zero_mul, Nat.zero_add, List.getElem_cons_zero]
    rw [List.getElem?_append_left (by rw [OpV.cells_len]; exact hj)]
  | o :: r, i + 1, j, hi, hj => by
    have h := flat_get r i j (by simpa using hi) hj
    simp only [flat, List.flatMap_cons, List.getElem_cons_succ] at *
    rw [List.getElem?_append_right (by rw [OpV.cells_len]; omega), OpV.cells_len, show (i + 1) * 9 + j - 9 = i * 9 + j by omega]
    exact h
/-- The list of what was put, as the law keeps it. -/
structure PutsAt (W w : World) (pv : Value) (puts : List OpV) : Prop where
  own : w.ownsRow W.heap.size 37 9 pv puts.length (flat puts)
  fr : ∀ o ∈ puts, BytesAt W o.fa o.frame
section
variable {W w w' : World} {pv : Value} {puts : List OpV}
theorem PutsAt.spared (h : PutsAt W w pv puts) (s : Spares w w') : PutsAt W w' pv puts := by
  refine ⟨?_, h.fr⟩
  obtain ⟨h1, h2 | ⟨g, cap, cur, e, hb, hh, rest⟩⟩ := h.own
  · exact ⟨h1, .inl h2⟩
  · have r : Row w g cur.toList 37 := ⟨by simpa using hh⟩
    have r' := (s _ _ _ (by decide) (by decide) (by decide) r).at_
    exact ⟨h1, .inr ⟨g, cap, cur, e, hb, by simpa using r', rest⟩⟩
theorem PutsAt.kept (h : PutsAt W w pv puts) (hb : Below w.heap.size w w') : PutsAt W w' pv puts := h.spared (Spares.of_below hb)
theorem PutsAt.view (h : PutsAt W w pv puts) : ∃ a cap, pv = .slice a puts.length cap ∧ ∀ i (hi : i < puts.length), ∃ g, a = some ⟨g, 0, none⟩ ∧ ∀ j v, puts[i].cells[j]? = some v → w.cell? ⟨g, i * 9 + j, none⟩ = some v := by
  obtain ⟨h1, ⟨rfl, h0⟩ | ⟨g, cap, cur, rfl, hb, hh, hc, _, hs, ht⟩⟩ := h.own
  · exact ⟨none, 0, by rw [h0], fun i hi => by omega⟩
  · refine ⟨_, _, rfl, fun i hi => ⟨g, rfl, fun j v hv => ?_⟩⟩
    have hj : j < 9 := by have := (List.getElem?_eq_some_iff.1 hv).1; simpa [OpV.cells] using this
    have h3 := flat_get puts i j hi hj
    rw [cell_of_row w g (i * 9 + j) cur 37 (0, 0) hh]
    have hlt : i * 9 + j < puts.length * 9 := by omega
    have e : (flat puts)[i * 9 + j]? = cur.toList[i * 9 + j]? := by rw [← ht, List.getElem?_take_of_lt hlt]
    rw [← hv, ← h3, e]
    simp
theorem PutsAt.block (h : PutsAt W w pv puts) : ∀ x, pv.ownBlock = some x → W.heap.size ≤ x ∧ ∃ cc, Row w x cc 37 := by
  obtain ⟨h1, ⟨rfl, _⟩ | ⟨g, cap, cur, rfl, hb, hh, rest⟩⟩ := h.own
  · intro x hx; cases hx
  · intro x hx
    simp only [Value.ownBlock, Option.some.injEq] at hx
    subst hx
    exact ⟨hb, cur.toList, ⟨by simpa using hh⟩⟩
/-- A call of the script behind the list: append. -/
theorem PutsAt.append (h : PutsAt W w pv puts) (hW : Below W.heap.size W w) (hl : puts.length + 1 ≤ 1759218604390) (o : OpV) (hB : BytesAt W o.fa o.frame) (ty : TypeId) :
    ∃ v' w', (Builtin.append_ #[32, 32] ty #[pv, .slice (some ⟨w.heap.size, 0, none⟩) 1 1]).run Try.prog (w.alloc (.cells o.cells.toArray 37)) = .ok v' w' ∧ PutsAt W w' v' (puts ++ [o]) ∧ Only pv.ownBlock.toList w w' := by
  obtain ⟨i, z, i1, i2, i3, i4, i5⟩ := info37
  have hal := below_grow (Below.refl w.heap.size w) (.cells o.cells.toArray 37)
  have h' : (w.alloc (.cells o.cells.toArray 37)).ownsRow W.heap.size 37 9 pv puts.length (flat puts) := h.own.alloc _
  obtain ⟨v', w', hr, ho, hg, _⟩ := run_append_own (P := Try.prog) (w.alloc (.cells o.cells.toArray 37)) W.heap.size 32 ty 37 i z 9 80 Try.underlying32 i1 i2 i3 i4 i5 (by decide) pv puts.length (flat puts) h' ⟨w.heap.size, 0, none⟩ 1 1 o.cells rfl (fun j u hu => by
    rw [Addr.add_mid]
    have := (Row.new w o.cells 37).cell j u hu
    rw [Nat.zero_add]
    exact this) o.cells_one (by unfold maxLen; omega) (by omega) (Nat.le_trans hW.size hal.size)
  refine ⟨v', w', hr, ⟨by rw [flat_snoc]; simpa using ho, fun x hx => ?_⟩, ?_⟩
  · rcases List.mem_append.1 hx with hx | hx
    · exact h.fr x hx
    · obtain rfl : x = o := by simpa using hx
      exact hB
  · have h2 : Only pv.ownBlock.toList (w.alloc (.cells o.cells.toArray 37)) w' := ⟨hg.os, hg.tape, hg.output, hg.size, fun k hk hs => hg.block k hk (fun e => hs (by rw [← e]; simp))⟩
    exact (Only.of_below hal (Nat.le_refl _)).trans h2 (fun x hx => .inl hx)
set_option maxHeartbeats 2000000 in
theorem from_any (h : PutsAt W w pv puts) (hW : Below W.heap.size W w) (hl : puts.length ≤ 1759218604390) {a : Option Addr} {bs : List (BitVec 8)} {m cap : Nat} (hB : BytesAt w a bs) (hm : bs.length = m) {path dir : Int} (hx : ∃ x ∈ puts, x.path = path ∧ x.dir = dir ∧ x.frame = bs) :
    Calls Try.prog 12 #[pv, .int .i64 path, .int .i64 dir, .slice a m cap] w fun e w' => e = .returned (.bool true) ∧ w' = w := by
  obtain ⟨x, hx, hx1, hx2, hx3⟩ := hx
  obtain ⟨q, hq, hqx⟩ := List.getElem_of_mem hx
  obtain ⟨av, capv, rfl, hv⟩ := h.view
  have HV := hid hv
  have HF := hid (fun o ho => (h.fr o ho).kept hW)
  have HB := hid hB
  have HM := hid hm
  have HQ := hid hq
  have HQX : Hid (∀ h : q < puts.length, puts[q].path = path ∧ puts[q].dir = dir ∧ puts[q].frame = bs) := fun h => by rw [hqx]; exact ⟨hx1, hx2, hx3⟩
  have hl2 : (puts.length : Int) ≤ 1759218604390 := by omega
  clear h hv hB hm hx hx1 hx2 hx3 hqx hq
  go_enter Try.func12, Try.ntmps12
  go_wp2
  go_loop [9] (fun i => ∃ j : Nat, j ≤ q ∧ i = .int .i64 j) (fun i => q - (intOf i).toNat)
  case atStart => exact ⟨0, Nat.zero_le _, rfl⟩
  case round =>
    obtain ⟨j, hj, rfl⟩ := hrel
    have hq := HQ.out
    have hjl : j < puts.length := by omega
    have l1 : (j : Int) < (puts.length : Int) := by omega
    obtain ⟨gp, rfl, hcc⟩ := HV.out j hjl
    have d2 := hcc 2 (.int .i64 puts[j].path) rfl
    have d3 := hcc 3 (.int .i64 puts[j].dir) rfl
    have d8 := hcc 8 (.slice puts[j].fa puts[j].frame.length puts[j].fcap) rfl
    have HSM := hid (same_any (cap := puts[j].fcap) (cap' := cap) (HF.out puts[j] (List.getElem_mem hjl)) rfl HB.out HM.out)
    have HJ : Hid (j = q ∨ j < q) := by show _ ∨ _; omega
    have HEQ : Hid (j = q → puts[j].path = path ∧ puts[j].dir = dir ∧ puts[j].frame = bs) := fun e => by subst e; exact HQX.out hjl
    have hjb : (j : Int) ≤ 1759218604390 := by omega
    clear hcc hq
    generalize puts[j] = o at *
    obtain ⟨_, _, op, od, _, _, _, _, of, ofa, ofc⟩ := o
    simp only at d2 d3 d8 HSM HEQ
    by_cases h1 : op = path
    · have q1 : (op == path) = true := by rw [h1]; exact beq_self_eq_true _
      by_cases h2 : od = dir
      · have q2 : (od == dir) = true := by rw [h2]; exact beq_self_eq_true _
        by_cases h3 : of = bs
        · rw [decide_eq_true h3] at HSM
          clear h1 h2 h3
          go_wp2_with (go_at_call 23; refine Calls.mono HSM.out ?_; rintro e w2 ⟨rfl, rfl⟩)
          go_ret
          exact ⟨rfl, rfl⟩
        · have HLT : Hid (j < q) := HJ.out.resolve_left (fun e => h3 (HEQ.out e).2.2)
          rw [decide_eq_false h3] at HSM
          clear h1 h2 h3
          go_wp2_with (go_at_call 23; refine Calls.mono HSM.out ?_; rintro e w2 ⟨rfl, rfl⟩)
          go_round
          case rel => exact ⟨j + 1, HLT.out, by first | go_num | (rw [Int.natCast_succ])⟩
          case measure =>
            simp [intOf]
            have := HLT.out
            omega
      · have HLT : Hid (j < q) := HJ.out.resolve_left (fun e => h2 (HEQ.out e).2.1)
        have q2 : (od == dir) = false := beq_eq_false_iff_ne.2 h2
        clear h1 h2
        go_wp2
        go_round
        case rel => exact ⟨j + 1, HLT.out, by first | go_num | (rw [Int.natCast_succ])⟩
        case measure =>
          simp [intOf]
          have := HLT.out
          omega
    · have HLT : Hid (j < q) := HJ.out.resolve_left (fun e => h1 (HEQ.out e).1)
      have q1 : (op == path) = false := beq_eq_false_iff_ne.2 h1
      clear h1
      go_wp2
      go_round
      case rel => exact ⟨j + 1, HLT.out, by first | go_num | (rw [Int.natCast_succ])⟩
      case measure =>
        simp [intOf]
        have := HLT.out
        omega
end
end Go.Proofs.Ytjnmfedefmemnab
namespace Go.Proofs.Ytjnmfedefmemnab
open Go.RowKit Go.Maps
set_option maxRecDepth 100000

theorem fitL_len (cs : List Int) : 1 ≤ (fitL cs).length ∧ (fitL cs).length ≤ 8 := by
  unfold fitL
  split
  · simp
  · next h =>
    have : 0 < cs.length := List.length_pos_iff.2 h
    simp
    omega
theorem fitL_good (cs : List Int) : ∀ c ∈ fitL cs, goodCap c := by
  unfold fitL
  split
  · intro c hc
    have : c = 2 := by simpa using hc
    subst this
    unfold goodCap
    omega
  · intro c hc
    obtain ⟨x, _, rfl⟩ := List.mem_map.1 hc
    have := cap9_bd x
    unfold goodCap
    omega
theorem new_good {w : World} {a : Option Addr} {n cap : Nat} {cs : List Int} (hC : CellsAt w a (cs.map (Value.int .i64))) (hn : cs.length = n) (h1 : 1 ≤ n) (h2 : n ≤ 8) (hg : ∀ c ∈ cs, goodCap c) :
    Calls Try.prog 6 #[.slice a n cap] w fun e w' => ∃ p q, e = .returned (.tuple #[.pointer (some ⟨p, 0, none⟩), .int .i64 0]) ∧ Below w.heap.size w w' ∧ w.heap.size ≤ q ∧ q < p ∧ Row w' q (roadsv cs) 62 ∧ Row w' p [.slice (some ⟨q, 0, none⟩) n n] 58 := by
  refine (new_list hC hn h1 h2).mono ?_
  rintro e w' ⟨hb, ⟨⟨c, hc, hbad⟩, _⟩ | ⟨_, p, q, rfl, h3, h4, h5, h6⟩⟩
  · exact absurd (hg c hc) hbad
  · exact ⟨p, q, rfl, hb, h3, h4, h5, h6⟩
/-- The list that fit made, as it lies. -/
structure CapsAt (w : World) (av : Option Addr) (fs : List Int) : Prop where
  at_ : ∃ gc cur, av = some ⟨gc, 0, none⟩ ∧ Row w gc cur 3 ∧ ∀ k (h : k < fs.length), cur[k]? = some (.int .i64 fs[k])
theorem caps_of {base : Nat} {w : World} {v : Value} {l : List Int} {m : Nat} (hm : m = l.length) (h0 : 0 < m) (h : w.ownsRow base 3 1 v m (l.map (Value.int .i64))) : ∃ a cap, v = .slice a m cap ∧ CapsAt w a l ∧ CellsAt w a (l.map (Value.int .i64)) := by
  obtain ⟨a, cap, e, hc⟩ := owns_ints h
  refine ⟨a, cap, e, ?_, hc⟩
  obtain ⟨h1, ⟨e2, h3⟩ | ⟨g, cap', cur, e2, hb, hh, hcc, _, hs, ht⟩⟩ := h
  · omega
  · rw [e] at e2
    cases e2
    refine ⟨g, cur.toList, rfl, ⟨by simpa using hh⟩, fun k hk => ?_⟩
    have e : (l.map (Value.int .i64))[k]? = cur.toList[k]? := by rw [← ht, Nat.mul_one, List.getElem?_take_of_lt (by omega)]
    rw [← e, List.getElem?_map, List.getElem?_eq_getElem hk]
    rfl
/-- All that the law has, at a moment. -/
structure NS (W w : World) (n p g K : Nat) (D : Dat) (puts : List OpV) (pv : Value) (fs : List Int) (av : Option Addr) : Prop where
  net : ∃ vs fr, NetP W.heap.size w p g n vs fr K D
  bel : Below W.heap.size W w
  puts : PutsAt W w pv puts
  caps : CapsAt w av fs
section
variable {W w w' : World} {n p g K : Nat} {D : Dat} {puts : List OpV} {pv : Value} {fs : List Int} {av : Option Addr}
theorem CapsAt.spared (h : CapsAt w av fs) (s : Spares w w') : CapsAt w' av fs := by
  obtain ⟨gc, cur, e, r, hc⟩ := h.at_
  exact ⟨gc, cur, e, s _ _ _ (by decide) (by decide) (by decide) r, hc⟩
theorem CapsAt.cell (h : CapsAt w av fs) {k : Nat} (hk : k < fs.length) : ∃ gc, av = some ⟨gc, 0, none⟩ ∧ w.cell? ⟨gc, k, none⟩ = some (.int .i64 fs[k]) := by
  obtain ⟨gc, cur, e, r, hc⟩ := h.at_
  exact ⟨gc, e, r.cell k _ (hc k hk)⟩
theorem NS.kept (h : NS W w n p g K D puts pv fs av) (hb : Below w.heap.size w w') : NS W w' n p g K D puts pv fs av := by
  obtain ⟨vs, fr, hn⟩ := h.net
  exact ⟨⟨vs, fr, hn.kept hb⟩, h.bel.trans (hb.mono h.bel.size), h.puts.kept hb, h.caps.spared (Spares.of_below hb)⟩
theorem NS.act (h : NS W w n p g K D puts pv fs av) (o : OpV) (hF : BytesAt w o.fa o.frame) (hm : o.frame.length ≤ 140737488351232) (hK : K < 281474976710656) :
    Calls Try.prog 11 #[.pointer (some ⟨p, 0, none⟩), .agg o.cells.toArray] w fun e w' => ∃ a, e = .returned (.tuple #[.agg #[.slice a (D.ansB n o).length (D.ansB n o).length, .bool (D.ansS n o)], .bool (D.hit n o)]) ∧ Ans w' a (D.ansB n o) ∧ Spares w w' ∧ NS W w' n p g (K + 1) (D.act n o) puts pv fs av := by
  obtain ⟨vs, fr, h1⟩ := h.net
  refine (act_any h1 o hF hm hK).mono ?_
  rintro e w' ⟨a, m, b, got, rfl, hs, vs', fr', hn, hst⟩
  obtain ⟨rfl, rfl, rfl, ha⟩ := hs.ans
  have sp : Spares w w' := fun x cc t n1 n2 n3 r => h1.rowKept hst r n1 n2 n3
  exact ⟨a, rfl, ha, sp, ⟨vs', fr', hn⟩, h.bel.trans (h1.below hst), h.puts.spared sp, h.caps.spared sp⟩
theorem NS.look (h : NS W w n p g K D puts pv fs av) {k : Nat} (hk : k < n) :
    Calls Try.prog 13 #[.pointer (some ⟨p, 0, none⟩), .int .i64 k] w fun e w' => ∃ cv : List Value, e = .returned (.tuple #[.agg cv.toArray, .int .i64 0]) ∧ cv.length = 14 ∧ (∀ v ∈ cv, v.oneCell' = true) ∧ cv[0]? = some (.bool (D.up k)) ∧ cv[1]? = some (.int .i64 (D.cap k)) ∧ (∀ d, d < 2 → cv[2 + d]? = some (.int .i64 (D.fd k d).length)) ∧ (∀ i, 4 ≤ i → i < 14 → cv[i]? = some (.int .u64 (D.cn k i))) ∧ Below w.heap.size w w' := by
  obtain ⟨vs, fr, h1⟩ := h.net
  exact h1.look hk
theorem NS.peek (h : NS W w n p g K D puts pv fs av) {k d j : Nat} (hk : k < n) (hd : d < 2) (hj : j < (D.fd k d).length) :
    Calls Try.prog 14 #[.pointer (some ⟨p, 0, none⟩), .int .i64 k, .int .i64 d, .int .i64 j] w fun e w' => ∃ g', e = .returned (.tuple #[.agg #[.slice (some ⟨g', 0, none⟩) (D.at k d j).1.length (D.at k d j).1.length, .bool (sp (D.at k d j).2 (D.at k d j).1.length)], .int .i64 0]) ∧ w.heap.size ≤ g' ∧ Row w' g' (bcells (xorT (D.at k d j).1 (D.at k d j).2)) 5 ∧ Below w.heap.size w w' := by
  obtain ⟨vs, fr, h1⟩ := h.net
  exact h1.peek hk hd hj
theorem NS.len (h : NS W w n p g K D puts pv fs av) {k d : Nat} (hk : k < n) (hd : d < 2) : ((D.fd k d).length : Int) ≤ D.cap k ∧ (D.fd k d).length ≤ 1073741824 := by
  obtain ⟨vs, fr, c, hG, hD⟩ := h.net
  obtain ⟨C, h1, _, h3, h4⟩ := hG.cap k hk
  have h2 := hD.cap k hk
  rw [h2] at h1
  simp only [Option.some.injEq, Value.int.injEq, true_and] at h1
  have h5 := h4 d hd
  rw [← hD.fd k d hk hd, List.length_map, h1]
  exact ⟨h5, by omega⟩
theorem NS.append (h : NS W w n p g K D puts pv fs av) (hl : puts.length + 1 ≤ 1759218604390) (o : OpV) (hB : BytesAt W o.fa o.frame) (ty : TypeId) :
    ∃ v' w', (Builtin.append_ #[32, 32] ty #[pv, .slice (some ⟨w.heap.size, 0, none⟩) 1 1]).run Try.prog (w.alloc (.cells o.cells.toArray 37)) = .ok v' w' ∧ NS W w' n p g K D (puts ++ [o]) v' fs av ∧ Only pv.ownBlock.toList w w' := by
  obtain ⟨v', w', hr, hp, ho⟩ := h.puts.append h.bel hl o hB ty
  obtain ⟨vs, fr, h1⟩ := h.net
  refine ⟨v', w', hr, ⟨⟨vs, fr, h1.far ho (fun x hx => ?_)⟩, h.bel.trans (ho.below h.bel.size (fun x hx => (h.puts.block x (by simpa using hx)).1)), hp, ?_⟩, ho⟩
  · obtain ⟨_, cc, r⟩ := h.puts.block x (by simpa using hx)
    exact ⟨cc, 37, r, by decide, by decide, by decide, by decide, by decide⟩
  · obtain ⟨gc, cur, e, r, hc⟩ := h.caps.at_
    refine ⟨gc, cur, e, ho.row r (fun hm => ?_), hc⟩
    obtain ⟨_, cc, r2⟩ := h.puts.block gc (by simpa using hm)
    exact absurd (r.type r2) (by decide)
theorem NS.paths (h : NS W w n p g K D puts pv fs av) : Calls Try.prog 15 #[.pointer (some ⟨p, 0, none⟩)] w fun e w' => e = .returned (.int .i64 n) ∧ w' = w := by
  obtain ⟨vs, fr, c, hG, hD⟩ := h.net
  have c0 := hG.net.cell 0 _ rfl
  clear hG hD h
  go_enter Try.func15, Try.ntmps15
  go_wp2
  go_ret
  exact ⟨rfl, rfl⟩
end
end Go.Proofs.Ytjnmfedefmemnab
namespace Go.Proofs.Ytjnmfedefmemnab
open Go.RowKit Go.Maps
set_option maxRecDepth 100000

/-- What holds of the data at each moment. -/
structure Held (n : Nat) (fs : List Int) (D : Dat) (puts : List OpV) : Prop where
  sound : ∀ k d, k < n → d < 2 → Sound k d D puts
  cap : ∀ k, D.cap k = fs.getD k 0
theorem Held.act {n : Nat} {fs : List Int} {D : Dat} {puts : List OpV} (h : Held n fs D puts) (o : OpV) : Held n fs (D.act n o) (putsOf puts o) :=
  ⟨fun k d hk hd => (h.sound k d hk hd).act hd o, fun k => by rw [act_cap]; exact h.cap k⟩
theorem Held.take {n : Nat} {fs : List Int} {D : Dat} {puts : List OpV} (h : Held n fs D puts) (o : OpV) (hh : D.hit n o = true) (hs : D.ansS n o = false) : ∃ x ∈ putsOf puts o, x.path = o.path ∧ x.dir = o.dir ∧ x.frame = D.ansB n o := by
  obtain ⟨x, hx, e⟩ := take_from h.sound o hh hs
  exact ⟨x, mem_putsOf hx, e⟩
theorem getD_fs {fs : List Int} {k : Nat} (hk : k < fs.length) : fs.getD k 0 = fs[k] := by rw [List.getD_eq_getElem?_getD, List.getElem?_eq_getElem hk]; rfl
set_option maxHeartbeats 8000000 in
theorem nowhere_any {w : World} {a1 a2 : Option Addr} {n1 c1 n2 c2 : Nat} {cs : List Int} {ops : List OpV} (hC : CellsAt w a1 (cs.map (Value.int .i64))) (hn1 : cs.length = n1) (hO : OpsAt w a2 ops) (hn2 : ops.length = n2) (hm2 : n2 ≤ 1759218604390) (hf : ∀ o ∈ ops, o.frame.length ≤ 140737488351232) :
    Calls Try.prog 4 #[.slice a1 n1 c1, .slice a2 n2 c2] w fun e w' => e = .returned (.bool true) ∧ Below w.heap.size w w' := by
  have HO := hid hO
  have HN2 := hid hn2
  have HF := hid hf
  have HAL := hid (alive_any w)
  obtain ⟨l1, l8⟩ := fitL_len cs
  have HG := hid (fitL_good cs)
  have HFIT := hid (fun (u : World) (hb : Below w.heap.size w u) => fit_any (w := u) (cap := c1) (hC.kept hb) hn1)
  generalize fitL cs = fs at *
  obtain ⟨n, hn⟩ : ∃ n, n = fs.length := ⟨_, rfl⟩
  rw [← hn] at HFIT l1 l8
  have HFL := hid hn.symm
  have HL1 := hid l1
  have HL8 := hid l8
  clear hO hn2 hf hC hn1 hn
  go_enter Try.func4, Try.ntmps4
  go_upto_region 4 with (first
    | (go_at_call 9; refine Calls.mono HAL.out ?_; clear HAL; rintro e w1 ⟨rfl, h2⟩; have HB1 := hid h2; clear h2)
    | (go_at_call 10; refine Calls.mono (HFIT.out w1 HB1.out) ?_; clear HFIT; rintro e w2 ⟨v, rfl, h1, h2⟩; obtain ⟨av, capv, rfl, hca, hcv⟩ := caps_of HFL.out.symm HL1.out h1; have HCA := hid hca; have HCV := hid hcv; have HB2 := hid (HB1.out.trans (h2.mono HB1.out.size)); clear h1 h2 hca hcv HB1))
  have HNW := hid (new_good (cap := capv) HCV.out HFL.out HL1.out HL8.out HG.out)
  go_upto_region 5 with (go_at_call 6; refine Calls.mono HNW.out ?_; clear HNW; rintro e w3 ⟨p, g, rfl, h1, h2, h3, h4, h5⟩; have HNS : Hid (NS w w3 n p g 0 (newD fs) [] (.slice none 0 0) fs av) := ⟨⟨_, _, _, netg_new HB2.out.size HFL.out HG.out h2 h3 h4 h5 0, datOf_new fs n HFL.out⟩, HB2.out.trans (h1.mono HB2.out.size), ⟨⟨rfl, .inl ⟨rfl, rfl⟩⟩, fun o ho => by cases ho⟩, HCA.out.spared (Spares.of_below h1)⟩; clear h1 h2 h3 h4 h5)
  have HHD : Hid (Held n fs (newD fs) []) := ⟨fun k d _ _ => Sound.new k d fs, fun _ => rfl⟩
  clear HCA HCV HB2
  go_wp2
  go_loopw [7, 8] (fun pw i wr => ∃ (pv : Value) (j K : Nat) (D : Dat) (puts : List OpV), pv = pw ∧ j ≤ n2 ∧ K ≤ j ∧ puts.length ≤ j ∧ i = .int .i64 j ∧ NS w wr n p g K D puts pv fs av ∧ Held n fs D puts) (fun _ i _ => n2 - (intOf i).toNat)
  case atStart => exact ⟨_, 0, 0, _, _, rfl, Nat.zero_le _, Nat.le_refl _, Nat.le_refl _, rfl, HNS.out, HHD.out⟩
  case round =>
    obtain ⟨pv, j, K, D, puts, rfl, hj, hK, hpl, rfl, hns, hhd⟩ := hrel
    clear HNS HHD
    have HN0 := hid hns
    have HHD := hid hhd
    clear hns hhd
    by_cases hlt : j < n2
    · have hjc : j < ops.length := by rw [HN2.out]; exact hlt
      obtain ⟨ga, oa, rfl, hcc, hbb⟩ := HO.out j hjc
      have hfr := HF.out ops[j] (List.getElem_mem hjc)
      have l2 : (j : Int) < (n2 : Int) := by omega
      generalize ops[j] = o at *
      have d0 := cell_kept HN0.out.bel (hcc 0 (.int .i64 o.kind) rfl)
      have d1 := cell_kept HN0.out.bel (hcc 1 (.bool o.second) rfl)
      have d2 := cell_kept HN0.out.bel (hcc 2 (.int .i64 o.path) rfl)
      have d3 := cell_kept HN0.out.bel (hcc 3 (.int .i64 o.dir) rfl)
      have d4 := cell_kept HN0.out.bel (hcc 4 (.int .i64 o.k) rfl)
      have d5 := cell_kept HN0.out.bel (hcc 5 (.int .i64 o.n) rfl)
      have d6 := cell_kept HN0.out.bel (hcc 6 (.int .u8 (ub o.mask)) rfl)
      have d7 := cell_kept HN0.out.bel (hcc 7 (.bool o.up) rfl)
      have d8 := cell_kept HN0.out.bel (hcc 8 (.slice o.fa o.frame.length o.fcap) rfl)
      rw [Nat.add_zero] at d0
      have HBW := hid hbb
      have HFR := hid hfr
      have HJ := hid hlt
      have HK1 : Hid (K < 281474976710656) := by show _ < _; omega
      have HK := hid hK
      have HPB : Hid (puts.length + 1 ≤ 1759218604390) := by show _ ≤ _; omega
      have HPL0 := hid hpl
      have hj2 : (j : Int) ≤ 1759218604390 := by omega
      clear hcc hbb hfr hjc hlt hj hK hpl
      go_upto_region 12 with (fail)
      refine wp_world fun wb HW => ?_
      obtain ⟨x, hx⟩ : ∃ x, x = wr.heap.size := ⟨_, rfl⟩
      have HBB : Hid (Below wr.heap.size wr wb) := by show Below _ _ _; rw [HW.out]; exact below_grow (Below.refl _ _) _
      have HX : Hid (Row wb x o.cells 37) := by show Row _ _ _ _; rw [HW.out, hx]; exact Row.new' _ _ _ _ _ rfl rfl
      have HXF : Hid (∀ y, (Value.ownBlock pv) = some y → y < x) := fun y hy => by rw [hx]; exact (HN0.out.puts.own.lt y hy).2
      rw [← hx]
      have HN1 := hid (HN0.out.kept HBB.out)
      clear hx HW HN0 HBB d0 d1 d2 d3 d4 d5 d6 d7 d8
      have x0 := HX.out.cell 0 (.int .i64 o.kind) rfl
      go_upto_if 50 with (fail)
      go_cut [7] from 38 to 152 (fun pv' wd => ∃ pvd, pvd = pv' ∧ NS w wd n p g K D (putsOf puts o) pvd fs av ∧ Row wd x o.cells 37)
      case first =>
        by_cases hk1 : o.kind = 1
        · have HPO : Hid (putsOf puts o = puts ++ [o]) := by show _ = _; unfold putsOf; rw [if_pos hk1]
          have q1 : (o.kind == 1) = true := by rw [hk1]; rfl
          obtain ⟨v', w2, hr, hn, ho⟩ := HN1.out.append HPB.out o HBW.out 32
          have HR := hid hr
          have HN2' := hid hn
          have HX2 := hid (ho.row HX.out (fun hm => by have := HXF.out x (by simpa using hm); omega))
          have HXE : Hid (Row wb x [.int .i64 o.kind, .bool o.second, .int .i64 o.path, .int .i64 o.dir, .int .i64 o.k, .int .i64 o.n, .int .u8 (ub o.mask), .bool o.up, .slice o.fa o.frame.length o.fcap] 37) := HX.out
          clear hr hn ho hk1
          go_wp2_with (first
            | (show wpList _ _ _ (Oper.mk (some 52) (.load 37 (.tmp 9)) _ _ _ _ :: _) _ _; refine Row.wpLoad HXE.out 37 (.tmp 9) rfl rfl rfl _ Try.underlying37 rfl i37 ?_)
            | (at_builtin; refine wpList_append_by rfl _ _ _ rfl rfl rfl HR.out ?_))
          go_meet
          exact ⟨_, rfl, by rw [HPO.out]; exact HN2'.out, HX2.out⟩
        · have HPO : Hid (putsOf puts o = puts) := by show _ = _; unfold putsOf; rw [if_neg hk1]
          have q1 : (o.kind == 1) = false := beq_eq_false_iff_ne.2 hk1
          clear hk1
          go_wp2
          go_meet
          exact ⟨_, rfl, by rw [HPO.out]; exact HN1.out, HX.out⟩
      case rest =>
        obtain ⟨pvd, rfl, hns, hxr⟩ := hcut
        clear HN1 HX x0 HXF
        have HN1 := hid hns
        have HX := hid hxr
        have HH := hid (HHD.out.act o)
        have HTK := hid (HHD.out.take o)
        have HPL : Hid ((putsOf puts o).length ≤ j + 1) := by
          show _ ≤ _
          have := HPL0.out
          unfold putsOf
          split
          · simp; omega
          · omega
        have HPB2 : Hid ((putsOf puts o).length ≤ 1759218604390) := by
          show _ ≤ _
          have := HPL.out
          have := HJ.out
          omega
        clear hns hxr HHD HPL0 HPB
        generalize putsOf puts o = puts' at *
        go_upto_region 15 with (first
          | (show wpList _ _ _ (Oper.mk (some 57) (.load 37 (.tmp 9)) _ _ _ _ :: _) _ _; refine Row.wpLoad HX.out 37 (.tmp 9) rfl rfl rfl _ Try.underlying37 rfl i37 ?_)
          | (go_at_call 11; refine Calls.mono (HN1.out.act o (HBW.out.kept HN1.out.bel) HFR.out HK1.out) ?_; rintro e w2 ⟨ab, rfl, ha, hsp, hn⟩; have HA := hid ha; have HN2' := hid hn; have HX2 := hid (hsp _ _ _ (by decide) (by decide) (by decide) HX.out); clear ha hsp hn HN1 HX))
        refine wp_world fun w3 HW => ?_
        obtain ⟨y, hy⟩ : ∃ y, y = w2.heap.size := ⟨_, rfl⟩
        have HB3 : Hid (Below w2.heap.size w2 w3) := by show Below _ _ _; rw [HW.out]; exact below_grow (Below.refl _ _) _
        have HY : Hid (Row w3 y [.slice ab (D.ansB n o).length (D.ansB n o).length, .bool (D.ansS n o)] 39) := by show Row _ _ _ _; rw [HW.out, hy]; exact Row.new' _ _ _ _ _ rfl rfl
        have HX3 := hid (HX2.out.kept HB3.out HX2.out.lt)
        have HA3 := hid (HA.out.spared (Spares.of_below HB3.out))
        have HN3 := hid (HN2'.out.kept HB3.out)
        rw [← hy]
        clear hy HW HB3 HX2 HA HN2'
        obtain ⟨bH, hbH⟩ : ∃ b, b = D.hit n o := ⟨_, rfl⟩
        obtain ⟨bS, hbS⟩ : ∃ b, b = D.ansS n o := ⟨_, rfl⟩
        rw [← hbH]
        rw [← hbS] at HY
        have HHT : Hid (bH = true → bS = false → ∃ x ∈ puts', x.path = o.path ∧ x.dir = o.dir ∧ x.frame = D.ansB n o) := fun e1 e2 => HTK.out (by rw [← hbH]; exact e1) (by rw [← hbS]; exact e2)
        clear hbH hbS HTK
        go_cut [77] from 38 to 152 (fun t wd => t = .bool false ∧ wd = w3)
        case first =>
          have x2 := HX3.out.cell 2 (.int .i64 o.path) rfl
          have x3 := HX3.out.cell 3 (.int .i64 o.dir) rfl
          have y0 := HY.out.cell 0 _ rfl
          have y1 := HY.out.cell 1 _ rfl
          cases bH with
          | false =>
            go_wp2
            go_meet
            exact ⟨rfl, rfl⟩
          | true =>
            cases bS with
            | true =>
              go_wp2
              go_meet
              exact ⟨rfl, rfl⟩
            | false =>
              have HFM := hid (from_any (cap := (D.ansB n o).length) HN3.out.puts HN3.out.bel HPB2.out HA3.out.bytes rfl (HHT.out rfl rfl))
              generalize (D.ansB n o).length = L at *
              go_wp2_with (go_at_call 12; refine Calls.mono HFM.out ?_; rintro e w4 ⟨rfl, rfl⟩)
              go_meet
              exact ⟨rfl, rfl⟩
        case rest =>
          obtain ⟨rfl, rfl⟩ := hcut
          clear HX3 HY HA3 HHT
          go_wp2
          go_loopw [12] (fun i wy => ∃ q : Nat, q ≤ n ∧ i = .int .i64 q ∧ NS w wy n p g (K + 1) (D.act n o) puts' pvd fs av) (fun i _ => n - (intOf i).toNat)
          case atStart => exact ⟨0, Nat.zero_le _, rfl, HN3.out⟩
          case round =>
            obtain ⟨q, hq, rfl, hns⟩ := hrel
            clear HN3
            have HN4 := hid hns
            clear hns
            by_cases hlt : q < n
            · have HQ := hid hlt
              have HQF : Hid (q < fs.length) := by show _ < _; rw [HFL.out]; exact hlt
              have lq : (q : Int) < (n : Int) := by omega
              have q8 : (q : Int) ≤ 8 := by have := HL8.out; omega
              clear hlt hq
              go_upto_region 21 with (first
                | (go_at_call 13; refine Calls.mono (HN4.out.look HQ.out) ?_; rintro e w4 ⟨cv, rfl, hl, ho, _, hcap, hly, hcn, hb⟩; have HL2 := hid hl; have HO2 := hid ho; have HCP := hid hcap; have HLY := hid hly; have HCN := hid hcn; have HB4 := hid hb; clear hl ho hcap hly hcn hb)
                | (show wpList _ _ _ (Oper.mk none (.store 47 (.tmp 13) (.tmp 88)) _ _ _ _ :: _) _ _; refine Row.wpStore' (Row.new' w4 _ vz 47 _ rfl rfl) 47 (.tmp 13) (.tmp 88) cv rfl rfl rfl rfl (by rw [HL2.out]; rfl) HO2.out (by rw [HL2.out]; exact i41) ?_; intro w5 HZ5))
              have HV5 : Hid (Row w5 w4.heap.size cv 47) := by show Row _ _ _ _; rw [HZ5.out]; exact (Row.new' w4 _ vz 47 _ rfl rfl).row _
              have HB5 : Hid (Below wr.heap.size wr w5) := by show Below _ _ _; rw [HZ5.out]; exact below_setRow (HB4.out.alloc HB4.out.size _) HB4.out.size _
              have HN5 := hid (HN4.out.kept HB5.out)
              generalize w4.heap.size = vb at *
              clear HZ5 HB4 HB5 HN4 HL2 HO2
              obtain ⟨gc, hav, cq⟩ := HN5.out.caps.cell HQF.out
              subst hav
              have v1 := HV5.out.cell _ _ HCP.out
              rw [HH.out.cap q, getD_fs HQF.out] at v1
              have HFQ : Hid (∃ c, fs[q]'HQF.out = c) := ⟨_, rfl⟩
              obtain ⟨c, hc⟩ := HFQ.out
              rw [hc] at v1 cq
              have t1 : (c != c) = false := bne_self_eq_false _
              clear hc
              go_quiet (fail)
              obtain ⟨w6, hw6⟩ : ∃ w6, w6 = w5.drewN nq := ⟨_, rfl⟩
              rw [← hw6]
              have HD6 : Hid (Below w5.heap.size w5 w6) := by show Below _ _ _; rw [hw6]; exact below_drewN (Below.refl _ _) _
              have HN7 := hid (HN5.out.kept HD6.out)
              have HV7 := hid (HV5.out.kept HD6.out HV5.out.lt)
              clear hw6 HN5 HV5 HD6 v1 cq
              have HN5 := hid HN7.out
              have HV5 := hid HV7.out
              clear HN7 HV7
              go_wp2
              go_loopw [15] (fun i wz => ∃ d : Nat, d ≤ 2 ∧ i = .int .i64 d ∧ NS w wz n p g (K + 1) (D.act n o) puts' pvd fs (some ⟨gc, 0, none⟩) ∧ Row wz vb cv 47) (fun i _ => 2 - (intOf i).toNat)
              case atStart => exact ⟨0, by decide, rfl, HN5.out, HV5.out⟩
              case round =>
                obtain ⟨d, hd, rfl, hns, hv⟩ := hrel
                clear HN5 HV5
                have HN6 := hid hns
                have HV6 := hid hv
                clear hns hv
                by_cases hlt : d < 2
                · have HDD := hid hlt
                  have d1 : (0 : Int) ≤ (d : Int) := by omega
                  have d2 : (d : Int) < 2 := by omega
                  have dne : (d : Int) ≤ 2 := by omega
                  obtain ⟨hle, hl30⟩ := HN6.out.len HQ.out hlt
                  have HWR := hid ((HH.out.sound q d HQ.out hlt).wrapped rfl)
                  rw [HH.out.cap q, getD_fs HQF.out] at hle
                  have hbb : ((((D.act n o).fd q d).length : Nat) : Int) ≤ 1073741824 := by omega
                  obtain ⟨gc', hgc, cq⟩ := HN6.out.caps.cell HQF.out
                  obtain rfl : gc = gc' := by cases hgc; rfl
                  clear hgc
                  have v1 := HV6.out.cell (2 + d) _ (HLY.out d hlt)
                  have v2 := HV6.out.cell (4 + d) _ (HCN.out (4 + d) (by omega) (by omega))
                  have v3 := HV6.out.cell (6 + d) _ (HCN.out (6 + d) (by omega) (by omega))
                  have v4 := HV6.out.cell (8 + d) _ (HCN.out (8 + d) (by omega) (by omega))
                  have v5 := HV6.out.cell (10 + d) _ (HCN.out (10 + d) (by omega) (by omega))
                  have v6 := HV6.out.cell (12 + d) _ (HCN.out (12 + d) (by omega) (by omega))
                  clear hlt hd hl30
                  generalize (D.act n o).cn q (4 + d) = x4 at *
                  generalize (D.act n o).cn q (6 + d) = x6 at *
                  generalize (D.act n o).cn q (8 + d) = x8 at *
                  generalize (D.act n o).cn q (10 + d) = x10 at *
                  generalize (D.act n o).cn q (12 + d) = x12 at *
                  have hl0 : (0 : Int) ≤ ((((D.act n o).fd q d).length : Nat) : Int) := by omega
                  generalize ((((D.act n o).fd q d).length : Nat) : Int) = L at *
                  have HFQ : Hid (∃ c, fs[q]'HQF.out = c) := ⟨_, rfl⟩
                  obtain ⟨c, hc⟩ := HFQ.out
                  rw [hc] at hle cq
                  have t1 : decide (L < 0) = false := decide_eq_false (by omega)
                  have t2 : decide (c < L) = false := decide_eq_false (by omega)
                  have t4 : IntKind.u64.wrap L = L := by rw [IntKind.wrap_u64]; omega
                  obtain ⟨y1, hy1⟩ : ∃ y, IntKind.u64.wrap (x6 + x8) = y := ⟨_, rfl⟩
                  obtain ⟨y2, hy2⟩ : ∃ y, IntKind.u64.wrap (y1 + x10) = y := ⟨_, rfl⟩
                  obtain ⟨y3, hy3⟩ : ∃ y, IntKind.u64.wrap (y2 + L) = y := ⟨_, rfl⟩
                  have hU := HWR.out
                  rw [hy1, hy2, hy3] at hU
                  have t3 : (y3 != y3) = false := bne_self_eq_false _
                  clear HWR hc hle hl0 hbb dne
                  go_wp2
                  go_quiet (fail)
                  obtain ⟨w8, hw8⟩ : ∃ w8, w8 = wr.drewN nq := ⟨_, rfl⟩
                  rw [← hw8]
                  have HD8 : Hid (Below wr.heap.size wr w8) := by show Below _ _ _; rw [hw8]; exact below_drewN (Below.refl _ _) _
                  have HN8 := hid (HN6.out.kept HD8.out)
                  have HV8 := hid (HV6.out.kept HD8.out HV6.out.lt)
                  clear hw8 HN6 HV6 HD8 v1 v2 v3 v4 v5 v6 cq
                  go_wp2
                  refine ⟨⟨d + 1, HDD.out, by first | go_num | (rw [Int.natCast_succ]), HN8.out, HV8.out⟩, ?_⟩
                  have := HDD.out
                  simp [intOf]
                  omega
                · have e3 : decide ((d : Int) < 2) = false := decide_eq_false (by omega)
                  clear hlt hd
                  go_wp2
                  go_roundw
                  case rel =>
                    first
                      | exact ⟨q + 1, HQ.out, by first | go_num | (rw [Int.natCast_succ]), HN6.out⟩
                      | (repeat apply Exists.intro
                         exact ⟨⟨q + 1, HQ.out, by first | go_num | (rw [Int.natCast_succ]), HN6.out⟩, rfl⟩)
                  case measure =>
                    simp [intOf]
                    have := HQ.out
                    omega
            · have e1 : decide ((q : Int) < (n : Int)) = false := decide_eq_false (by omega)
              have e2 : decide (q < n) = false := decide_eq_false hlt
              clear hlt hq
              go_wp2
              go_roundw
              case rel =>
                first
                  | exact ⟨_, j + 1, K + 1, _, _, rfl, HJ.out, Nat.succ_le_succ HK.out, HPL.out, by first | go_num | (rw [Int.natCast_succ]), HN4.out, HH.out⟩
                  | (repeat apply Exists.intro
                     exact ⟨⟨_, j + 1, K + 1, _, _, rfl, HJ.out, Nat.succ_le_succ HK.out, HPL.out, by first | go_num | (rw [Int.natCast_succ]), HN4.out, HH.out⟩, rfl⟩)
              case measure =>
                simp [intOf]
                have := HJ.out
                omega
    · have e1 : decide ((j : Int) < (n2 : Int)) = false := decide_eq_false (by omega)
      have e2 : decide (j < n2) = false := decide_eq_false hlt
      have HPB : Hid (puts.length ≤ 1759218604390) := by show _ ≤ _; omega
      have HN1 := hid HN0.out
      clear hlt hj hK hpl HN0
      go_wp2
      clear e1 e2
      go_loopw [16] (fun i wx => ∃ q : Nat, q ≤ n ∧ i = .int .i64 q ∧ NS w wx n p g K D puts pv fs av) (fun i _ => n - (intOf i).toNat)
      case atStart => exact ⟨0, Nat.zero_le _, rfl, HN1.out⟩
      case round =>
        obtain ⟨q, hq, rfl, hns⟩ := hrel
        clear HN1
        have HN2' := hid hns
        clear hns
        by_cases hlt : q < n
        · have HQ := hid hlt
          have lq : (q : Int) < (n : Int) := by omega
          have q8 : (q : Int) ≤ 8 := by have := HL8.out; omega
          clear hlt hq
          go_wp2
          go_loopw [17] (fun i wy => ∃ d : Nat, d ≤ 2 ∧ i = .int .i64 d ∧ NS w wy n p g K D puts pv fs av) (fun i _ => 2 - (intOf i).toNat)
          case atStart => exact ⟨0, by decide, rfl, HN2'.out⟩
          case round =>
            obtain ⟨d, hd, rfl, hns⟩ := hrel
            clear HN2'
            have HN3 := hid hns
            clear hns
            by_cases hlt : d < 2
            · have HDD := hid hlt
              have d1 : (0 : Int) ≤ (d : Int) := by omega
              have d2 : (d : Int) < 2 := by omega
              clear hlt hd
              go_upto_region 35 with (first
                | (go_at_call 13; refine Calls.mono (HN3.out.look HQ.out) ?_; rintro e w4 ⟨cv, rfl, hl, ho, _, _, hly, _, hb⟩; have HL2 := hid hl; have HO2 := hid ho; have HLY := hid (hly d HDD.out); have HB4 := hid hb; clear hl ho hly hb)
                | (show wpList _ _ _ (Oper.mk none (.store 47 (.tmp 18) (.tmp 167)) _ _ _ _ :: _) _ _; refine Row.wpStore' (Row.new' w4 _ vz 47 _ rfl rfl) 47 (.tmp 18) (.tmp 167) cv rfl rfl rfl rfl (by rw [HL2.out]; rfl) HO2.out (by rw [HL2.out]; exact i41) ?_; intro w5 HZ5))
              have HV5 : Hid (Row w5 w4.heap.size cv 47) := by show Row _ _ _ _; rw [HZ5.out]; exact (Row.new' w4 _ vz 47 _ rfl rfl).row _
              have HB5 : Hid (Below wr.heap.size wr w5) := by show Below _ _ _; rw [HZ5.out]; exact below_setRow (HB4.out.alloc HB4.out.size _) HB4.out.size _
              have HN5 := hid (HN3.out.kept HB5.out)
              generalize w4.heap.size = vb at *
              clear HZ5 HB4 HB5 HN3 HL2 HO2
              obtain ⟨_, hl30⟩ := HN5.out.len HQ.out HDD.out
              obtain ⟨L, hL⟩ : ∃ L, L = (D.fd q d).length := ⟨_, rfl⟩
              rw [← hL] at HLY hl30
              have HLE := hid hL
              have lb : (L : Int) ≤ 1073741824 := by omega
              clear hL hl30
              go_wp2
              go_loopw [20] (fun i wz => ∃ k : Nat, k ≤ L ∧ i = .int .i64 k ∧ NS w wz n p g K D puts pv fs av ∧ Row wz vb cv 47) (fun i _ => L - (intOf i).toNat)
              case atStart => exact ⟨0, Nat.zero_le _, rfl, HN5.out, HV5.out⟩
              case round =>
                obtain ⟨k, hk, rfl, hns, hv⟩ := hrel
                clear HN5 HV5
                have HN6 := hid hns
                have HV6 := hid hv
                have v1 := hv.cell _ _ HLY.out
                clear hns hv
                by_cases hlt : k < L
                · have lk : (k : Int) < (L : Int) := by omega
                  have k1 : (k : Int) ≤ 1073741824 := by omega
                  have HKL := hid hlt
                  have HKD : Hid (k < (D.fd q d).length) := by show _ < _; rw [← HLE.out]; exact hlt
                  have HFM0 : Hid (sp (D.at q d k).2 (D.at q d k).1.length = false → ∃ x ∈ puts, x.path = q ∧ x.dir = d ∧ x.frame = xorT (D.at q d k).1 (D.at q d k).2) := fun e => by
                    rw [sp_none e]
                    exact (HHD.out.sound q d HQ.out HDD.out).from_ _ (at_mem HKD.out)
                  clear hlt hk
                  go_upto_region 39 with (go_at_call 14; refine Calls.mono (HN6.out.peek HQ.out HDD.out HKD.out) ?_; rintro e w9 ⟨g9, rfl, _, hr, hb⟩; have HR9 := hid hr; have HN9 := hid (HN6.out.kept hb); have HV9 := hid (HV6.out.kept hb HV6.out.lt); clear hr hb HN6 HV6 v1)
                  refine wp_world fun w10 HW => ?_
                  obtain ⟨y, hy⟩ : ∃ y, y = w9.heap.size := ⟨_, rfl⟩
                  have HB10 : Hid (Below w9.heap.size w9 w10) := by show Below _ _ _; rw [HW.out]; exact below_grow (Below.refl _ _) _
                  have HY : Hid (Row w10 y [.slice (some ⟨g9, 0, none⟩) (D.at q d k).1.length (D.at q d k).1.length, .bool (sp (D.at q d k).2 (D.at q d k).1.length)] 39) := by show Row _ _ _ _; rw [HW.out, hy]; exact Row.new' _ _ _ _ _ rfl rfl
                  have HN10 := hid (HN9.out.kept HB10.out)
                  have HV10 := hid (HV9.out.kept HB10.out HV9.out.lt)
                  have HR10 := hid (HR9.out.kept HB10.out HR9.out.lt)
                  rw [← hy]
                  clear hy HW HB10 HN9 HV9 HR9
                  obtain ⟨bS, hbS⟩ : ∃ b, b = sp (D.at q d k).2 (D.at q d k).1.length := ⟨_, rfl⟩
                  rw [← hbS] at HY HFM0
                  have y0 := HY.out.cell 0 _ rfl
                  have y1 := HY.out.cell 1 _ rfl
                  clear hbS
                  cases bS with
                  | true =>
                    go_wp2
                    go_roundw
                    case rel => exact ⟨k + 1, HKL.out, by first | go_num | (rw [Int.natCast_succ]), HN10.out, HV10.out⟩
                    case measure =>
                      simp [intOf]
                      have := HKL.out
                      omega
                  | false =>
                    have HFM := hid (from_any (cap := (D.at q d k).1.length) HN10.out.puts HN10.out.bel HPB.out HR10.out.bytes (xorT_len _ _) (HFM0.out rfl))
                    clear HFM0 HR10
                    generalize (D.at q d k).1.length = ml at *
                    go_wp2_with (go_at_call 12; refine Calls.mono HFM.out ?_; rintro e w11 ⟨rfl, rfl⟩)
                    go_roundw
                    case rel => exact ⟨k + 1, HKL.out, by first | go_num | (rw [Int.natCast_succ]), HN10.out, HV10.out⟩
                    case measure =>
                      simp [intOf]
                      have := HKL.out
                      omega
                · have e1 : decide ((k : Int) < (L : Int)) = false := decide_eq_false (by omega)
                  have e2 : decide (k < L) = false := decide_eq_false hlt
                  clear hlt hk
                  go_wp2
                  go_roundw
                  case rel => exact ⟨d + 1, HDD.out, by first | go_num | (rw [Int.natCast_succ]), HN6.out⟩
                  case measure =>
                    simp [intOf]
                    have := HDD.out
                    omega
            · have e3 : decide ((d : Int) < 2) = false := decide_eq_false (by omega)
              clear hlt hd
              go_wp2
              go_roundw
              case rel => exact ⟨q + 1, HQ.out, by first | go_num | (rw [Int.natCast_succ]), HN3.out⟩
              case measure =>
                simp [intOf]
                have := HQ.out
                omega
        · have e1 : decide ((q : Int) < (n : Int)) = false := decide_eq_false (by omega)
          have e2 : decide (q < n) = false := decide_eq_false hlt
          clear hlt hq
          have HPA := hid HN2'.out.paths
          have t1 : ((n : Int) == (n : Int)) = true := beq_self_eq_true _
          go_wp2_with (go_at_call 15; refine Calls.mono HPA.out ?_; rintro e w9 ⟨rfl, rfl⟩)
          go_ret
          exact ⟨rfl, HN2'.out.bel⟩
end Go.Proofs.Ytjnmfedefmemnab
namespace Go.Proofs.Ytjnmfedefmemnab
open Go.ChangeShapes Go.WideShapes Go.ChangeAt Go.RowKit Go.Deep
set_option maxRecDepth 100000

theorem bytes35 : Try.prog.bytesOf 5 = 1 := by kernel_rfl
theorem bytes37 : Try.prog.bytesOf 37 = 80 := by kernel_rfl
theorem weights_mem_all {H : Type} {P : Program} {e : TypeId} {d : DataW H} : ∀ {l : List (DataW H)}, d ∈ l → ∀ n ∈ d.weights P e, n ∈ DataW.weightsAll P e l
  | x :: r, h, n, hn => by
    simp only [DataW.weightsAll]
    rcases List.mem_cons.1 h with rfl | h
    · exact List.mem_append_left _ hn
    · exact List.mem_append_right _ (weights_mem_all h n hn)
section
variable {H : Type} {enc : TypeId × Value → H} {W : World}
theorem open_op_sized {n : Nat} {sp : Nat → Bool} {held : Bool} {cs : List Value} {y : DataW H × List MemPlace} (h : DataW.trod enc Try.prog W 0 sp held n 37 cs = some y) (hw : ∀ k ∈ y.1.weights Try.prog 37, k ≤ reachBytes) :
    ∃ o : OpV, cs = o.cells ∧ BytesAt W o.fa o.frame ∧ o.frame.length ≤ 140737488351232 := by
  obtain ⟨xs, k, _, hy, hl, hxl, hf⟩ := DataW.trod_struct Try.underlying37 h
  rw [cells60] at hl
  match cs, hl with
  | [v0, v1, v2, v3, v4, v5, v6, v7, v8], _ =>
    have hx : xs.length = 9 := hxl
    match xs, hx with
    | [y0, y1, y2, y3, y4, y5, y6, y7, y8], _ =>
      have g0 := hf 0 _ rfl
      have g1 := hf 1 _ rfl
      have g2 := hf 2 _ rfl
      have g3 := hf 3 _ rfl
      have g4 := hf 4 _ rfl
      have g5 := hf 5 _ rfl
      have g6 := hf 6 _ rfl
      have g7 := hf 7 _ rfl
      have g8 := hf 8 _ rfl
      simp [cells3, cells4, cells5, cells22] at g0 g1 g2 g3 g4 g5 g6 g7 g8
      obtain ⟨x0, e0, _, _⟩ := DataW.trod_int Try.underlying3 g0
      obtain ⟨x1, e1, _⟩ := DataW.trod_bool Try.underlying4 g1
      obtain ⟨x2, e2, _, _⟩ := DataW.trod_int Try.underlying3 g2
      obtain ⟨x3, e3, _, _⟩ := DataW.trod_int Try.underlying3 g3
      obtain ⟨x4, e4, _, _⟩ := DataW.trod_int Try.underlying3 g4
      obtain ⟨x5, e5, _, _⟩ := DataW.trod_int Try.underlying3 g5
      obtain ⟨x6, e6, _, w6⟩ := DataW.trod_int Try.underlying5 g6
      obtain ⟨x7, e7, _⟩ := DataW.trod_bool Try.underlying4 g7
      obtain ⟨a8, l8, c8, e8⟩ := cell_slice g8
      simp at e0 e1 e2 e3 e4 e5 e6 e7
      subst e0 e1 e2 e3 e4 e5 e6 e7 e8
      obtain ⟨bs, rfl, hB, _, hsl⟩ := open_bytes g8
      have b6 := bounds_u8 w6
      refine ⟨⟨x0, x1, x2, x3, x4, x5, BitVec.ofNat 8 x6.toNat, x7, bs, a8, c8⟩, ?_, hB, ?_⟩
      · show _ = [_, _, _, _, _, _, _, _, _]
        rw [← ub_of x6 b6.1 (by omega)]
      · rcases hsl with h0 | ⟨el, sp2, e, e2⟩
        · show bs.length ≤ _
          omega
        · have h1 : (el.length + sp2.length) * Try.prog.bytesOf 5 ∈ y.1.weights Try.prog 37 := by
            rw [hy]
            simp only [DataW.weights, Try.underlying37]
            refine DataW.weights_mem_each (j := 8) (t := 35) (d := y8.1) rfl rfl _ ?_
            rw [e]
            simp [DataW.weights, Try.underlying35]
          have h2 := hw _ h1
          rw [bytes35] at h2
          simp only [reachBytes] at h2
          show bs.length ≤ _
          omega
theorem open_ops_sized {sp : Nat → Bool} {held : Bool} {fuel len cap : Nat} {a : Option Addr} {x : DataW H × List MemPlace} (h : DataW.trod enc Try.prog W 0 sp held fuel 32 [.slice a len cap] = some x) (hw : ∀ k ∈ x.1.weights Try.prog 32, k ≤ reachBytes) :
    ∃ ops : List OpV, ops.length = len ∧ OpsAt W a ops ∧ (∀ o ∈ ops, o.frame.length ≤ 140737488351232) ∧ len ≤ 1759218604390 := by
  rcases open_slice Try.underlying32 h with ⟨hcs, _⟩ | ⟨ad, l, c, m, n, D, Pl, hcs, _, hl, hm, hmm, hx, hel⟩
  · simp at hcs
    obtain ⟨rfl, rfl, rfl⟩ := hcs
    exact ⟨[], rfl, fun i h => by simp at h, (fun f hf => by cases hf), Nat.zero_le _⟩
  · simp at hcs
    obtain ⟨rfl, rfl, rfl⟩ := hcs
    have hlm : len ≤ m := by rw [hmm]; split <;> omega
    have each : ∀ i, i < len → ∃ o : OpV, (∀ j v, o.cells[j]? = some v → W.cell? (ad.add (i * 9 + j)) = some v) ∧ BytesAt W o.fa o.frame ∧ o.frame.length ≤ 140737488351232 := by
      intro i hi
      obtain ⟨cs', h1, h2⟩ := hel i (by omega)
      rw [cells60] at h1
      obtain ⟨_, hlen, hcell⟩ := World.cells?_some h1
      obtain ⟨o, rfl, hB, hb⟩ := open_op_sized h2 (fun k hk => hw k (by
        rw [hx]
        simp only [DataW.weights, Try.underlying32]
        exact List.mem_cons_of_mem _ (List.mem_append_left _ (weights_mem_all (d := D i) (List.mem_map.2 ⟨i, by simpa using hi, rfl⟩) k hk))))
      refine ⟨o, fun j v hv => ?_, hB, hb⟩
      have hj : j < 9 := by have := (List.getElem?_eq_some_iff.1 hv).1; simpa [OpV.cells] using this
      have := hcell j (by omega)
      rw [add_add, hv] at this
      exact this
    obtain ⟨f, hf⟩ := choose_lt each
    refine ⟨(List.range len).map f, by simp, fun i h => ?_, fun o ho => ?_, ?_⟩
    · have hi : i < len := by simpa using h
      have h0 := (hf 0 (by omega)).1 0 _ rfl
      have hs : ad.spot = none := World.cell?_spot (a := ad) (v := .int .i64 (f 0).kind) (by simpa [Addr.add] using h0)
      have hh := hf i (by omega)
      refine ⟨ad.block, ad.off, ?_, fun j v hv => ?_, ?_⟩
      · cases ad; simp only at hs; subst hs; rfl
      · have h1 := hh.1 j v (by simpa using hv)
        rw [addr_off hs] at h1
        rw [Nat.add_assoc]
        exact h1
      · simpa using hh.2.1
    · obtain ⟨j, hj, rfl⟩ := List.mem_map.1 ho
      exact (hf j (by simpa using hj)).2.2
    · have h1 := hw ((((List.range len).map D).length + _) * Try.prog.bytesOf 37) (by
        rw [hx]
        simp only [DataW.weights, Try.underlying32]
        exact List.mem_cons_self)
      rw [bytes37] at h1
      simp only [reachBytes, List.length_map, List.length_range] at h1
      omega
end
end Go.Proofs.Ytjnmfedefmemnab
namespace Go.Proofs.Ytjnmfedefmemnab
open Go.ChangeShapes Go.WideShapes Go.ChangeAt Go.RowKit Go.Deep

set_option maxRecDepth 100000 in
theorem nowhere_lifted (os : Os) (started : os.Started) (H : Type) (enc : TypeId × Value → H) :
    ReturnsInHanded {} Try.checked os 4 .any (Rows.simnetNowhereSpec.pre6 enc Try.prog Try.f4 Rows.simnetNowhereRow.domain false) (Rows.simnetNowhereSpec.post enc Try.prog Try.f4 false true false false) := by
  refine returnsInHanded_of_change_sized (C := Try.checked) own started (by kernel_rfl) Try.func4
    (ChangeSpec.witness6 (enc := enc) (C := Try.checked) false ⟨#[], #[.slice none 0 0, .slice none 0 0], []⟩ 8 (by kernel_rfl) (by kernel_rfl) (by kernel_rfl) (by kernel_rfl)) ?_
  intro W base args ds gs before hval0 hW _ hsz0 _
  have hsz : (DataW.weightsEach Try.prog (Try.f4.params.toList ++ Rows.simnetNowhereSpec.plain.varTypes Try.prog) (ds ++ gs)).all (· ≤ reachBytes) = true := hsz0
  clear hsz0
  have hval : ∀ (j : Nat) t v, Try.f4.params[j]? = some t → args[j]? = some v → Value.okWide Try.prog W .any base t v := hval0
  have hW' := hW
  obtain ⟨p, q, hA0, hV, rfl, _, _⟩ := hW
  have hA : DataW.TrodAll enc Try.prog W 0 (fun _ => true) true Try.f4.params.toList args.toList ds p := hA0
  rw [Try.params4] at hA hval hsz
  obtain ⟨v0, v1, d0, d1, p0, p1, rfl, rfl, rfl, h0, h1⟩ := trodAll_two hA
  obtain ⟨rfl, rfl⟩ := trodVars_none hV
  obtain ⟨a0, len, cap, rfl⟩ := okWide_slice Try.underlying22 (hval 0 22 v0 rfl rfl)
  obtain ⟨a1, lenb, capb, rfl⟩ := okWide_slice Try.underlying32 (hval 1 32 v1 rfl rfl)
  have k0 := h0
  have k1 := h1
  have lt0 : ∀ x ∈ p0, x.block < W.heap.size := by obtain ⟨m, hm⟩ := k0; exact DataW.trod_lt m _ _ _ hm
  have lt1 : ∀ x ∈ p1, x.block < W.heap.size := by obtain ⟨m, hm⟩ := k1; exact DataW.trod_lt m _ _ _ hm
  obtain ⟨ps, hpl, hP, _⟩ : ∃ ps : List Int, ps.length = len ∧ CellsAt W a0 (ps.map (Value.int .i64)) ∧ len ≤ Rows.uptoBulk d0 := by
    obtain ⟨fuel, hf⟩ := h0
    exact open_ints hf
  obtain ⟨ops, hol, hO, hfl, hb1⟩ : ∃ ops : List OpV, ops.length = lenb ∧ OpsAt W a1 ops ∧ (∀ o ∈ ops, o.frame.length ≤ 140737488351232) ∧ lenb ≤ 1759218604390 := by
    obtain ⟨fuel, hf⟩ := h1
    exact open_ops_sized hf (fun k hk => by simpa using List.all_eq_true.1 hsz k (DataW.weights_mem_each (j := 1) (t := 32) (d := d1) rfl rfl k hk))
  clear hA0 hval0
  refine (nowhere_any (c1 := cap) (c2 := capb) hP hpl hO hol hb1 hfl).mono fun e W' ⟨he, bel⟩ => ?_
  subst he
  exact ⟨_, rfl, _, _, _, [], _, [], hW', trodAll_mk1 (shut_bool Try.underlying4 _), (trodAll_cons_mk (Below.trod laidOut (by kernel_rfl) (of_decide_eq_true (by kernel_rfl)) k0 bel lt0) (trodAll_cons_mk (Below.trod laidOut (by kernel_rfl) (of_decide_eq_true (by kernel_rfl)) k1 bel lt1) trodAll_mk0)), rfl, bel.frame _, fun h => by cases h⟩

/-- Nothing comes from nowhere. -/
theorem nowhere_holds : Rows.SimnetNowhereSaid :=
  OpenClaim.holds_of_wide 4 Try.f4 rfl rfl rfl rfl rfl rfl rfl ⟨rfl, rfl, rfl, rfl, rfl⟩ rfl rfl rfl rfl rfl (by kernel_rfl) Try.func4 (by kernel_rfl)
    (of_decide_eq_true (by kernel_rfl)) (by unfold Func.isWrapper; first | (rw [if_pos (by decide +kernel)]; kernel_rfl) | (rw [if_neg (by decide +kernel)]; exact ⟨rfl, rfl⟩))
    (fun os started H enc _ => nowhere_lifted os started H enc)
#print axioms nowhere_holds
end Go.Proofs.Ytjnmfedefmemnab
