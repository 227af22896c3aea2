import Derived.Test.YtaklbofbhanjgaaDoorIvCounts
import Derived.Laws.CopyOwn
import Derived.Lib.AppendZerosOnto
import Derived.Lib.Overlaps
import Derived.Deep.RegionLaw
namespace Go.Proofs.YtaklbofbhanjgaaDoor
open Go.RowKit
set_option maxRecDepth 100000

theorem info29 : (Tryd.prog.info? 92).map (fun i => (i.zero, i.size, i.bytes)) = some (some (.agg #[.int .u64 0, .int .u64 0]), 2, 16) := by kernel_rfl

/-- n elements that are zero. -/
def zeros (n : Nat) : List Value := (Builtin.zeroCells #[.int .u64 0, .int .u64 0] n).toList
theorem length_zeros (n : Nat) : (zeros n).length = n * 2 := by simp [zeros, size_zeroCells]
theorem zeros_one (n : Nat) : ∀ v ∈ zeros n, v.oneCell' = true := by
  intro v hv
  simp only [zeros, Builtin.zeroCells, Array.toList_map, List.mem_map] at hv
  obtain ⟨i, _, rfl⟩ := hv
  have : i % 2 = 0 ∨ i % 2 = 1 := by omega
  rcases this with h | h <;> simp [h] <;> rfl

theorem grown_setRow (w : World) (g : Nat) (cs : Array Value) : w.grownBy (w.setRow g cs) (some g) :=
  ⟨rfl, rfl, rfl, by simp, fun k _ hk => setRow_other w g k cs (fun e => hk (by rw [e]))⟩
theorem grown_refl (w : World) (row : Option Nat) : w.grownBy w row := ⟨rfl, rfl, rfl, Nat.le_refl _, fun _ _ _ => rfl⟩

/-- 'copy' over stretches, the target in a row that is known whole. -/
theorem run_copy2 (w : World) (ty : TypeId) (dp sp : Option Addr) (dLen dCap sLen sCap g off : Nat) (cur : List Value) (hg : w.heap[g]? = some (.cells cur.toArray 92 (0, 0)))
    (cs : List Value) (hn : cs.length = Nat.min sLen dLen * 2)
    (hpos : 0 < cs.length → dp = some ⟨g, off, none⟩ ∧ ∃ ad, sp = some ad ∧ ∀ j v, cs[j]? = some v → w.cell? (ad.add j) = some v)
    (hfit : off + cs.length ≤ cur.length) (h1 : ∀ v ∈ cs, v.oneCell' = true) :
    ∃ w', (Builtin.copy_ #[58, 58] ty #[.slice dp dLen dCap, .slice sp sLen sCap]).run Tryd.prog w = .ok (goInt (Nat.min sLen dLen)) w' ∧ w'.heap[g]? = some (.cells (splice cur off cs).toArray 92 (0, 0)) ∧ w.grownBy w' (some g) := by
  obtain ⟨i, hi, hz0, hz1, hz2⟩ := info_parts info29
  by_cases h0 : cs.length = 0
  · obtain rfl : cs = [] := List.eq_nil_of_length_eq_zero h0
    have hm : Nat.min sLen dLen = 0 := by simp at hn; omega
    refine ⟨w, ?_, by simpa [splice] using hg, grown_refl _ _⟩
    cases dp <;> cases sp <;> simp [Builtin.copy_, run_underlying Tryd.underlying58, Builtin.lenOf, Builtin.firstCells, sizeOf, typeInfo, hi, hm, loadCells, loadCellsFrom, storeCells]
  · obtain ⟨rfl, ad, rfl, hsrc⟩ := hpos (by omega)
    have hl := run_loadCells_list (P := Tryd.prog) w ad cs hsrc
    have hst := run_storeCells_at Tryd.prog g off 92 cs 0 cur.toArray w hg (by simpa using hfit) h1
    refine ⟨_, ?_, setRow_heap w g _ (splice cur off cs).toArray 92 _ hg, grown_setRow _ _ _⟩
    rw [show (splice cur off cs).toArray = (cur.take off ++ cs ++ cur.drop (off + cs.length)).toArray by simp [splice]]
    simp only [Nat.add_zero] at hst
    simp [Builtin.copy_, run_underlying Tryd.underlying58, Builtin.lenOf, Builtin.firstCells, sizeOf, typeInfo, hi, hz1, ← hn, hl, hst]

/-- 'clear' over stretches of a row that is known whole. -/
theorem run_clear2 (w : World) (ap : Option Addr) (n c g off : Nat) (cur : List Value) (hg : w.heap[g]? = some (.cells cur.toArray 92 (0, 0))) (hpos : 0 < n → ap = some ⟨g, off, none⟩) (hfit : off + n * 2 ≤ cur.length) :
    ∃ w', (∀ ty, (Builtin.clear_ #[58] ty #[.slice ap n c]).run Tryd.prog w = .ok (.tuple #[]) w') ∧ w'.heap[g]? = some (.cells (splice cur off (zeros n)).toArray 92 (0, 0)) ∧ w.grownBy w' (some g) := by
  obtain ⟨i, hi, hz0, hz1, hz2⟩ := info_parts info29
  cases n with
  | zero =>
    refine ⟨w, fun ty => ?_, by simpa [splice, zeros, Builtin.zeroCells] using hg, grown_refl _ _⟩
    cases ap <;> simp [Builtin.clear_, run_underlying Tryd.underlying58]
  | succ n =>
    obtain rfl := hpos (by omega)
    have hst := run_storeCells_at Tryd.prog g off 92 (zeros (n + 1)) 0 cur.toArray w hg (by simpa [length_zeros] using hfit) (zeros_one _)
    refine ⟨_, fun ty => ?_, setRow_heap w g _ (splice cur off (zeros (n + 1))).toArray 92 _ hg, grown_setRow _ _ _⟩
    rw [show (splice cur off (zeros (n + 1))).toArray = (cur.take off ++ zeros (n + 1) ++ cur.drop (off + (zeros (n + 1)).length)).toArray by simp [splice]]
    simp only [Nat.add_zero, zeros] at hst
    simp [Builtin.clear_, run_underlying Tryd.underlying58, zeroValue, typeInfo, hi, hz0, Value.cells, hst, zeros]

/-- 'append' where there is room. -/
theorem run_room2 (w : World) (ty : TypeId) (g sLen sCap : Nat) (cur : List Value) (hg : w.heap[g]? = some (.cells cur.toArray 92 (0, 0)))
    (a : Addr) (m c : Nat) (news : List Value) (hl : news.length = m * 2) (hnews : ∀ j u, news[j]? = some u → w.cell? (a.add j) = some u) (h1 : ∀ u ∈ news, u.oneCell' = true) (hroom : sLen + m ≤ sCap) (hfit : sLen * 2 + news.length ≤ cur.length) :
    ∃ w', (Builtin.append_ #[58, 58] ty #[.slice (some ⟨g, 0, none⟩) sLen sCap, .slice (some a) m c]).run Tryd.prog w = .ok (.slice (some ⟨g, 0, none⟩) (sLen + m) sCap) w' ∧ w'.heap[g]? = some (.cells (splice cur (sLen * 2) news).toArray 92 (0, 0)) ∧ w.grownBy w' (some g) := by
  obtain ⟨i, hi, hz0, hz1, hz2⟩ := info_parts info29
  have hr := run_append_room (P := Tryd.prog) w 58 ty 92 i Tryd.underlying58 hi g sLen sCap cur.toArray hg a m c news (by rw [hz1]; exact hl) hnews h1 hroom (by rw [hz1]; simpa using hfit)
  rw [hz1] at hr
  refine ⟨_, ?_, setRow_heap w g _ (splice cur (sLen * 2) news).toArray 92 _ hg, grown_setRow _ _ _⟩
  rw [hr]
  simp [splice]

/-- 'append' where there is none: a new row. -/
theorem run_grow2 (w : World) (ty : TypeId) (b : Addr) (sLen sCap : Nat) (olds : List Value) (hlo : olds.length = sLen * 2) (holds : ∀ j v, olds[j]? = some v → w.cell? (b.add j) = some v)
    (a : Addr) (m c : Nat) (news : List Value) (hl : news.length = m * 2) (hnews : ∀ j u, news[j]? = some u → w.cell? (a.add j) = some u) (hg : sCap < sLen + m) (hbytes : (sLen + m) * 16 ≤ 140737488355328) :
    ∃ w' cap' tail, (Builtin.append_ #[58, 58] ty #[.slice (some b) sLen sCap, .slice (some a) m c]).run Tryd.prog w = .ok (.slice (some ⟨w.heap.size, 0, none⟩) (sLen + m) cap') w' ∧ w'.heap[w.heap.size]? = some (.cells (olds ++ news ++ tail).toArray 92 (0, 0)) ∧ sLen + m ≤ cap' ∧ cap' ≤ maxLen ∧ (olds ++ news ++ tail).length = cap' * 2 ∧ w.grownBy w' none := by
  obtain ⟨i, hi, hz0, hz1, hz2⟩ := info_parts info29
  have hr := run_append_grow (P := Tryd.prog) w 58 ty 92 i _ Tryd.underlying58 hi hz0 b sLen sCap olds (by rw [hz1]; exact hlo) holds a m c news (by rw [hz1]; exact hl) hnews hg (by omega) (by rw [hz2]; exact growslice_fits hg hbytes)
  refine ⟨_, _, zeros (grownCap w (sLen + m) sCap 92 - (sLen + m)), hr, ?_, grownCap_ge w _ _ _, grownCap_le_maxLen w _ _ _ (by unfold maxLen; omega), ?_, ⟨rfl, rfl, rfl, by simp, fun k hk _ => Below.heap_alloc w.drew _ k hk⟩⟩
  · rw [show w.heap.size = w.drew.heap.size from rfl, heap_alloc_new]
    simp [zeros, Value.cells]
  · have := grownCap_ge w (sLen + m) sCap 92
    simp only [List.length_append, hlo, hl, length_zeros]
    omega
theorem run_nil2 (w : World) (ty : TypeId) (a : Addr) (m c : Nat) (news : List Value) (h0 : 0 < m) (hl : news.length = m * 2) (hnews : ∀ j u, news[j]? = some u → w.cell? (a.add j) = some u) (hbytes : m * 16 ≤ 140737488355328) :
    ∃ w' cap' tail, (Builtin.append_ #[58, 58] ty #[.slice none 0 0, .slice (some a) m c]).run Tryd.prog w = .ok (.slice (some ⟨w.heap.size, 0, none⟩) m cap') w' ∧ w'.heap[w.heap.size]? = some (.cells (news ++ tail).toArray 92 (0, 0)) ∧ m ≤ cap' ∧ cap' ≤ maxLen ∧ (news ++ tail).length = cap' * 2 ∧ w.grownBy w' none := by
  obtain ⟨i, hi, hz0, hz1, hz2⟩ := info_parts info29
  have hr := run_append_nil (P := Tryd.prog) w 58 ty 92 i _ Tryd.underlying58 hi hz0 a m c news (by rw [hz1]; exact hl) hnews h0 (by omega) (by rw [hz2]; omega)
  refine ⟨_, _, zeros (grownCap w m 0 92 - m), hr, ?_, grownCap_ge w _ _ _, grownCap_le_maxLen w _ _ _ (by unfold maxLen; omega), ?_, ⟨rfl, rfl, rfl, by simp, fun k hk _ => Below.heap_alloc w.drew _ k hk⟩⟩
  · rw [show w.heap.size = w.drew.heap.size from rfl, heap_alloc_new]
    simp [zeros, Value.cells]
  · have := grownCap_ge w m 0 92
    simp only [List.length_append, hl, length_zeros]
    omega
/-- 'append(s[:i], make(S, k)...)' where there is no room. -/
theorem run_zeros2 (w : World) (ty : TypeId) (b : Addr) (sLen sCap : Nat) (olds : List Value) (hlo : olds.length = sLen * 2) (holds : ∀ j v, olds[j]? = some v → w.cell? (b.add j) = some v)
    (k : Nat) (h0 : 0 < k) (hg : sCap < sLen + k) (hbytes : (sLen + k) * 16 ≤ 140737488355328) :
    ∃ w' cap' tail, (Builtin.append_ #[58, 3] ty #[.slice (some b) sLen sCap, .int .i64 k]).run Tryd.prog w = .ok (.slice (some ⟨w.heap.size, 0, none⟩) (sLen + k) cap') w' ∧ w'.heap[w.heap.size]? = some (.cells (olds ++ zeros k ++ tail).toArray 92 (0, 0)) ∧ sLen + k ≤ cap' ∧ cap' ≤ maxLen ∧ (olds ++ zeros k ++ tail).length = cap' * 2 ∧ w.grownBy w' none := by
  obtain ⟨i, hi, hz0, hz1, hz2⟩ := info_parts info29
  have hf := run_firstCells_some (P := Tryd.prog) w.drew i.size sLen b sLen sCap olds (by rw [hz1]; exact hlo) (by simpa using holds)
  have hr := Lib.run_append_grow_zeros (P := Tryd.prog) w 58 3 ty 92 i _ .i64 .i64 Tryd.underlying58 Tryd.underlying3 hi hz0 (some b) sLen sCap olds hf k h0 (by rw [hz1]; omega) hg (by omega) (by rw [hz2]; omega) (by rw [hz2]; exact growslice_fits hg hbytes)
  refine ⟨_, _, zeros (grownCap w (sLen + k) sCap 92 - (sLen + k)), hr, ?_, grownCap_ge w _ _ _, grownCap_le_maxLen w _ _ _ (by unfold maxLen; omega), ?_, ⟨rfl, rfl, rfl, by simp, fun k hk _ => Below.heap_alloc w.drew _ k hk⟩⟩
  · rw [show w.heap.size = w.drew.heap.size from rfl, heap_alloc_new]
    simp [zeros, Value.cells]
  · have := grownCap_ge w (sLen + k) sCap 92
    simp only [List.length_append, hlo, length_zeros]
    omega

end Go.Proofs.YtaklbofbhanjgaaDoor
namespace Go.Proofs.YtaklbofbhanjgaaDoor
open Go.RowKit
set_option maxRecDepth 100000

theorem wpList_copy2 {w : World} {ops : Array Oper} {rest : List Oper} {o : Oper} {a : Act} {Q : Exit → Act → World → Prop} (hgd : o.guard = none) (d s : Operand)
    (ho : o.op = .call { callee := .builtin .copy, args := #[d, s], argTypes := #[58, 58] }) (dp sp : Option Addr) (dLen dCap sLen sCap : Nat) (hd : a.eval d = .slice dp dLen dCap) (hs : a.eval s = .slice sp sLen sCap)
    (g off : Nat) (cur : List Value) (hg : w.heap[g]? = some (.cells cur.toArray 92 (0, 0))) (cs : List Value) (hn : cs.length = Nat.min sLen dLen * 2)
    (hpos : 0 < cs.length → dp = some ⟨g, off, none⟩ ∧ ∃ ad, sp = some ad ∧ ∀ j v, cs[j]? = some v → w.cell? (ad.add j) = some v)
    (hfit : off + cs.length ≤ cur.length) (h1 : ∀ v ∈ cs, v.oneCell' = true)
    (h : ∀ w', Hid (w'.heap[g]? = some (.cells (splice cur off cs).toArray 92 (0, 0))) → Hid (w.grownBy w' (some g)) → wpList Tryd.prog ops Q rest (a.put o.dst (goInt (Nat.min sLen dLen))) w') :
    wpList Tryd.prog ops Q (o :: rest) a w := by
  obtain ⟨w', hrun, h2, h3⟩ := run_copy2 w o.type dp sp dLen dCap sLen sCap g off cur hg cs hn hpos hfit h1
  refine wpList_plain hgd fun K hK => ?_
  unfold Oper.wp
  simp [execOp, ho, resolve, invoke, builtin, hd, hs, hrun, Result.andThen]
  exact hK _ _ (h w' h2 h3)

theorem step_copy2 {ops : Array Oper} {o : Oper} {a : Act} {w : World} {K : Act → World → Prop} {Q : Exit → Act → World → Prop} {E : Prop} (hgd : o.guard = none) (d s : Operand)
    (ho : o.op = .call { callee := .builtin .copy, args := #[d, s], argTypes := #[58, 58] }) (dp sp : Option Addr) (dLen dCap sLen sCap : Nat) (hd : a.eval d = .slice dp dLen dCap) (hs : a.eval s = .slice sp sLen sCap)
    (g off : Nat) (cur : List Value) (hg : w.heap[g]? = some (.cells cur.toArray 92 (0, 0))) (cs : List Value) (hn : cs.length = Nat.min sLen dLen * 2)
    (hpos : 0 < cs.length → dp = some ⟨g, off, none⟩ ∧ ∃ ad, sp = some ad ∧ ∀ j v, cs[j]? = some v → w.cell? (ad.add j) = some v)
    (hfit : off + cs.length ≤ cur.length) (h1 : ∀ v ∈ cs, v.oneCell' = true)
    (h : ∀ w', Hid (w'.heap[g]? = some (.cells (splice cur off cs).toArray 92 (0, 0))) → Hid (w.grownBy w' (some g)) → K (a.put o.dst (goInt (Nat.min sLen dLen))) w') :
    if Region.wanted o (yielded ops a.tmps) = true then Oper.wp Tryd.prog o a w K Q else E := by
  obtain ⟨w', hrun, h2, h3⟩ := run_copy2 w o.type dp sp dLen dCap sLen sCap g off cur hg cs hn hpos hfit h1
  have hw : Region.wanted o (yielded ops a.tmps) = true := by simp [Region.wanted, hgd]
  rw [if_pos hw]
  unfold Oper.wp
  simp [execOp, ho, resolve, invoke, builtin, hd, hs, hrun, Result.andThen]
  exact h w' h2 h3

/-- 'copy' as one step of a region that draws, its run known by an equation. -/
theorem step_copy_eq {ops : Array Oper} {o : Oper} {a : Act} {w : World} {K : Act → World → Prop} {Q : Exit → Act → World → Prop} {E : Prop} (hgd : o.guard = none) (d s : Operand)
    (ho : o.op = .call { callee := .builtin .copy, args := #[d, s], argTypes := #[58, 58] }) (hty : o.type = 3) (v u : Value) (hd : a.eval d = v) (hs : a.eval s = u) {v' : Value} {w' : World}
    (hr : (Builtin.copy_ #[58, 58] 3 #[v, u]).run Tryd.prog w = .ok v' w') (h : K (a.put o.dst v') w') :
    if Region.wanted o (yielded ops a.tmps) = true then Oper.wp Tryd.prog o a w K Q else E := by
  have hw : Region.wanted o (yielded ops a.tmps) = true := by simp [Region.wanted, hgd]
  rw [if_pos hw]
  rw [← hty] at hr
  unfold Oper.wp
  simp [execOp, ho, resolve, invoke, builtin, hd, hs, hr, Result.andThen]
  exact h

theorem wpList_room2 {w : World} {ops : Array Oper} {rest : List Oper} {o : Oper} {a : Act} {Q : Exit → Act → World → Prop} (hgd : o.guard = none) (d s : Operand)
    (ho : o.op = .call { callee := .builtin .append, args := #[d, s], argTypes := #[58, 58] }) (g sLen sCap : Nat) (hd : a.eval d = .slice (some ⟨g, 0, none⟩) sLen sCap)
    (cur : List Value) (hg : w.heap[g]? = some (.cells cur.toArray 92 (0, 0))) (ad : Addr) (m c : Nat) (hs : a.eval s = .slice (some ad) m c) (news : List Value) (hl : news.length = m * 2)
    (hnews : ∀ j u, news[j]? = some u → w.cell? (ad.add j) = some u) (h1 : ∀ u ∈ news, u.oneCell' = true) (hroom : sLen + m ≤ sCap) (hfit : sLen * 2 + news.length ≤ cur.length)
    (h : ∀ w', Hid (w'.heap[g]? = some (.cells (splice cur (sLen * 2) news).toArray 92 (0, 0))) → Hid (w.grownBy w' (some g)) → wpList Tryd.prog ops Q rest (a.put o.dst (.slice (some ⟨g, 0, none⟩) (sLen + m) sCap)) w') :
    wpList Tryd.prog ops Q (o :: rest) a w := by
  obtain ⟨w', hrun, h2, h3⟩ := run_room2 w o.type g sLen sCap cur hg ad m c news hl hnews h1 hroom hfit
  refine wpList_plain hgd fun K hK => ?_
  unfold Oper.wp
  simp [execOp, ho, resolve, invoke, builtin, hd, hs, hrun, Result.andThen]
  exact hK _ _ (h w' h2 h3)

theorem wpList_grow2 {w : World} {ops : Array Oper} {rest : List Oper} {o : Oper} {a : Act} {Q : Exit → Act → World → Prop} (hgd : o.guard = none) (d s : Operand)
    (ho : o.op = .call { callee := .builtin .append, args := #[d, s], argTypes := #[58, 58] }) (b : Addr) (sLen sCap : Nat) (hd : a.eval d = .slice (some b) sLen sCap)
    (olds : List Value) (hlo : olds.length = sLen * 2) (holds : ∀ j v, olds[j]? = some v → w.cell? (b.add j) = some v)
    (ad : Addr) (m c : Nat) (hs : a.eval s = .slice (some ad) m c) (news : List Value) (hl : news.length = m * 2)
    (hnews : ∀ j u, news[j]? = some u → w.cell? (ad.add j) = some u) (hg : sCap < sLen + m) (hbytes : (sLen + m) * 16 ≤ 140737488355328)
    (h : ∀ w' cap' tail, Hid (w'.heap[w.heap.size]? = some (.cells (olds ++ news ++ tail).toArray 92 (0, 0))) → sLen + m ≤ cap' → cap' ≤ maxLen → Hid ((olds ++ news ++ tail).length = cap' * 2) → Hid (w.grownBy w' none) →
      wpList Tryd.prog ops Q rest (a.put o.dst (.slice (some ⟨w.heap.size, 0, none⟩) (sLen + m) cap')) w') :
    wpList Tryd.prog ops Q (o :: rest) a w := by
  obtain ⟨w', cap', tail, hrun, h2, h3, h4, h5, h6⟩ := run_grow2 w o.type b sLen sCap olds hlo holds ad m c news hl hnews hg hbytes
  refine wpList_plain hgd fun K hK => ?_
  unfold Oper.wp
  simp [execOp, ho, resolve, invoke, builtin, hd, hs, hrun, Result.andThen]
  exact hK _ _ (h w' cap' tail h2 h3 h4 h5 h6)

theorem wpList_nil2 {w : World} {ops : Array Oper} {rest : List Oper} {o : Oper} {a : Act} {Q : Exit → Act → World → Prop} (hgd : o.guard = none) (d s : Operand)
    (ho : o.op = .call { callee := .builtin .append, args := #[d, s], argTypes := #[58, 58] }) (hd : a.eval d = .slice none 0 0)
    (ad : Addr) (m c : Nat) (hs : a.eval s = .slice (some ad) m c) (news : List Value) (h0 : 0 < m) (hl : news.length = m * 2)
    (hnews : ∀ j u, news[j]? = some u → w.cell? (ad.add j) = some u) (hbytes : m * 16 ≤ 140737488355328)
    (h : ∀ w' cap' tail, Hid (w'.heap[w.heap.size]? = some (.cells (news ++ tail).toArray 92 (0, 0))) → m ≤ cap' → cap' ≤ maxLen → Hid ((news ++ tail).length = cap' * 2) → Hid (w.grownBy w' none) →
      wpList Tryd.prog ops Q rest (a.put o.dst (.slice (some ⟨w.heap.size, 0, none⟩) m cap')) w') :
    wpList Tryd.prog ops Q (o :: rest) a w := by
  obtain ⟨w', cap', tail, hrun, h2, h3, h4, h5, h6⟩ := run_nil2 w o.type ad m c news h0 hl hnews hbytes
  refine wpList_plain hgd fun K hK => ?_
  unfold Oper.wp
  simp [execOp, ho, resolve, invoke, builtin, hd, hs, hrun, Result.andThen]
  exact hK _ _ (h w' cap' tail h2 h3 h4 h5 h6)

theorem wpList_zeros2 {w : World} {ops : Array Oper} {rest : List Oper} {o : Oper} {a : Act} {Q : Exit → Act → World → Prop} (hgd : o.guard = none) (d s : Operand)
    (ho : o.op = .call { callee := .builtin .append, args := #[d, s], argTypes := #[58, 3] }) (b : Addr) (sLen sCap : Nat) (hd : a.eval d = .slice (some b) sLen sCap)
    (olds : List Value) (hlo : olds.length = sLen * 2) (holds : ∀ j v, olds[j]? = some v → w.cell? (b.add j) = some v)
    (z : Int) (k : Nat) (hs : a.eval s = .int .i64 z) (hz : z = (k : Int)) (h0 : 0 < k) (hg : sCap < sLen + k) (hbytes : (sLen + k) * 16 ≤ 140737488355328) (N : Nat) (hN : sLen + k = N)
    (h : ∀ w' cap' tail, Hid (w'.heap[w.heap.size]? = some (.cells (olds ++ zeros k ++ tail).toArray 92 (0, 0))) → N ≤ cap' → cap' ≤ maxLen → Hid ((olds ++ zeros k ++ tail).length = cap' * 2) → Hid (w.grownBy w' none) →
      wpList Tryd.prog ops Q rest (a.put o.dst (.slice (some ⟨w.heap.size, 0, none⟩) N cap')) w') :
    wpList Tryd.prog ops Q (o :: rest) a w := by
  subst hz
  subst hN
  obtain ⟨w', cap', tail, hrun, h2, h3, h4, h5, h6⟩ := run_zeros2 w o.type b sLen sCap olds hlo holds k h0 hg hbytes
  refine wpList_plain hgd fun K hK => ?_
  unfold Oper.wp
  simp [execOp, ho, resolve, invoke, builtin, hd, hs, hrun, Result.andThen]
  exact hK _ _ (h w' cap' tail h2 h3 h4 h5 h6)

/-- A splice, place by place. -/
theorem get_splice {α : Type} (L : List α) (off : Nat) (cs : List α) (h : off + cs.length ≤ L.length) (j : Nat) : (splice L off cs)[j]? = if j < off then L[j]? else if j < off + cs.length then cs[j - off]? else L[j]? := by
  unfold splice
  rw [List.getElem?_append, List.length_take, show min off L.length = off by omega]
  by_cases h1 : j < off
  · rw [if_pos h1, if_pos h1, List.getElem?_take, if_pos h1]
  · rw [if_neg h1, if_neg h1, List.getElem?_append]
    by_cases h2 : j < off + cs.length
    · rw [if_pos (by omega), if_pos h2]
    · rw [if_neg (by omega), if_neg h2, List.getElem?_drop]
      congr 1
      omega
theorem splice_grown {α : Type} (A Z T N D : List α) (hZ : Z.length = N.length + D.length) (a b : Nat) (ha : a = A.length) (hb : b = A.length + N.length) :
    splice (splice (A ++ Z ++ T) a N) b D = A ++ N ++ D ++ T := by
  subst ha; subst hb
  have hl : (splice (A ++ Z ++ T) A.length N).length = (A ++ Z ++ T).length := length_splice _ _ _ (by simp; omega)
  apply List.ext_getElem?
  intro j
  rw [get_splice _ _ _ (by rw [hl]; simp; omega), get_splice _ _ _ (by simp; omega)]
  by_cases h1 : j < A.length
  · rw [if_pos (by omega), if_pos h1, List.append_assoc, List.append_assoc, List.append_assoc, List.getElem?_append_left h1, List.getElem?_append_left h1]
  · by_cases h2 : j < A.length + N.length
    · rw [if_pos h2, if_neg h1, if_pos h2, List.append_assoc, List.append_assoc, List.getElem?_append_right (by omega), List.getElem?_append_left (by omega)]
    · rw [if_neg h2]
      by_cases h3 : j < A.length + N.length + D.length
      · rw [if_pos h3, List.append_assoc (A ++ N), List.getElem?_append_right (by simp; omega), List.getElem?_append_left (by simp; omega)]
        simp
      · rw [if_neg h3, if_neg h1, if_neg h2, List.getElem?_append_right (by simp; omega), List.getElem?_append_right (by simp; omega)]
        simp [hZ]
/-- In place: what is behind goes up first, then the new ones go in. -/
theorem splice_shift {α : Type} (C N D : List α) (a b n : Nat) (hb : b = a + N.length) (hn : n = b + D.length) (hC : n ≤ C.length) :
    (splice (splice C b D) a N).take n = C.take a ++ N ++ D := by
  subst hb; subst hn
  have hl : (splice C (a + N.length) D).length = C.length := length_splice _ _ _ (by omega)
  apply List.ext_getElem?
  intro j
  rw [List.getElem?_take]
  by_cases hj : j < a + N.length + D.length
  · rw [if_pos hj, get_splice _ _ _ (by rw [hl]; omega), get_splice _ _ _ (by omega)]
    by_cases h1 : j < a
    · rw [if_pos h1, if_pos (by omega), List.append_assoc, List.getElem?_append_left (by simp; omega), List.getElem?_take, if_pos h1]
    · rw [if_neg h1]
      by_cases h2 : j < a + N.length
      · rw [if_pos h2, List.append_assoc, List.getElem?_append_right (by simp; omega), List.getElem?_append_left (by simp; omega)]
        simp only [List.length_take]; congr 1; omega
      · rw [if_neg h2, if_neg h2, if_pos hj, List.getElem?_append_right (by simp; omega)]
        simp only [List.length_append, List.length_take]; congr 1; omega
  · rw [if_neg hj, List.getElem?_eq_none (by simp; omega)]
/-- In place: the new ones go in first, then what is behind comes down. -/
theorem splice_close {α : Type} (C N D : List α) (a b n : Nat) (hb : b = a + N.length) (hn : n = b + D.length) (hC : n ≤ C.length) :
    (splice (splice C a N) b D).take n = C.take a ++ N ++ D := by
  subst hb; subst hn
  have hl : (splice C a N).length = C.length := length_splice _ _ _ (by omega)
  apply List.ext_getElem?
  intro j
  rw [List.getElem?_take]
  by_cases hj : j < a + N.length + D.length
  · rw [if_pos hj, get_splice _ _ _ (by rw [hl]; omega), get_splice _ _ _ (by omega)]
    by_cases h1 : j < a
    · rw [if_pos (by omega), if_pos h1, List.append_assoc, List.getElem?_append_left (by simp; omega), List.getElem?_take, if_pos h1]
    · by_cases h2 : j < a + N.length
      · rw [if_pos h2, if_neg h1, if_pos h2, List.append_assoc, List.getElem?_append_right (by simp; omega), List.getElem?_append_left (by simp; omega)]
        simp only [List.length_take]; congr 1; omega
      · rw [if_neg h2, if_pos hj, List.getElem?_append_right (by simp; omega)]
        simp only [List.length_append, List.length_take]; congr 1; omega
  · rw [if_neg hj, List.getElem?_eq_none (by simp; omega)]

end Go.Proofs.YtaklbofbhanjgaaDoor
namespace Go.Proofs.YtaklbofbhanjgaaDoor
open Go.RowKit
set_option maxRecDepth 100000

/-- The slice v', made out of s, holds these cells; of what was there the row of s alone has turned. -/
structure Placed (w w' : World) (s v' : Value) (n : Nat) (xs : List Value) : Prop where
  own : w'.ownsRow 0 92 2 v' n xs
  grown : w.grownBy w' s.ownBlock
  block : v'.ownBlock = s.ownBlock ∨ ∃ g, v'.ownBlock = some g ∧ w.heap.size ≤ g

theorem grown_trans {a b c : World} {r : Option Nat} (h : a.grownBy b r) (k : b.grownBy c r) : a.grownBy c r :=
  ⟨k.os.trans h.os, k.tape.trans h.tape, k.output.trans h.output, Nat.le_trans h.size k.size, fun i hi hn => (k.block i (Nat.lt_of_lt_of_le hi h.size) hn).trans (h.block i hi hn)⟩
/-- A row that was made behind a: what is written there is nothing that was there. -/
theorem grown_new {a b c : World} {r : Option Nat} {g : Nat} (h : a.grownBy b r) (k : b.grownBy c (some g)) (hg : a.heap.size ≤ g) : a.grownBy c r :=
  ⟨k.os.trans h.os, k.tape.trans h.tape, k.output.trans h.output, Nat.le_trans h.size k.size, fun i hi hn => (k.block i (Nat.lt_of_lt_of_le hi h.size) (by simp; omega)).trans (h.block i hi hn)⟩
theorem grown_any {a b : World} {r : Option Nat} (h : a.grownBy b none) : a.grownBy b r := ⟨h.os, h.tape, h.output, h.size, fun i hi _ => h.block i hi (by simp)⟩
theorem grown_drew {a b : World} {r : Option Nat} (h : a.grownBy b r) : a.grownBy b.drew r := ⟨h.os, h.tape, h.output, h.size, h.block⟩

theorem own_mk {w : World} {g n cap : Nat} {row xs : List Value} (hg : w.heap[g]? = some (.cells row.toArray 92 (0, 0))) (hn : n ≤ cap) (hc : cap ≤ maxLen) (hl : row.length = cap * 2) (ht : row.take (n * 2) = xs) :
    w.ownsRow 0 92 2 (.slice (some ⟨g, 0, none⟩) n cap) n xs :=
  ⟨by rw [← ht, List.length_take, hl]; omega, .inr ⟨g, cap, row.toArray, rfl, Nat.zero_le _, hg, hn, hc, by simpa using hl, by simpa using ht⟩⟩

theorem row_cells {w : World} {g : Nat} {row : List Value} (hg : w.heap[g]? = some (.cells row.toArray 92 (0, 0))) (off : Nat) (cs : List Value) (h : cs = (row.drop off).take cs.length) : ∀ j v, cs[j]? = some v → w.cell? ((⟨g, off, none⟩ : Addr).add j) = some v := by
  intro j v hj
  rw [Addr.add_lit, cell_of_row w g _ _ _ _ hg]
  have hlt : j < cs.length := (List.getElem?_eq_some_iff.1 hj).1
  rw [h, List.getElem?_take, if_pos hlt, List.getElem?_drop] at hj
  simpa using hj

set_option maxHeartbeats 1000000 in
/-- At the end of a slice that is nil. -/
theorem insert_nil (w : World) (h m c : Nat) (src : List Value) (hh : w.heap[h]? = some (.cells src.toArray 92 (0, 0))) (hm : m * 2 ≤ src.length) (h0 : 0 < m) (hb : m * 16 ≤ 140737488355328) :
    Calls Tryd.prog 102 #[.slice none 0 0, .int .i64 0, .slice (some ⟨h, 0, none⟩) m c] w fun e w' => ∃ v', e = .returned v' ∧ Placed w w' (.slice none 0 0) v' m (src.take (m * 2)) := by
  have hn : (src.take (m * 2)).length = m * 2 := by rw [List.length_take]; omega
  have hc := row_cells hh 0 (src.take (m * 2)) (by rw [hn]; simp)
  have hm0 : ((m : Int) == 0) = false := by simp; omega
  generalize hnew : src.take (m * 2) = news at *
  have HC : Hid _ := hc
  have HN : Hid _ := hn
  clear hc hn hnew hh
  go_enter Tryd.func102, Tryd.ntmps102
  go_wp2_with (at_builtin; refine wpList_nil2 rfl _ _ rfl rfl ⟨h, 0, none⟩ m c rfl news h0 HN.out HC.out hb ?_; intro w1 cap' tail hr hc1 hc2 hl hg)
  go_ret
  refine ⟨_, rfl, own_mk hr.out hc1 hc2 hl.out ?_, grown_any hg.out, .inr ⟨_, rfl, Nat.le_refl _⟩⟩
  rw [← HN.out, List.take_left]

set_option maxHeartbeats 1000000 in
/-- At the end, where there is room. -/
theorem insert_room (w : World) (g n cap : Nat) (row : List Value) (hg : w.heap[g]? = some (.cells row.toArray 92 (0, 0))) (_hnc : n ≤ cap) (hcm : cap ≤ maxLen) (hrl : row.length = cap * 2)
    (h m c : Nat) (src : List Value) (hh : w.heap[h]? = some (.cells src.toArray 92 (0, 0))) (hm : m * 2 ≤ src.length) (h1 : ∀ v ∈ src.take (m * 2), v.oneCell' = true) (h0 : 0 < m) (hroom : n + m ≤ cap) :
    Calls Tryd.prog 102 #[.slice (some ⟨g, 0, none⟩) n cap, .int .i64 n, .slice (some ⟨h, 0, none⟩) m c] w fun e w' => ∃ v', e = .returned v' ∧ Placed w w' (.slice (some ⟨g, 0, none⟩) n cap) v' (n + m) (row.take (n * 2) ++ src.take (m * 2)) := by
  have hn : (src.take (m * 2)).length = m * 2 := by rw [List.length_take]; omega
  have hc := row_cells hh 0 (src.take (m * 2)) (by rw [hn]; simp)
  have hm0 : ((m : Int) == 0) = false := by simp; omega
  have hni : ¬ cap = n := by omega
  generalize hnew : src.take (m * 2) = news at *
  have HC : Hid _ := hc
  have HN : Hid _ := hn
  have HG : Hid _ := hg
  have H1 : Hid _ := h1
  have HL : Hid _ := hrl
  clear hc hn hnew hh hg h1 hrl
  go_enter Tryd.func102, Tryd.ntmps102
  go_wp2_with (at_builtin; refine wpList_room2 rfl _ _ rfl g n cap rfl row HG.out ⟨h, 0, none⟩ m c rfl news HN.out HC.out H1.out hroom (by rw [HN.out, HL.out]; omega) ?_; intro w1 hr hg1)
  go_ret
  refine ⟨_, rfl, own_mk hr.out hroom hcm ?_ ?_, hg1.out, .inl rfl⟩
  · rw [length_splice _ _ _ (by rw [HN.out, HL.out]; omega), HL.out]
  · have e := splice_close row news [] (n * 2) (n * 2 + news.length) ((n + m) * 2) rfl (by rw [HN.out]; simp; omega) (by rw [HL.out]; omega)
    rw [List.append_nil] at e
    rw [← e]
    congr 1
    simp [splice]

set_option maxHeartbeats 1000000 in
/-- At the end, where there is no room. -/
theorem insert_grow (w : World) (g n cap : Nat) (row : List Value) (hg : w.heap[g]? = some (.cells row.toArray 92 (0, 0))) (hnc : n ≤ cap) (_hcm : cap ≤ maxLen) (hrl : row.length = cap * 2)
    (h m c : Nat) (src : List Value) (hh : w.heap[h]? = some (.cells src.toArray 92 (0, 0))) (hm : m * 2 ≤ src.length) (h0 : 0 < m) (hroom : cap < n + m) (hb : (n + m) * 16 ≤ 140737488355328) :
    Calls Tryd.prog 102 #[.slice (some ⟨g, 0, none⟩) n cap, .int .i64 n, .slice (some ⟨h, 0, none⟩) m c] w fun e w' => ∃ v', e = .returned v' ∧ Placed w w' (.slice (some ⟨g, 0, none⟩) n cap) v' (n + m) (row.take (n * 2) ++ src.take (m * 2)) := by
  have hn : (src.take (m * 2)).length = m * 2 := by rw [List.length_take]; omega
  have hc := row_cells hh 0 (src.take (m * 2)) (by rw [hn]; simp)
  have ho : (row.take (n * 2)).length = n * 2 := by rw [List.length_take]; omega
  have hoc := row_cells hg 0 (row.take (n * 2)) (by rw [ho]; simp)
  have hm0 : ((m : Int) == 0) = false := by simp; omega
  generalize hnew : src.take (m * 2) = news at *
  generalize hold : row.take (n * 2) = olds at *
  have HC : Hid _ := hc
  have HN : Hid _ := hn
  have HO : Hid _ := ho
  have HOC : Hid _ := hoc
  clear hc hn hnew hh hg hrl hold ho hoc
  by_cases hni : cap = n
  · subst hni
    go_enter Tryd.func102, Tryd.ntmps102
    go_wp2_with (at_builtin; refine wpList_grow2 rfl _ _ rfl ⟨g, 0, none⟩ cap cap rfl olds HO.out HOC.out ⟨h, 0, none⟩ m c rfl news HN.out HC.out hroom hb ?_; intro w1 cap' tail hr hc1 hc2 hl hg1)
    go_ret
    refine ⟨_, rfl, own_mk hr.out hc1 hc2 hl.out ?_, grown_any hg1.out, .inr ⟨_, rfl, Nat.le_refl _⟩⟩
    rw [show (cap + m) * 2 = (olds ++ news).length by rw [List.length_append, HO.out, HN.out]; omega, List.take_left]
  · go_enter Tryd.func102, Tryd.ntmps102
    go_wp2_with (at_builtin; refine wpList_grow2 rfl _ _ rfl ⟨g, 0, none⟩ n cap rfl olds HO.out HOC.out ⟨h, 0, none⟩ m c rfl news HN.out HC.out hroom hb ?_; intro w1 cap' tail hr hc1 hc2 hl hg1)
    go_ret
    refine ⟨_, rfl, own_mk hr.out hc1 hc2 hl.out ?_, grown_any hg1.out, .inr ⟨_, rfl, Nat.le_refl _⟩⟩
    rw [show (n + m) * 2 = (olds ++ news).length by rw [List.length_append, HO.out, HN.out]; omega, List.take_left]

end Go.Proofs.YtaklbofbhanjgaaDoor
namespace Go.Proofs.YtaklbofbhanjgaaDoor
open Go.RowKit
set_option maxRecDepth 100000

theorem heap_grown {a b : World} {r : Option Nat} (h : a.grownBy b r) {k : Nat} {o : Obj} (hk : a.heap[k]? = some o) (hne : some k ≠ r) : b.heap[k]? = some o :=
  (h.block k (Array.getElem?_eq_some_iff.1 hk).1 hne).trans hk

set_option maxHeartbeats 1000000 in
/-- In the middle, where there is no room. -/
theorem insert_mid_grow (w : World) (g n cap i : Nat) (row : List Value) (hg : w.heap[g]? = some (.cells row.toArray 92 (0, 0))) (hi : i < n) (hnc : n ≤ cap) (_hcm : cap ≤ maxLen) (hrl : row.length = cap * 2) (h1r : ∀ v ∈ row.take (n * 2), v.oneCell' = true)
    (h m c : Nat) (src : List Value) (hh : w.heap[h]? = some (.cells src.toArray 92 (0, 0))) (hm : m * 2 ≤ src.length) (h1 : ∀ v ∈ src.take (m * 2), v.oneCell' = true) (h0 : 0 < m) (hroom : cap < n + m) (hb : (n + m) * 16 ≤ 140737488355328) :
    Calls Tryd.prog 102 #[.slice (some ⟨g, 0, none⟩) n cap, .int .i64 i, .slice (some ⟨h, 0, none⟩) m c] w fun e w' => ∃ v', e = .returned v' ∧ Placed w w' (.slice (some ⟨g, 0, none⟩) n cap) v' (n + m) (row.take (i * 2) ++ src.take (m * 2) ++ (row.take (n * 2)).drop (i * 2)) := by
  have hn : (src.take (m * 2)).length = m * 2 := by rw [List.length_take]; omega
  have ho : (row.take (i * 2)).length = i * 2 := by rw [List.length_take]; omega
  have hd : ((row.take (n * 2)).drop (i * 2)).length = (n - i) * 2 := by rw [List.length_drop, List.length_take]; omega
  have hoc := row_cells hg 0 (row.take (i * 2)) (by rw [ho]; simp)
  have hm0 : ((m : Int) == 0) = false := by simp; omega
  have hin : ((i : Int) == (n : Int)) = false := by simp; omega
  have hci : ¬ cap = i := by omega
  have hgl : g < w.heap.size := (Array.getElem?_eq_some_iff.1 hg).1
  have hhl : h < w.heap.size := (Array.getElem?_eq_some_iff.1 hh).1
  have HG : Hid _ := hg
  have HH : Hid _ := hh
  have H1 : Hid _ := h1
  have H1D : Hid (∀ v ∈ (row.take (n * 2)).drop (i * 2), v.oneCell' = true) := fun v hv => h1r v (List.mem_of_mem_drop hv)
  have HL : Hid _ := hrl
  have HN : Hid _ := hn
  have HO : Hid _ := ho
  have HD : Hid _ := hd
  have HOC : Hid _ := hoc
  clear hoc hn ho hd hg hh h1 hrl h1r
  go_enter Tryd.func102, Tryd.ntmps102
  go_wp2_with (at_builtin; refine wpList_zeros2 rfl _ _ rfl ⟨g, 0, none⟩ i cap rfl (row.take (i * 2)) HO.out HOC.out _ (n + m - i) rfl (by omega) (by omega) (by omega) (by omega) (n + m) (by omega) ?_; intro w1 cap' tail hr hc1 hc2 hl hg1)
  obtain ⟨w2, hrun, hrow, hg2⟩ := run_copy2 w1 3 (some ⟨w.heap.size, i * 2, none⟩) (some ⟨h, 0, none⟩) (n + m - i) (cap' - i) m c w.heap.size (i * 2) _ hr.out (src.take (m * 2)) (by rw [HN.out]; simp only [Nat.min_def]; split <;> omega)
    (fun _ => ⟨rfl, _, rfl, row_cells (heap_grown hg1.out HH.out (by simp)) 0 (src.take (m * 2)) (by rw [HN.out]; simp)⟩) (by rw [HN.out]; have := hl.out; omega) H1.out
  have HROW : Hid _ := hrow
  have HG2 : Hid _ := hg2
  clear hrow hg2
  have hci' : ¬ cap' = i + m := by omega
  have hw1 : IntKind.i64.wrap ((i : Int) + (m : Int)) = (i : Int) + (m : Int) := by rw [IntKind.wrap_i64]; omega
  have hb1 : (0 : Int) ≤ (i : Int) + (m : Int) := by omega
  have hin' : i ≤ n := by omega
  have htn : ((i : Int) + (m : Int)).toNat = i + m := by omega
  rw [hrun]
  clear hrun
  obtain ⟨w3, hrun3, hrow3, hg3⟩ := run_copy2 w2.drew 3 (some ⟨w.heap.size, (i + m) * 2, none⟩) (some ⟨g, i * 2, none⟩) (n + m - (i + m)) (cap' - (i + m)) (n - i) (cap - i) w.heap.size ((i + m) * 2) _ HROW.out ((row.take (n * 2)).drop (i * 2))
    (by rw [HD.out]; simp only [Nat.min_def]; split <;> omega)
    (fun _ => ⟨rfl, _, rfl, row_cells (row := row) (heap_grown (grown_new (r := none) hg1.out (grown_drew HG2.out) (Nat.le_refl _)) HG.out (by simp)) (i * 2) _ (by rw [HD.out, List.drop_take]; congr 1; omega)⟩) (by rw [HD.out, length_splice _ _ _ (by rw [HN.out]; have := hl.out; omega)]; have := hl.out; omega) H1D.out
  have HROW3 : Hid _ := hrow3
  have HG3 : Hid _ := hg3
  clear hrow3 hg3
  go_wp2
  go_region_law (refine step_copy_eq rfl (.tmp 50) (.tmp 53) rfl rfl _ _ (by simp [Act.eval, Act.put]) (by simp [Act.eval, Act.put]) hrun3 ?_)
  go_wp2
  go_ret
  have e := splice_grown (row.take (i * 2)) (zeros (n + m - i)) tail (src.take (m * 2)) ((row.take (n * 2)).drop (i * 2)) (by rw [length_zeros, HN.out, HD.out]; omega) (i * 2) ((i + m) * 2) HO.out.symm (by rw [HO.out, HN.out]; omega)
  refine ⟨_, rfl, own_mk HROW3.out hc1 hc2 ?_ ?_, grown_any (grown_new (grown_new (r := none) hg1.out (grown_drew HG2.out) (Nat.le_refl _)) HG3.out (Nat.le_refl _)), .inr ⟨_, rfl, Nat.le_refl _⟩⟩
  · rw [e, ← hl.out]
    simp only [List.length_append, length_zeros, HN.out, HD.out]
    omega
  · rw [e]
    have hlen : (row.take (i * 2) ++ src.take (m * 2) ++ (row.take (n * 2)).drop (i * 2)).length = (n + m) * 2 := by simp only [List.length_append, HO.out, HN.out, HD.out]; omega
    rw [← hlen, List.take_left]

theorem size29 : ∀ w, (Go.sizeOf 92).run Tryd.prog w = .ok 2 w := by
  obtain ⟨i, hi, hz0, hz1, hz2⟩ := info_parts info29
  intro w
  simp [sizeOf, typeInfo, hi, hz1]
theorem overlaps_apart (w : World) (h k m c lb cb g off : Nat) (src row : List Value) (hne : h ≠ g) (hh : w.heap[h]? = some (.cells src.toArray 92 (0, 0))) (hg : w.heap[g]? = some (.cells row.toArray 92 (0, 0))) (hr : row.length ≠ 0) :
    (callFunc 103 #[.slice (some ⟨h, k, none⟩) m c, .slice (some ⟨g, off, none⟩) lb cb]).run Tryd.prog w = .ok (.value (.bool false)) w := by
  rw [run_callFunc_extern Tryd.func103 (by kernel_rfl) (by kernel_rfl) (by kernel_rfl) (e := Extern.SlicesOverlaps.overlaps #[58, 58] #[4]) (by kernel_rfl),
    Lib.run_overlaps_apart w 58 4 92 Tryd.underlying58 2 size29 ⟨h, k, none⟩ ⟨g, off, none⟩ m c lb cb hne 92 92 src.length row.length (by simp [World.shape?, hh]) (by simp [World.shape?, hg]) hr (by simp [World.frozen?, hh]) (by simp [World.frozen?, hh])]
  rfl

set_option maxHeartbeats 1000000 in
/-- In the middle, where there is room. -/
theorem insert_mid_room (w : World) (g n cap i : Nat) (row : List Value) (hg : w.heap[g]? = some (.cells row.toArray 92 (0, 0))) (hi : i < n) (hcm : cap ≤ maxLen) (hrl : row.length = cap * 2) (h1r : ∀ v ∈ row.take (n * 2), v.oneCell' = true)
    (h m c : Nat) (src : List Value) (hne : h ≠ g) (hh : w.heap[h]? = some (.cells src.toArray 92 (0, 0))) (hm : m * 2 ≤ src.length) (h1 : ∀ v ∈ src.take (m * 2), v.oneCell' = true) (h0 : 0 < m) (hroom : n + m ≤ cap) :
    Calls Tryd.prog 102 #[.slice (some ⟨g, 0, none⟩) n cap, .int .i64 i, .slice (some ⟨h, 0, none⟩) m c] w fun e w' => ∃ v', e = .returned v' ∧ Placed w w' (.slice (some ⟨g, 0, none⟩) n cap) v' (n + m) (row.take (i * 2) ++ src.take (m * 2) ++ (row.take (n * 2)).drop (i * 2)) := by
  unfold maxLen at hcm
  have hn : (src.take (m * 2)).length = m * 2 := by rw [List.length_take]; omega
  have hd : ((row.take (n * 2)).drop (i * 2)).length = (n - i) * 2 := by rw [List.length_drop, List.length_take]; omega
  have hm0 : ((m : Int) == 0) = false := by simp; omega
  have hin : ((i : Int) == (n : Int)) = false := by simp; omega
  have hci : ¬ cap = i := by omega
  have hov := fun lb cb => overlaps_apart w h 0 m c lb cb g ((i + m) * 2) src row hne hh hg (by omega)
  obtain ⟨w2, hrun2, hrow2, hg2⟩ := run_copy2 w.drew 3 (some ⟨g, (i + m) * 2, none⟩) (some ⟨g, i * 2, none⟩) (n + m - (i + m)) (cap - (i + m)) (n + m - i) (cap - i) g ((i + m) * 2) row hg ((row.take (n * 2)).drop (i * 2))
    (by rw [hd]; simp only [Nat.min_def]; split <;> omega) (fun _ => ⟨rfl, _, rfl, row_cells (row := row) hg (i * 2) _ (by rw [hd, List.drop_take]; congr 1; omega)⟩) (by rw [hd, hrl]; omega) (fun v hv => h1r v (List.mem_of_mem_drop hv))
  have hls : (splice row ((i + m) * 2) ((row.take (n * 2)).drop (i * 2))).length = cap * 2 := by rw [length_splice _ _ _ (by rw [hd, hrl]; omega), hrl]
  obtain ⟨w3, hrun3, hrow3, hg3⟩ := run_copy2 w2 3 (some ⟨g, i * 2, none⟩) (some ⟨h, 0, none⟩) (n + m - i) (cap - i) m c g (i * 2) _ hrow2 (src.take (m * 2)) (by rw [hn]; simp only [Nat.min_def]; split <;> omega)
    (fun _ => ⟨rfl, _, rfl, row_cells (heap_grown (a := w.drew) hg2 hh (by simp; omega)) 0 (src.take (m * 2)) (by rw [hn]; simp)⟩) (by rw [hn, hls]; omega) h1
  have e := splice_shift row (src.take (m * 2)) ((row.take (n * 2)).drop (i * 2)) (i * 2) ((i + m) * 2) ((n + m) * 2) (by rw [hn]; omega) (by rw [hd]; omega) (by rw [hrl]; omega)
  have hl3 : (splice (splice row ((i + m) * 2) ((row.take (n * 2)).drop (i * 2))) (i * 2) (src.take (m * 2))).length = cap * 2 := by rw [length_splice _ _ _ (by rw [hn, hls]; omega), hls]
  have HP : Hid (Placed w w3 (.slice (some ⟨g, 0, none⟩) n cap) (.slice (some ⟨g, 0, none⟩) (n + m) cap) (n + m) (row.take (i * 2) ++ src.take (m * 2) ++ (row.take (n * 2)).drop (i * 2))) :=
    ⟨own_mk hrow3 hroom (by unfold maxLen; omega) hl3 e, grown_trans (grown_trans (grown_drew (grown_refl w (some g))) hg2) hg3, .inl rfl⟩
  have HR3 : Hid _ := hrun3
  generalize (row.take (i * 2) ++ src.take (m * 2) ++ (row.take (n * 2)).drop (i * 2)) = res at *
  clear hrun3 hrow2 hrow3 hg2 hg3 e hl3 hls hn hd h1 h1r hh hg hrl hm
  have hw1 : IntKind.i64.wrap ((i : Int) + (m : Int)) = (i : Int) + (m : Int) := by rw [IntKind.wrap_i64]; omega
  have hb1 : (0 : Int) ≤ (i : Int) + (m : Int) := by omega
  have hin' : i ≤ n := by omega
  have htn : ((i : Int) + (m : Int)).toNat = i + m := by omega
  have hb2 : ¬ cap = i + m := by omega
  have hb3 : (i : Int) ≤ (n : Int) + (m : Int) := by omega
  go_enter Tryd.func102, Tryd.ntmps102
  go_wp2
  go_region_law (refine step_copy_eq rfl (.tmp 73) (.tmp 76) rfl rfl _ _ (by simp [Act.eval, Act.put]) (by simp [Act.eval, Act.put]) hrun2 ?_)
  go_wp2
  rw [HR3.out]
  go_wp2
  go_ret
  exact ⟨_, rfl, HP.out⟩

/-- slices.Insert, wherever. -/
theorem insert_any (w : World) (s : Value) (n : Nat) (xs : List Value) (own : w.ownsRow 0 92 2 s n xs) (h1x : ∀ v ∈ xs, v.oneCell' = true) (i : Nat) (hi : i ≤ n)
    (h m c : Nat) (src : List Value) (hne : s.ownBlock ≠ some h) (hh : w.heap[h]? = some (.cells src.toArray 92 (0, 0))) (hm : m * 2 ≤ src.length) (h1 : ∀ v ∈ src.take (m * 2), v.oneCell' = true) (h0 : 0 < m) (hb : (n + m) * 16 ≤ 140737488355328) :
    Calls Tryd.prog 102 #[s, .int .i64 i, .slice (some ⟨h, 0, none⟩) m c] w fun e w' => ∃ v', e = .returned v' ∧ Placed w w' s v' (n + m) (xs.take (i * 2) ++ src.take (m * 2) ++ xs.drop (i * 2)) := by
  obtain ⟨hlen, ⟨rfl, rfl⟩ | ⟨g, cap, cur, rfl, _, hg, hnc, hcm, hcs, htk⟩⟩ := own
  · obtain rfl : xs = [] := List.eq_nil_of_length_eq_zero (by simpa using hlen)
    obtain rfl : i = 0 := by omega
    simpa using insert_nil w h m c src hh hm h0 (by omega)
  · have hg' : w.heap[g]? = some (.cells cur.toList.toArray 92 (0, 0)) := by simpa using hg
    have hrl : cur.toList.length = cap * 2 := by simpa using hcs
    have hne' : h ≠ g := fun e => hne (by rw [e]; rfl)
    subst htk
    rw [List.take_take, show min (i * 2) (n * 2) = i * 2 by omega]
    by_cases hin : i = n
    · subst hin
      have hdr : (cur.toList.take (i * 2)).drop (i * 2) = [] := by apply List.drop_eq_nil_of_le; simp; omega
      rw [hdr, List.append_nil]
      by_cases hroom : i + m ≤ cap
      · exact insert_room w g i cap _ hg' hnc hcm hrl h m c src hh hm h1 h0 hroom
      · exact insert_grow w g i cap _ hg' hnc hcm hrl h m c src hh hm h0 (by omega) hb
    · by_cases hroom : n + m ≤ cap
      · exact insert_mid_room w g n cap i _ hg' (by omega) hcm hrl h1x h m c src hne' hh hm h1 h0 hroom
      · exact insert_mid_grow w g n cap i _ hg' (by omega) hnc hcm hrl h1x h m c src hh hm h1 h0 (by omega) hb

end Go.Proofs.YtaklbofbhanjgaaDoor
