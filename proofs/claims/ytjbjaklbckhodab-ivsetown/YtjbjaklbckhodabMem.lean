import Derived.Test.YtjbjaklbckhodabCounts
import Derived.Laws.CopyOwn
import Derived.Lib.AppendZerosOnto
import Derived.Lib.Overlaps
namespace Go.Proofs.Ytjbjaklbckhodab
open Go.RowKit
set_option maxRecDepth 100000

theorem info29 : (Try.prog.info? 25).map (fun i => (i.zero, i.size, i.bytes)) = some (some (.agg #[.int .u64 0, .int .u64 0]), 2, 16) := by kernel_rfl

/-- n elements that are zero. -/
def zeros (n : Nat) : List Value := (Builtin.zeroCells #[.int .u64 0, .int .u64 0] n).toList
theorem length_zeros (n : Nat) : (zeros n).length = n * 2 := by simp [zeros, size_zeroCells]
theorem zeros_one (n : Nat) : ∀ v ∈ zeros n, v.oneCell' = true := by
  intro v hv
  simp only [zeros, Builtin.zeroCells, Array.toList_map, List.mem_map] at hv
  obtain ⟨i, _, rfl⟩ := hv
  have : i % 2 = 0 ∨ i % 2 = 1 := by omega
  rcases this with h | h <;> simp [h] <;> rfl

theorem grown_setRow (w : World) (g : Nat) (cs : Array Value) : w.grownBy (w.setRow g cs) (some g) :=
  ⟨rfl, rfl, rfl, by simp, fun k _ hk => setRow_other w g k cs (fun e => hk (by rw [e]))⟩
theorem grown_refl (w : World) (row : Option Nat) : w.grownBy w row := ⟨rfl, rfl, rfl, Nat.le_refl _, fun _ _ _ => rfl⟩

/-- 'copy' over stretches, the target in a row that is known whole. -/
theorem run_copy2 (w : World) (ty : TypeId) (dp sp : Option Addr) (dLen dCap sLen sCap g off : Nat) (cur : List Value) (hg : w.heap[g]? = some (.cells cur.toArray 25 (0, 0)))
    (cs : List Value) (hn : cs.length = Nat.min sLen dLen * 2)
    (hpos : 0 < cs.length → dp = some ⟨g, off, none⟩ ∧ ∃ ad, sp = some ad ∧ ∀ j v, cs[j]? = some v → w.cell? (ad.add j) = some v)
    (hfit : off + cs.length ≤ cur.length) (h1 : ∀ v ∈ cs, v.oneCell' = true) :
    ∃ w', (Builtin.copy_ #[22, 22] ty #[.slice dp dLen dCap, .slice sp sLen sCap]).run Try.prog w = .ok (goInt (Nat.min sLen dLen)) w' ∧ w'.heap[g]? = some (.cells (splice cur off cs).toArray 25 (0, 0)) ∧ w.grownBy w' (some g) := by
  obtain ⟨i, hi, hz0, hz1, hz2⟩ := info_parts info29
  by_cases h0 : cs.length = 0
  · obtain rfl : cs = [] := List.eq_nil_of_length_eq_zero h0
    have hm : Nat.min sLen dLen = 0 := by simp at hn; omega
    refine ⟨w, ?_, by simpa [splice] using hg, grown_refl _ _⟩
    cases dp <;> cases sp <;> simp [Builtin.copy_, run_underlying Try.underlying22, Builtin.lenOf, Builtin.firstCells, sizeOf, typeInfo, hi, hm, loadCells, loadCellsFrom, storeCells]
  · obtain ⟨rfl, ad, rfl, hsrc⟩ := hpos (by omega)
    have hl := run_loadCells_list (P := Try.prog) w ad cs hsrc
    have hst := run_storeCells_at Try.prog g off 25 cs 0 cur.toArray w hg (by simpa using hfit) h1
    refine ⟨_, ?_, setRow_heap w g _ (splice cur off cs).toArray 25 _ hg, grown_setRow _ _ _⟩
    rw [show (splice cur off cs).toArray = (cur.take off ++ cs ++ cur.drop (off + cs.length)).toArray by simp [splice]]
    simp only [Nat.add_zero] at hst
    simp [Builtin.copy_, run_underlying Try.underlying22, Builtin.lenOf, Builtin.firstCells, sizeOf, typeInfo, hi, hz1, ← hn, hl, hst]

/-- 'clear' over stretches of a row that is known whole. -/
theorem run_clear2 (w : World) (ap : Option Addr) (n c g off : Nat) (cur : List Value) (hg : w.heap[g]? = some (.cells cur.toArray 25 (0, 0))) (hpos : 0 < n → ap = some ⟨g, off, none⟩) (hfit : off + n * 2 ≤ cur.length) :
    ∃ w', (∀ ty, (Builtin.clear_ #[22] ty #[.slice ap n c]).run Try.prog w = .ok (.tuple #[]) w') ∧ w'.heap[g]? = some (.cells (splice cur off (zeros n)).toArray 25 (0, 0)) ∧ w.grownBy w' (some g) := by
  obtain ⟨i, hi, hz0, hz1, hz2⟩ := info_parts info29
  cases n with
  | zero =>
    refine ⟨w, fun ty => ?_, by simpa [splice, zeros, Builtin.zeroCells] using hg, grown_refl _ _⟩
    cases ap <;> simp [Builtin.clear_, run_underlying Try.underlying22]
  | succ n =>
    obtain rfl := hpos (by omega)
    have hst := run_storeCells_at Try.prog g off 25 (zeros (n + 1)) 0 cur.toArray w hg (by simpa [length_zeros] using hfit) (zeros_one _)
    refine ⟨_, fun ty => ?_, setRow_heap w g _ (splice cur off (zeros (n + 1))).toArray 25 _ hg, grown_setRow _ _ _⟩
    rw [show (splice cur off (zeros (n + 1))).toArray = (cur.take off ++ zeros (n + 1) ++ cur.drop (off + (zeros (n + 1)).length)).toArray by simp [splice]]
    simp only [Nat.add_zero, zeros] at hst
    simp [Builtin.clear_, run_underlying Try.underlying22, zeroValue, typeInfo, hi, hz0, Value.cells, hst, zeros]

/-- 'append' where there is room. -/
theorem run_room2 (w : World) (ty : TypeId) (g sLen sCap : Nat) (cur : List Value) (hg : w.heap[g]? = some (.cells cur.toArray 25 (0, 0)))
    (a : Addr) (m c : Nat) (news : List Value) (hl : news.length = m * 2) (hnews : ∀ j u, news[j]? = some u → w.cell? (a.add j) = some u) (h1 : ∀ u ∈ news, u.oneCell' = true) (hroom : sLen + m ≤ sCap) (hfit : sLen * 2 + news.length ≤ cur.length) :
    ∃ w', (Builtin.append_ #[22, 22] ty #[.slice (some ⟨g, 0, none⟩) sLen sCap, .slice (some a) m c]).run Try.prog w = .ok (.slice (some ⟨g, 0, none⟩) (sLen + m) sCap) w' ∧ w'.heap[g]? = some (.cells (splice cur (sLen * 2) news).toArray 25 (0, 0)) ∧ w.grownBy w' (some g) := by
  obtain ⟨i, hi, hz0, hz1, hz2⟩ := info_parts info29
  have hr := run_append_room (P := Try.prog) w 22 ty 25 i Try.underlying22 hi g sLen sCap cur.toArray hg a m c news (by rw [hz1]; exact hl) hnews h1 hroom (by rw [hz1]; simpa using hfit)
  rw [hz1] at hr
  refine ⟨_, ?_, setRow_heap w g _ (splice cur (sLen * 2) news).toArray 25 _ hg, grown_setRow _ _ _⟩
  rw [hr]
  simp [splice]

/-- 'append' where there is none: a new row. -/
theorem run_grow2 (w : World) (ty : TypeId) (b : Addr) (sLen sCap : Nat) (olds : List Value) (hlo : olds.length = sLen * 2) (holds : ∀ j v, olds[j]? = some v → w.cell? (b.add j) = some v)
    (a : Addr) (m c : Nat) (news : List Value) (hl : news.length = m * 2) (hnews : ∀ j u, news[j]? = some u → w.cell? (a.add j) = some u) (hg : sCap < sLen + m) (hbytes : (sLen + m) * 16 ≤ 140737488355328) :
    ∃ w' cap' tail, (Builtin.append_ #[22, 22] ty #[.slice (some b) sLen sCap, .slice (some a) m c]).run Try.prog w = .ok (.slice (some ⟨w.heap.size, 0, none⟩) (sLen + m) cap') w' ∧ w'.heap[w.heap.size]? = some (.cells (olds ++ news ++ tail).toArray 25 (0, 0)) ∧ sLen + m ≤ cap' ∧ cap' ≤ maxLen ∧ (olds ++ news ++ tail).length = cap' * 2 ∧ w.grownBy w' none := by
  obtain ⟨i, hi, hz0, hz1, hz2⟩ := info_parts info29
  have hr := run_append_grow (P := Try.prog) w 22 ty 25 i _ Try.underlying22 hi hz0 b sLen sCap olds (by rw [hz1]; exact hlo) holds a m c news (by rw [hz1]; exact hl) hnews hg (by omega) (by rw [hz2]; exact growslice_fits hg hbytes)
  refine ⟨_, _, zeros (grownCap w (sLen + m) sCap 25 - (sLen + m)), hr, ?_, grownCap_ge w _ _ _, grownCap_le_maxLen w _ _ _ (by unfold maxLen; omega), ?_, ⟨rfl, rfl, rfl, by simp, fun k hk _ => Below.heap_alloc w.drew _ k hk⟩⟩
  · rw [show w.heap.size = w.drew.heap.size from rfl, heap_alloc_new]
    simp [zeros, Value.cells]
  · have := grownCap_ge w (sLen + m) sCap 25
    simp only [List.length_append, hlo, hl, length_zeros]
    omega
theorem run_nil2 (w : World) (ty : TypeId) (a : Addr) (m c : Nat) (news : List Value) (h0 : 0 < m) (hl : news.length = m * 2) (hnews : ∀ j u, news[j]? = some u → w.cell? (a.add j) = some u) (hbytes : m * 16 ≤ 140737488355328) :
    ∃ w' cap' tail, (Builtin.append_ #[22, 22] ty #[.slice none 0 0, .slice (some a) m c]).run Try.prog w = .ok (.slice (some ⟨w.heap.size, 0, none⟩) m cap') w' ∧ w'.heap[w.heap.size]? = some (.cells (news ++ tail).toArray 25 (0, 0)) ∧ m ≤ cap' ∧ cap' ≤ maxLen ∧ (news ++ tail).length = cap' * 2 ∧ w.grownBy w' none := by
  obtain ⟨i, hi, hz0, hz1, hz2⟩ := info_parts info29
  have hr := run_append_nil (P := Try.prog) w 22 ty 25 i _ Try.underlying22 hi hz0 a m c news (by rw [hz1]; exact hl) hnews h0 (by omega) (by rw [hz2]; omega)
  refine ⟨_, _, zeros (grownCap w m 0 25 - m), hr, ?_, grownCap_ge w _ _ _, grownCap_le_maxLen w _ _ _ (by unfold maxLen; omega), ?_, ⟨rfl, rfl, rfl, by simp, fun k hk _ => Below.heap_alloc w.drew _ k hk⟩⟩
  · rw [show w.heap.size = w.drew.heap.size from rfl, heap_alloc_new]
    simp [zeros, Value.cells]
  · have := grownCap_ge w m 0 25
    simp only [List.length_append, hl, length_zeros]
    omega
/-- 'append(s[:i], make(S, k)...)' where there is no room. -/
theorem run_zeros2 (w : World) (ty : TypeId) (b : Addr) (sLen sCap : Nat) (olds : List Value) (hlo : olds.length = sLen * 2) (holds : ∀ j v, olds[j]? = some v → w.cell? (b.add j) = some v)
    (k : Nat) (h0 : 0 < k) (hg : sCap < sLen + k) (hbytes : (sLen + k) * 16 ≤ 140737488355328) :
    ∃ w' cap' tail, (Builtin.append_ #[22, 3] ty #[.slice (some b) sLen sCap, .int .i64 k]).run Try.prog w = .ok (.slice (some ⟨w.heap.size, 0, none⟩) (sLen + k) cap') w' ∧ w'.heap[w.heap.size]? = some (.cells (olds ++ zeros k ++ tail).toArray 25 (0, 0)) ∧ sLen + k ≤ cap' ∧ cap' ≤ maxLen ∧ (olds ++ zeros k ++ tail).length = cap' * 2 ∧ w.grownBy w' none := by
  obtain ⟨i, hi, hz0, hz1, hz2⟩ := info_parts info29
  have hf := run_firstCells_some (P := Try.prog) w.drew i.size sLen b sLen sCap olds (by rw [hz1]; exact hlo) (by simpa using holds)
  have hr := Lib.run_append_grow_zeros (P := Try.prog) w 22 3 ty 25 i _ .i64 .i64 Try.underlying22 Try.underlying3 hi hz0 (some b) sLen sCap olds hf k h0 (by rw [hz1]; omega) hg (by omega) (by rw [hz2]; omega) (by rw [hz2]; exact growslice_fits hg hbytes)
  refine ⟨_, _, zeros (grownCap w (sLen + k) sCap 25 - (sLen + k)), hr, ?_, grownCap_ge w _ _ _, grownCap_le_maxLen w _ _ _ (by unfold maxLen; omega), ?_, ⟨rfl, rfl, rfl, by simp, fun k hk _ => Below.heap_alloc w.drew _ k hk⟩⟩
  · rw [show w.heap.size = w.drew.heap.size from rfl, heap_alloc_new]
    simp [zeros, Value.cells]
  · have := grownCap_ge w (sLen + k) sCap 25
    simp only [List.length_append, hlo, length_zeros]
    omega

end Go.Proofs.Ytjbjaklbckhodab
