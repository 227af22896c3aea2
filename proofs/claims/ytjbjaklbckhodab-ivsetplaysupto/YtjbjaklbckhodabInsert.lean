import Derived.Test.YtjbjaklbckhodabLaws
namespace Go.Proofs.Ytjbjaklbckhodab
open Go.RowKit
set_option maxRecDepth 100000

/-- The slice v', made out of s, holds these cells; of what was there the row of s alone has turned. -/
structure Placed (w w' : World) (s v' : Value) (n : Nat) (xs : List Value) : Prop where
  own : w'.ownsRow 0 25 2 v' n xs
  grown : w.grownBy w' s.ownBlock
  block : v'.ownBlock = s.ownBlock ∨ ∃ g, v'.ownBlock = some g ∧ w.heap.size ≤ g

theorem grown_trans {a b c : World} {r : Option Nat} (h : a.grownBy b r) (k : b.grownBy c r) : a.grownBy c r :=
  ⟨k.os.trans h.os, k.tape.trans h.tape, k.output.trans h.output, Nat.le_trans h.size k.size, fun i hi hn => (k.block i (Nat.lt_of_lt_of_le hi h.size) hn).trans (h.block i hi hn)⟩
/-- A row that was made behind a: what is written there is nothing that was there. -/
theorem grown_new {a b c : World} {r : Option Nat} {g : Nat} (h : a.grownBy b r) (k : b.grownBy c (some g)) (hg : a.heap.size ≤ g) : a.grownBy c r :=
  ⟨k.os.trans h.os, k.tape.trans h.tape, k.output.trans h.output, Nat.le_trans h.size k.size, fun i hi hn => (k.block i (Nat.lt_of_lt_of_le hi h.size) (by simp; omega)).trans (h.block i hi hn)⟩
theorem grown_any {a b : World} {r : Option Nat} (h : a.grownBy b none) : a.grownBy b r := ⟨h.os, h.tape, h.output, h.size, fun i hi _ => h.block i hi (by simp)⟩
theorem grown_drew {a b : World} {r : Option Nat} (h : a.grownBy b r) : a.grownBy b.drew r := ⟨h.os, h.tape, h.output, h.size, h.block⟩

theorem own_mk {w : World} {g n cap : Nat} {row xs : List Value} (hg : w.heap[g]? = some (.cells row.toArray 25 (0, 0))) (hn : n ≤ cap) (hc : cap ≤ maxLen) (hl : row.length = cap * 2) (ht : row.take (n * 2) = xs) :
    w.ownsRow 0 25 2 (.slice (some ⟨g, 0, none⟩) n cap) n xs :=
  ⟨by rw [← ht, List.length_take, hl]; omega, .inr ⟨g, cap, row.toArray, rfl, Nat.zero_le _, hg, hn, hc, by simpa using hl, by simpa using ht⟩⟩

theorem row_cells {w : World} {g : Nat} {row : List Value} (hg : w.heap[g]? = some (.cells row.toArray 25 (0, 0))) (off : Nat) (cs : List Value) (h : cs = (row.drop off).take cs.length) : ∀ j v, cs[j]? = some v → w.cell? ((⟨g, off, none⟩ : Addr).add j) = some v := by
  intro j v hj
  rw [Addr.add_lit, cell_of_row w g _ _ _ _ hg]
  have hlt : j < cs.length := (List.getElem?_eq_some_iff.1 hj).1
  rw [h, List.getElem?_take, if_pos hlt, List.getElem?_drop] at hj
  simpa using hj

set_option maxHeartbeats 1000000 in
/-- At the end of a slice that is nil. -/
theorem insert_nil (w : World) (h m c : Nat) (src : List Value) (hh : w.heap[h]? = some (.cells src.toArray 25 (0, 0))) (hm : m * 2 ≤ src.length) (h0 : 0 < m) (hb : m * 16 ≤ 140737488355328) :
    Calls Try.prog 64 #[.slice none 0 0, .int .i64 0, .slice (some ⟨h, 0, none⟩) m c] w fun e w' => ∃ v', e = .returned v' ∧ Placed w w' (.slice none 0 0) v' m (src.take (m * 2)) := by
  have hn : (src.take (m * 2)).length = m * 2 := by rw [List.length_take]; omega
  have hc := row_cells hh 0 (src.take (m * 2)) (by rw [hn]; simp)
  have hm0 : ((m : Int) == 0) = false := by simp; omega
  generalize hnew : src.take (m * 2) = news at *
  have HC : Hid _ := hc
  have HN : Hid _ := hn
  clear hc hn hnew hh
  go_enter Try.func64, Try.ntmps64
  go_wp2_with (at_builtin; refine wpList_nil2 rfl _ _ rfl rfl ⟨h, 0, none⟩ m c rfl news h0 HN.out HC.out hb ?_; intro w1 cap' tail hr hc1 hc2 hl hg)
  go_ret
  refine ⟨_, rfl, own_mk hr.out hc1 hc2 hl.out ?_, grown_any hg.out, .inr ⟨_, rfl, Nat.le_refl _⟩⟩
  rw [← HN.out, List.take_left]

set_option maxHeartbeats 1000000 in
/-- At the end, where there is room. -/
theorem insert_room (w : World) (g n cap : Nat) (row : List Value) (hg : w.heap[g]? = some (.cells row.toArray 25 (0, 0))) (_hnc : n ≤ cap) (hcm : cap ≤ maxLen) (hrl : row.length = cap * 2)
    (h m c : Nat) (src : List Value) (hh : w.heap[h]? = some (.cells src.toArray 25 (0, 0))) (hm : m * 2 ≤ src.length) (h1 : ∀ v ∈ src.take (m * 2), v.oneCell' = true) (h0 : 0 < m) (hroom : n + m ≤ cap) :
    Calls Try.prog 64 #[.slice (some ⟨g, 0, none⟩) n cap, .int .i64 n, .slice (some ⟨h, 0, none⟩) m c] w fun e w' => ∃ v', e = .returned v' ∧ Placed w w' (.slice (some ⟨g, 0, none⟩) n cap) v' (n + m) (row.take (n * 2) ++ src.take (m * 2)) := by
  have hn : (src.take (m * 2)).length = m * 2 := by rw [List.length_take]; omega
  have hc := row_cells hh 0 (src.take (m * 2)) (by rw [hn]; simp)
  have hm0 : ((m : Int) == 0) = false := by simp; omega
  have hni : ¬ cap = n := by omega
  generalize hnew : src.take (m * 2) = news at *
  have HC : Hid _ := hc
  have HN : Hid _ := hn
  have HG : Hid _ := hg
  have H1 : Hid _ := h1
  have HL : Hid _ := hrl
  clear hc hn hnew hh hg h1 hrl
  go_enter Try.func64, Try.ntmps64
  go_wp2_with (at_builtin; refine wpList_room2 rfl _ _ rfl g n cap rfl row HG.out ⟨h, 0, none⟩ m c rfl news HN.out HC.out H1.out hroom (by rw [HN.out, HL.out]; omega) ?_; intro w1 hr hg1)
  go_ret
  refine ⟨_, rfl, own_mk hr.out hroom hcm ?_ ?_, hg1.out, .inl rfl⟩
  · rw [length_splice _ _ _ (by rw [HN.out, HL.out]; omega), HL.out]
  · have e := splice_close row news [] (n * 2) (n * 2 + news.length) ((n + m) * 2) rfl (by rw [HN.out]; simp; omega) (by rw [HL.out]; omega)
    rw [List.append_nil] at e
    rw [← e]
    congr 1
    simp [splice]

set_option maxHeartbeats 1000000 in
/-- At the end, where there is no room. -/
theorem insert_grow (w : World) (g n cap : Nat) (row : List Value) (hg : w.heap[g]? = some (.cells row.toArray 25 (0, 0))) (hnc : n ≤ cap) (_hcm : cap ≤ maxLen) (hrl : row.length = cap * 2)
    (h m c : Nat) (src : List Value) (hh : w.heap[h]? = some (.cells src.toArray 25 (0, 0))) (hm : m * 2 ≤ src.length) (h0 : 0 < m) (hroom : cap < n + m) (hb : (n + m) * 16 ≤ 140737488355328) :
    Calls Try.prog 64 #[.slice (some ⟨g, 0, none⟩) n cap, .int .i64 n, .slice (some ⟨h, 0, none⟩) m c] w fun e w' => ∃ v', e = .returned v' ∧ Placed w w' (.slice (some ⟨g, 0, none⟩) n cap) v' (n + m) (row.take (n * 2) ++ src.take (m * 2)) := by
  have hn : (src.take (m * 2)).length = m * 2 := by rw [List.length_take]; omega
  have hc := row_cells hh 0 (src.take (m * 2)) (by rw [hn]; simp)
  have ho : (row.take (n * 2)).length = n * 2 := by rw [List.length_take]; omega
  have hoc := row_cells hg 0 (row.take (n * 2)) (by rw [ho]; simp)
  have hm0 : ((m : Int) == 0) = false := by simp; omega
  generalize hnew : src.take (m * 2) = news at *
  generalize hold : row.take (n * 2) = olds at *
  have HC : Hid _ := hc
  have HN : Hid _ := hn
  have HO : Hid _ := ho
  have HOC : Hid _ := hoc
  clear hc hn hnew hh hg hrl hold ho hoc
  by_cases hni : cap = n
  · subst hni
    go_enter Try.func64, Try.ntmps64
    go_wp2_with (at_builtin; refine wpList_grow2 rfl _ _ rfl ⟨g, 0, none⟩ cap cap rfl olds HO.out HOC.out ⟨h, 0, none⟩ m c rfl news HN.out HC.out hroom hb ?_; intro w1 cap' tail hr hc1 hc2 hl hg1)
    go_ret
    refine ⟨_, rfl, own_mk hr.out hc1 hc2 hl.out ?_, grown_any hg1.out, .inr ⟨_, rfl, Nat.le_refl _⟩⟩
    rw [show (cap + m) * 2 = (olds ++ news).length by rw [List.length_append, HO.out, HN.out]; omega, List.take_left]
  · go_enter Try.func64, Try.ntmps64
    go_wp2_with (at_builtin; refine wpList_grow2 rfl _ _ rfl ⟨g, 0, none⟩ n cap rfl olds HO.out HOC.out ⟨h, 0, none⟩ m c rfl news HN.out HC.out hroom hb ?_; intro w1 cap' tail hr hc1 hc2 hl hg1)
    go_ret
    refine ⟨_, rfl, own_mk hr.out hc1 hc2 hl.out ?_, grown_any hg1.out, .inr ⟨_, rfl, Nat.le_refl _⟩⟩
    rw [show (n + m) * 2 = (olds ++ news).length by rw [List.length_append, HO.out, HN.out]; omega, List.take_left]

end Go.Proofs.Ytjbjaklbckhodab
