import Derived.Test.YtjbjaklbckhodabLaws
namespace Go.Proofs.Ytjbjaklbckhodab
open Go.RowKit
set_option maxRecDepth 100000

/-- The slice v', made out of s, holds these cells; of what was there the row of s alone has turned. -/
structure Placed (w w' : World) (s v' : Value) (n : Nat) (xs : List Value) : Prop where
  own : w'.ownsRow 0 25 2 v' n xs
  grown : w.grownBy w' s.ownBlock
  block : v'.ownBlock = s.ownBlock ∨ ∃ g, v'.ownBlock = some g ∧ w.heap.size ≤ g

theorem grown_trans {a b c : World} {r : Option Nat} (h : a.grownBy b r) (k : b.grownBy c r) : a.grownBy c r :=
  ⟨k.os.trans h.os, k.tape.trans h.tape, k.output.trans h.output, Nat.le_trans h.size k.size, fun i hi hn => (k.block i (Nat.lt_of_lt_of_le hi h.size) hn).trans (h.block i hi hn)⟩
/-- A row that was made behind a: what is written there is nothing that was there. -/
theorem grown_new {a b c : World} {r : Option Nat} {g : Nat} (h : a.grownBy b r) (k : b.grownBy c (some g)) (hg : a.heap.size ≤ g) : a.grownBy c r :=
  ⟨k.os.trans h.os, k.tape.trans h.tape, k.output.trans h.output, Nat.le_trans h.size k.size, fun i hi hn => (k.block i (Nat.lt_of_lt_of_le hi h.size) (by simp; omega)).trans (h.block i hi hn)⟩
theorem grown_any {a b : World} {r : Option Nat} (h : a.grownBy b none) : a.grownBy b r := ⟨h.os, h.tape, h.output, h.size, fun i hi _ => h.block i hi (by simp)⟩
theorem grown_drew {a b : World} {r : Option Nat} (h : a.grownBy b r) : a.grownBy b.drew r := ⟨h.os, h.tape, h.output, h.size, h.block⟩

theorem own_mk {w : World} {g n cap : Nat} {row xs : List Value} (hg : w.heap[g]? = some (.cells row.toArray 25 (0, 0))) (hn : n ≤ cap) (hc : cap ≤ maxLen) (hl : row.length = cap * 2) (ht : row.take (n * 2) = xs) :
    w.ownsRow 0 25 2 (.slice (some ⟨g, 0, none⟩) n cap) n xs :=
  ⟨by rw [← ht, List.length_take, hl]; omega, .inr ⟨g, cap, row.toArray, rfl, Nat.zero_le _, hg, hn, hc, by simpa using hl, by simpa using ht⟩⟩

theorem row_cells {w : World} {g : Nat} {row : List Value} (hg : w.heap[g]? = some (.cells row.toArray 25 (0, 0))) (off : Nat) (cs : List Value) (h : cs = (row.drop off).take cs.length) : ∀ j v, cs[j]? = some v → w.cell? ((⟨g, off, none⟩ : Addr).add j) = some v := by
  intro j v hj
  rw [Addr.add_lit, cell_of_row w g _ _ _ _ hg]
  have hlt : j < cs.length := (List.getElem?_eq_some_iff.1 hj).1
  rw [h, List.getElem?_take, if_pos hlt, List.getElem?_drop] at hj
  simpa using hj

set_option maxHeartbeats 1000000 in
/-- At the end of a slice that is nil. -/
theorem insert_nil (w : World) (h m c : Nat) (src : List Value) (hh : w.heap[h]? = some (.cells src.toArray 25 (0, 0))) (hm : m * 2 ≤ src.length) (h0 : 0 < m) (hb : m * 16 ≤ 140737488355328) :
    Calls Try.prog 64 #[.slice none 0 0, .int .i64 0, .slice (some ⟨h, 0, none⟩) m c] w fun e w' => ∃ v', e = .returned v' ∧ Placed w w' (.slice none 0 0) v' m (src.take (m * 2)) := by
  have hn : (src.take (m * 2)).length = m * 2 := by rw [List.length_take]; omega
  have hc := row_cells hh 0 (src.take (m * 2)) (by rw [hn]; simp)
  have hm0 : ((m : Int) == 0) = false := by simp; omega
  generalize hnew : src.take (m * 2) = news at *
  have HC : Hid _ := hc
  have HN : Hid _ := hn
  clear hc hn hnew hh
  go_enter Try.func64, Try.ntmps64
  go_wp2_with (at_builtin; refine wpList_nil2 rfl _ _ rfl rfl ⟨h, 0, none⟩ m c rfl news h0 HN.out HC.out hb ?_; intro w1 cap' tail hr hc1 hc2 hl hg)
  go_ret
  refine ⟨_, rfl, own_mk hr.out hc1 hc2 hl.out ?_, grown_any hg.out, .inr ⟨_, rfl, Nat.le_refl _⟩⟩
  rw [← HN.out, List.take_left]

set_option maxHeartbeats 1000000 in
/-- At the end, where there is room. -/
theorem insert_room (w : World) (g n cap : Nat) (row : List Value) (hg : w.heap[g]? = some (.cells row.toArray 25 (0, 0))) (_hnc : n ≤ cap) (hcm : cap ≤ maxLen) (hrl : row.length = cap * 2)
    (h m c : Nat) (src : List Value) (hh : w.heap[h]? = some (.cells src.toArray 25 (0, 0))) (hm : m * 2 ≤ src.length) (h1 : ∀ v ∈ src.take (m * 2), v.oneCell' = true) (h0 : 0 < m) (hroom : n + m ≤ cap) :
    Calls Try.prog 64 #[.slice (some ⟨g, 0, none⟩) n cap, .int .i64 n, .slice (some ⟨h, 0, none⟩) m c] w fun e w' => ∃ v', e = .returned v' ∧ Placed w w' (.slice (some ⟨g, 0, none⟩) n cap) v' (n + m) (row.take (n * 2) ++ src.take (m * 2)) := by
  have hn : (src.take (m * 2)).length = m * 2 := by rw [List.length_take]; omega
  have hc := row_cells hh 0 (src.take (m * 2)) (by rw [hn]; simp)
  have hm0 : ((m : Int) == 0) = false := by simp; omega
  have hni : ¬ cap = n := by omega
  generalize hnew : src.take (m * 2) = news at *
  have HC : Hid _ := hc
  have HN : Hid _ := hn
  have HG : Hid _ := hg
  have H1 : Hid _ := h1
  have HL : Hid _ := hrl
  clear hc hn hnew hh hg h1 hrl
  go_enter Try.func64, Try.ntmps64
  go_wp2_with (at_builtin; refine wpList_room2 rfl _ _ rfl g n cap rfl row HG.out ⟨h, 0, none⟩ m c rfl news HN.out HC.out H1.out hroom (by rw [HN.out, HL.out]; omega) ?_; intro w1 hr hg1)
  go_ret
  refine ⟨_, rfl, own_mk hr.out hroom hcm ?_ ?_, hg1.out, .inl rfl⟩
  · rw [length_splice _ _ _ (by rw [HN.out, HL.out]; omega), HL.out]
  · have e := splice_close row news [] (n * 2) (n * 2 + news.length) ((n + m) * 2) rfl (by rw [HN.out]; simp; omega) (by rw [HL.out]; omega)
    rw [List.append_nil] at e
    rw [← e]
    congr 1
    simp [splice]

set_option maxHeartbeats 1000000 in
/-- At the end, where there is no room. -/
theorem insert_grow (w : World) (g n cap : Nat) (row : List Value) (hg : w.heap[g]? = some (.cells row.toArray 25 (0, 0))) (hnc : n ≤ cap) (_hcm : cap ≤ maxLen) (hrl : row.length = cap * 2)
    (h m c : Nat) (src : List Value) (hh : w.heap[h]? = some (.cells src.toArray 25 (0, 0))) (hm : m * 2 ≤ src.length) (h0 : 0 < m) (hroom : cap < n + m) (hb : (n + m) * 16 ≤ 140737488355328) :
    Calls Try.prog 64 #[.slice (some ⟨g, 0, none⟩) n cap, .int .i64 n, .slice (some ⟨h, 0, none⟩) m c] w fun e w' => ∃ v', e = .returned v' ∧ Placed w w' (.slice (some ⟨g, 0, none⟩) n cap) v' (n + m) (row.take (n * 2) ++ src.take (m * 2)) := by
  have hn : (src.take (m * 2)).length = m * 2 := by rw [List.length_take]; omega
  have hc := row_cells hh 0 (src.take (m * 2)) (by rw [hn]; simp)
  have ho : (row.take (n * 2)).length = n * 2 := by rw [List.length_take]; omega
  have hoc := row_cells hg 0 (row.take (n * 2)) (by rw [ho]; simp)
  have hm0 : ((m : Int) == 0) = false := by simp; omega
  generalize hnew : src.take (m * 2) = news at *
  generalize hold : row.take (n * 2) = olds at *
  have HC : Hid _ := hc
  have HN : Hid _ := hn
  have HO : Hid _ := ho
  have HOC : Hid _ := hoc
  clear hc hn hnew hh hg hrl hold ho hoc
  by_cases hni : cap = n
  · subst hni
    go_enter Try.func64, Try.ntmps64
    go_wp2_with (at_builtin; refine wpList_grow2 rfl _ _ rfl ⟨g, 0, none⟩ cap cap rfl olds HO.out HOC.out ⟨h, 0, none⟩ m c rfl news HN.out HC.out hroom hb ?_; intro w1 cap' tail hr hc1 hc2 hl hg1)
    go_ret
    refine ⟨_, rfl, own_mk hr.out hc1 hc2 hl.out ?_, grown_any hg1.out, .inr ⟨_, rfl, Nat.le_refl _⟩⟩
    rw [show (cap + m) * 2 = (olds ++ news).length by rw [List.length_append, HO.out, HN.out]; omega, List.take_left]
  · go_enter Try.func64, Try.ntmps64
    go_wp2_with (at_builtin; refine wpList_grow2 rfl _ _ rfl ⟨g, 0, none⟩ n cap rfl olds HO.out HOC.out ⟨h, 0, none⟩ m c rfl news HN.out HC.out hroom hb ?_; intro w1 cap' tail hr hc1 hc2 hl hg1)
    go_ret
    refine ⟨_, rfl, own_mk hr.out hc1 hc2 hl.out ?_, grown_any hg1.out, .inr ⟨_, rfl, Nat.le_refl _⟩⟩
    rw [show (n + m) * 2 = (olds ++ news).length by rw [List.length_append, HO.out, HN.out]; omega, List.take_left]

end Go.Proofs.Ytjbjaklbckhodab
namespace Go.Proofs.Ytjbjaklbckhodab
open Go.RowKit
set_option maxRecDepth 100000

theorem heap_grown {a b : World} {r : Option Nat} (h : a.grownBy b r) {k : Nat} {o : Obj} (hk : a.heap[k]? = some o) (hne : some k ≠ r) : b.heap[k]? = some o :=
  (h.block k (Array.getElem?_eq_some_iff.1 hk).1 hne).trans hk

set_option maxHeartbeats 1000000 in
/-- In the middle, where there is no room. -/
theorem insert_mid_grow (w : World) (g n cap i : Nat) (row : List Value) (hg : w.heap[g]? = some (.cells row.toArray 25 (0, 0))) (hi : i < n) (hnc : n ≤ cap) (_hcm : cap ≤ maxLen) (hrl : row.length = cap * 2) (h1r : ∀ v ∈ row.take (n * 2), v.oneCell' = true)
    (h m c : Nat) (src : List Value) (hh : w.heap[h]? = some (.cells src.toArray 25 (0, 0))) (hm : m * 2 ≤ src.length) (h1 : ∀ v ∈ src.take (m * 2), v.oneCell' = true) (h0 : 0 < m) (hroom : cap < n + m) (hb : (n + m) * 16 ≤ 140737488355328) :
    Calls Try.prog 64 #[.slice (some ⟨g, 0, none⟩) n cap, .int .i64 i, .slice (some ⟨h, 0, none⟩) m c] w fun e w' => ∃ v', e = .returned v' ∧ Placed w w' (.slice (some ⟨g, 0, none⟩) n cap) v' (n + m) (row.take (i * 2) ++ src.take (m * 2) ++ (row.take (n * 2)).drop (i * 2)) := by
  have hn : (src.take (m * 2)).length = m * 2 := by rw [List.length_take]; omega
  have ho : (row.take (i * 2)).length = i * 2 := by rw [List.length_take]; omega
  have hd : ((row.take (n * 2)).drop (i * 2)).length = (n - i) * 2 := by rw [List.length_drop, List.length_take]; omega
  have hoc := row_cells hg 0 (row.take (i * 2)) (by rw [ho]; simp)
  have hm0 : ((m : Int) == 0) = false := by simp; omega
  have hin : ((i : Int) == (n : Int)) = false := by simp; omega
  have hci : ¬ cap = i := by omega
  have hgl : g < w.heap.size := (Array.getElem?_eq_some_iff.1 hg).1
  have hhl : h < w.heap.size := (Array.getElem?_eq_some_iff.1 hh).1
  have HG : Hid _ := hg
  have HH : Hid _ := hh
  have H1 : Hid _ := h1
  have H1D : Hid (∀ v ∈ (row.take (n * 2)).drop (i * 2), v.oneCell' = true) := fun v hv => h1r v (List.mem_of_mem_drop hv)
  have HL : Hid _ := hrl
  have HN : Hid _ := hn
  have HO : Hid _ := ho
  have HD : Hid _ := hd
  have HOC : Hid _ := hoc
  clear hoc hn ho hd hg hh h1 hrl h1r
  go_enter Try.func64, Try.ntmps64
  go_wp2_with (at_builtin; refine wpList_zeros2 rfl _ _ rfl ⟨g, 0, none⟩ i cap rfl (row.take (i * 2)) HO.out HOC.out _ (n + m - i) rfl (by omega) (by omega) (by omega) (by omega) (n + m) (by omega) ?_; intro w1 cap' tail hr hc1 hc2 hl hg1)
  obtain ⟨w2, hrun, hrow, hg2⟩ := run_copy2 w1 3 (some ⟨w.heap.size, i * 2, none⟩) (some ⟨h, 0, none⟩) (n + m - i) (cap' - i) m c w.heap.size (i * 2) _ hr.out (src.take (m * 2)) (by rw [HN.out]; simp only [Nat.min_def]; split <;> omega)
    (fun _ => ⟨rfl, _, rfl, row_cells (heap_grown hg1.out HH.out (by simp)) 0 (src.take (m * 2)) (by rw [HN.out]; simp)⟩) (by rw [HN.out]; have := hl.out; omega) H1.out
  have HROW : Hid _ := hrow
  have HG2 : Hid _ := hg2
  clear hrow hg2
  have hci' : ¬ cap' = i + m := by omega
  have hw1 : IntKind.i64.wrap ((i : Int) + (m : Int)) = (i : Int) + (m : Int) := by rw [IntKind.wrap_i64]; omega
  have hb1 : (0 : Int) ≤ (i : Int) + (m : Int) := by omega
  have hin' : i ≤ n := by omega
  have htn : ((i : Int) + (m : Int)).toNat = i + m := by omega
  rw [hrun]
  clear hrun
  obtain ⟨w3, hrun3, hrow3, hg3⟩ := run_copy2 w2.drew 3 (some ⟨w.heap.size, (i + m) * 2, none⟩) (some ⟨g, i * 2, none⟩) (n + m - (i + m)) (cap' - (i + m)) (n - i) (cap - i) w.heap.size ((i + m) * 2) _ HROW.out ((row.take (n * 2)).drop (i * 2))
    (by rw [HD.out]; simp only [Nat.min_def]; split <;> omega)
    (fun _ => ⟨rfl, _, rfl, row_cells (row := row) (heap_grown (grown_new (r := none) hg1.out (grown_drew HG2.out) (Nat.le_refl _)) HG.out (by simp)) (i * 2) _ (by rw [HD.out, List.drop_take]; congr 1; omega)⟩) (by rw [HD.out, length_splice _ _ _ (by rw [HN.out]; have := hl.out; omega)]; have := hl.out; omega) H1D.out
  have HROW3 : Hid _ := hrow3
  have HG3 : Hid _ := hg3
  clear hrow3 hg3
  go_wp2
  go_region_law (refine step_copy_eq rfl (.tmp 50) (.tmp 53) rfl rfl _ _ (by simp [Act.eval, Act.put]) (by simp [Act.eval, Act.put]) hrun3 ?_)
  go_wp2
  go_ret
  have e := splice_grown (row.take (i * 2)) (zeros (n + m - i)) tail (src.take (m * 2)) ((row.take (n * 2)).drop (i * 2)) (by rw [length_zeros, HN.out, HD.out]; omega) (i * 2) ((i + m) * 2) HO.out.symm (by rw [HO.out, HN.out]; omega)
  refine ⟨_, rfl, own_mk HROW3.out hc1 hc2 ?_ ?_, grown_any (grown_new (grown_new (r := none) hg1.out (grown_drew HG2.out) (Nat.le_refl _)) HG3.out (Nat.le_refl _)), .inr ⟨_, rfl, Nat.le_refl _⟩⟩
  · rw [e, ← hl.out]
    simp only [List.length_append, length_zeros, HN.out, HD.out]
    omega
  · rw [e]
    have hlen : (row.take (i * 2) ++ src.take (m * 2) ++ (row.take (n * 2)).drop (i * 2)).length = (n + m) * 2 := by simp only [List.length_append, HO.out, HN.out, HD.out]; omega
    rw [← hlen, List.take_left]

theorem size29 : ∀ w, (Go.sizeOf 25).run Try.prog w = .ok 2 w := by
  obtain ⟨i, hi, hz0, hz1, hz2⟩ := info_parts info29
  intro w
  simp [sizeOf, typeInfo, hi, hz1]
theorem overlaps_apart (w : World) (h k m c lb cb g off : Nat) (src row : List Value) (hne : h ≠ g) (hh : w.heap[h]? = some (.cells src.toArray 25 (0, 0))) (hg : w.heap[g]? = some (.cells row.toArray 25 (0, 0))) (hr : row.length ≠ 0) :
    (callFunc 65 #[.slice (some ⟨h, k, none⟩) m c, .slice (some ⟨g, off, none⟩) lb cb]).run Try.prog w = .ok (.value (.bool false)) w := by
  rw [run_callFunc_extern Try.func65 (by kernel_rfl) (by kernel_rfl) (by kernel_rfl) (e := Extern.SlicesOverlaps.overlaps #[22, 22] #[4]) (by kernel_rfl),
    Lib.run_overlaps_apart w 22 4 25 Try.underlying22 2 size29 ⟨h, k, none⟩ ⟨g, off, none⟩ m c lb cb hne 25 25 src.length row.length (by simp [World.shape?, hh]) (by simp [World.shape?, hg]) hr (by simp [World.frozen?, hh]) (by simp [World.frozen?, hh])]
  rfl

set_option maxHeartbeats 1000000 in
/-- In the middle, where there is room. -/
theorem insert_mid_room (w : World) (g n cap i : Nat) (row : List Value) (hg : w.heap[g]? = some (.cells row.toArray 25 (0, 0))) (hi : i < n) (hcm : cap ≤ maxLen) (hrl : row.length = cap * 2) (h1r : ∀ v ∈ row.take (n * 2), v.oneCell' = true)
    (h m c : Nat) (src : List Value) (hne : h ≠ g) (hh : w.heap[h]? = some (.cells src.toArray 25 (0, 0))) (hm : m * 2 ≤ src.length) (h1 : ∀ v ∈ src.take (m * 2), v.oneCell' = true) (h0 : 0 < m) (hroom : n + m ≤ cap) :
    Calls Try.prog 64 #[.slice (some ⟨g, 0, none⟩) n cap, .int .i64 i, .slice (some ⟨h, 0, none⟩) m c] w fun e w' => ∃ v', e = .returned v' ∧ Placed w w' (.slice (some ⟨g, 0, none⟩) n cap) v' (n + m) (row.take (i * 2) ++ src.take (m * 2) ++ (row.take (n * 2)).drop (i * 2)) := by
  unfold maxLen at hcm
  have hn : (src.take (m * 2)).length = m * 2 := by rw [List.length_take]; omega
  have hd : ((row.take (n * 2)).drop (i * 2)).length = (n - i) * 2 := by rw [List.length_drop, List.length_take]; omega
  have hm0 : ((m : Int) == 0) = false := by simp; omega
  have hin : ((i : Int) == (n : Int)) = false := by simp; omega
  have hci : ¬ cap = i := by omega
  have hov := fun lb cb => overlaps_apart w h 0 m c lb cb g ((i + m) * 2) src row hne hh hg (by omega)
  obtain ⟨w2, hrun2, hrow2, hg2⟩ := run_copy2 w.drew 3 (some ⟨g, (i + m) * 2, none⟩) (some ⟨g, i * 2, none⟩) (n + m - (i + m)) (cap - (i + m)) (n + m - i) (cap - i) g ((i + m) * 2) row hg ((row.take (n * 2)).drop (i * 2))
    (by rw [hd]; simp only [Nat.min_def]; split <;> omega) (fun _ => ⟨rfl, _, rfl, row_cells (row := row) hg (i * 2) _ (by rw [hd, List.drop_take]; congr 1; omega)⟩) (by rw [hd, hrl]; omega) (fun v hv => h1r v (List.mem_of_mem_drop hv))
  have hls : (splice row ((i + m) * 2) ((row.take (n * 2)).drop (i * 2))).length = cap * 2 := by rw [length_splice _ _ _ (by rw [hd, hrl]; omega), hrl]
  obtain ⟨w3, hrun3, hrow3, hg3⟩ := run_copy2 w2 3 (some ⟨g, i * 2, none⟩) (some ⟨h, 0, none⟩) (n + m - i) (cap - i) m c g (i * 2) _ hrow2 (src.take (m * 2)) (by rw [hn]; simp only [Nat.min_def]; split <;> omega)
    (fun _ => ⟨rfl, _, rfl, row_cells (heap_grown (a := w.drew) hg2 hh (by simp; omega)) 0 (src.take (m * 2)) (by rw [hn]; simp)⟩) (by rw [hn, hls]; omega) h1
  have e := splice_shift row (src.take (m * 2)) ((row.take (n * 2)).drop (i * 2)) (i * 2) ((i + m) * 2) ((n + m) * 2) (by rw [hn]; omega) (by rw [hd]; omega) (by rw [hrl]; omega)
  have hl3 : (splice (splice row ((i + m) * 2) ((row.take (n * 2)).drop (i * 2))) (i * 2) (src.take (m * 2))).length = cap * 2 := by rw [length_splice _ _ _ (by rw [hn, hls]; omega), hls]
  have HP : Hid (Placed w w3 (.slice (some ⟨g, 0, none⟩) n cap) (.slice (some ⟨g, 0, none⟩) (n + m) cap) (n + m) (row.take (i * 2) ++ src.take (m * 2) ++ (row.take (n * 2)).drop (i * 2))) :=
    ⟨own_mk hrow3 hroom (by unfold maxLen; omega) hl3 e, grown_trans (grown_trans (grown_drew (grown_refl w (some g))) hg2) hg3, .inl rfl⟩
  have HR3 : Hid _ := hrun3
  generalize (row.take (i * 2) ++ src.take (m * 2) ++ (row.take (n * 2)).drop (i * 2)) = res at *
  clear hrun3 hrow2 hrow3 hg2 hg3 e hl3 hls hn hd h1 h1r hh hg hrl hm
  have hw1 : IntKind.i64.wrap ((i : Int) + (m : Int)) = (i : Int) + (m : Int) := by rw [IntKind.wrap_i64]; omega
  have hb1 : (0 : Int) ≤ (i : Int) + (m : Int) := by omega
  have hin' : i ≤ n := by omega
  have htn : ((i : Int) + (m : Int)).toNat = i + m := by omega
  have hb2 : ¬ cap = i + m := by omega
  have hb3 : (i : Int) ≤ (n : Int) + (m : Int) := by omega
  go_enter Try.func64, Try.ntmps64
  go_wp2
  go_region_law (refine step_copy_eq rfl (.tmp 73) (.tmp 76) rfl rfl _ _ (by simp [Act.eval, Act.put]) (by simp [Act.eval, Act.put]) hrun2 ?_)
  go_wp2
  rw [HR3.out]
  go_wp2
  go_ret
  exact ⟨_, rfl, HP.out⟩

/-- slices.Insert, wherever. -/
theorem insert_any (w : World) (s : Value) (n : Nat) (xs : List Value) (own : w.ownsRow 0 25 2 s n xs) (h1x : ∀ v ∈ xs, v.oneCell' = true) (i : Nat) (hi : i ≤ n)
    (h m c : Nat) (src : List Value) (hne : s.ownBlock ≠ some h) (hh : w.heap[h]? = some (.cells src.toArray 25 (0, 0))) (hm : m * 2 ≤ src.length) (h1 : ∀ v ∈ src.take (m * 2), v.oneCell' = true) (h0 : 0 < m) (hb : (n + m) * 16 ≤ 140737488355328) :
    Calls Try.prog 64 #[s, .int .i64 i, .slice (some ⟨h, 0, none⟩) m c] w fun e w' => ∃ v', e = .returned v' ∧ Placed w w' s v' (n + m) (xs.take (i * 2) ++ src.take (m * 2) ++ xs.drop (i * 2)) := by
  obtain ⟨hlen, ⟨rfl, rfl⟩ | ⟨g, cap, cur, rfl, _, hg, hnc, hcm, hcs, htk⟩⟩ := own
  · obtain rfl : xs = [] := List.eq_nil_of_length_eq_zero (by simpa using hlen)
    obtain rfl : i = 0 := by omega
    simpa using insert_nil w h m c src hh hm h0 (by omega)
  · have hg' : w.heap[g]? = some (.cells cur.toList.toArray 25 (0, 0)) := by simpa using hg
    have hrl : cur.toList.length = cap * 2 := by simpa using hcs
    have hne' : h ≠ g := fun e => hne (by rw [e]; rfl)
    subst htk
    rw [List.take_take, show min (i * 2) (n * 2) = i * 2 by omega]
    by_cases hin : i = n
    · subst hin
      have hdr : (cur.toList.take (i * 2)).drop (i * 2) = [] := by apply List.drop_eq_nil_of_le; simp; omega
      rw [hdr, List.append_nil]
      by_cases hroom : i + m ≤ cap
      · exact insert_room w g i cap _ hg' hnc hcm hrl h m c src hh hm h1 h0 hroom
      · exact insert_grow w g i cap _ hg' hnc hcm hrl h m c src hh hm h0 (by omega) hb
    · by_cases hroom : n + m ≤ cap
      · exact insert_mid_room w g n cap i _ hg' (by omega) hcm hrl h1x h m c src hne' hh hm h1 h0 hroom
      · exact insert_mid_grow w g n cap i _ hg' (by omega) hnc hcm hrl h1x h m c src hh hm h1 h0 (by omega) hb

end Go.Proofs.Ytjbjaklbckhodab
