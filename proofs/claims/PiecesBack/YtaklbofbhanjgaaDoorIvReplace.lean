import Derived.Test.YtaklbofbhanjgaaDoorIvInsert2
namespace Go.Proofs.YtaklbofbhanjgaaDoor
open Go.RowKit
set_option maxRecDepth 100000

set_option maxRecDepth 100000 in
set_option maxHeartbeats 1000000 in
/-- The tail gives way, and there is room. -/
theorem replace_tail_room (w : World) (g n cap i : Nat) (row : List Value) (hg : w.heap[g]? = some (.cells row.toArray 92 (0, 0))) (hi : i < n) (hnc : n ≤ cap) (hcm : cap ≤ maxLen) (hrl : row.length = cap * 2)
    (h m c : Nat) (src : List Value) (hh : w.heap[h]? = some (.cells src.toArray 92 (0, 0))) (hm : m * 2 ≤ src.length) (h1 : ∀ v ∈ src.take (m * 2), v.oneCell' = true) (hroom : i + m ≤ cap) :
    Calls Tryd.prog 83 #[.slice (some ⟨g, 0, none⟩) n cap, .int .i64 i, .int .i64 n, .slice (some ⟨h, 0, none⟩) m c] w fun e w' => ∃ v', e = .returned v' ∧ Placed w w' (.slice (some ⟨g, 0, none⟩) n cap) v' (i + m) (row.take (i * 2) ++ src.take (m * 2)) := by
  have hcm' := hcm
  unfold maxLen at hcm'
  have hn : (src.take (m * 2)).length = m * 2 := by rw [List.length_take]; omega
  have hc := row_cells hh 0 (src.take (m * 2)) (by rw [hn]; simp)
  have hin : ((i : Int) == (n : Int)) = false := by simp; omega
  have hci : ¬ cap = i := by omega
  have HE : Hid ((splice row (i * 2) (src.take (m * 2))).take ((i + m) * 2) = row.take (i * 2) ++ src.take (m * 2)) := by
    have e := splice_close row (src.take (m * 2)) [] (i * 2) (i * 2 + (src.take (m * 2)).length) ((i + m) * 2) rfl (by rw [hn]; simp; omega) (by rw [hrl]; omega)
    rw [List.append_nil] at e
    show _ = _
    rw [← e]
    congr 1
    simp [splice]
  have HLS : Hid ((splice row (i * 2) (src.take (m * 2))).length = cap * 2) := by
    show _ = _
    rw [length_splice _ _ _ (by rw [hn, hrl]; omega), hrl]
  have HFIT : Hid (i * 2 + (src.take (m * 2)).length ≤ row.length) := by
    show _ ≤ _
    rw [hn, hrl]; omega
  have HC : Hid _ := hc
  have HN : Hid _ := hn
  have HG : Hid _ := hg
  have H1 : Hid _ := h1
  generalize src.take (m * 2) = news at *
  clear hc hn hh hg h1 hrl
  by_cases hlt : i + m < n
  · have hlt' : (i : Int) + (m : Int) < (n : Int) := by omega
    have hcim : ¬ cap = i + m := by omega
    go_enter Tryd.func83, Tryd.ntmps83
    go_wp2_with (at_builtin; refine wpList_room2 rfl _ _ rfl g i cap rfl row HG.out ⟨h, 0, none⟩ m c rfl news HN.out HC.out H1.out hroom HFIT.out ?_; intro w1 hr hg1)
    obtain ⟨w2, hrun, hrow2, hg2⟩ := run_clear2 w1 (some ⟨g, (i + m) * 2, none⟩) (n - (i + m)) (cap - (i + m)) g ((i + m) * 2) _ hr.out (fun _ => rfl) (by rw [HLS.out]; omega)
    have HP : Hid (Placed w w2 (.slice (some ⟨g, 0, none⟩) n cap) (.slice (some ⟨g, 0, none⟩) (i + m) cap) (i + m) (row.take (i * 2) ++ news)) :=
      ⟨own_mk hrow2 hroom hcm (by rw [length_splice _ _ _ (by rw [length_zeros, HLS.out]; omega), HLS.out]) (by rw [← HE.out]; unfold splice; rw [List.take_append_of_le_length (by rw [List.length_take]; have := HLS.out; unfold splice at this; omega), List.take_take, Nat.min_self]), grown_trans hg1.out hg2, .inl rfl⟩
    clear hrow2 hg2
    rw [hrun]
    go_wp2
    go_ret
    exact ⟨_, rfl, HP.out⟩
  · have hlt' : ¬ (i : Int) + (m : Int) < (n : Int) := by omega
    go_enter Tryd.func83, Tryd.ntmps83
    go_wp2_with (at_builtin; refine wpList_room2 rfl _ _ rfl g i cap rfl row HG.out ⟨h, 0, none⟩ m c rfl news HN.out HC.out H1.out hroom HFIT.out ?_; intro w1 hr hg1)
    go_ret
    exact ⟨_, rfl, own_mk hr.out hroom hcm HLS.out HE.out, hg1.out, .inl rfl⟩

set_option maxRecDepth 100000 in
set_option maxHeartbeats 1000000 in
/-- The tail gives way, and there is no room. -/
theorem replace_tail_grow (w : World) (g n cap i : Nat) (row : List Value) (hg : w.heap[g]? = some (.cells row.toArray 92 (0, 0))) (hi : i < n) (hnc : n ≤ cap) (hrl : row.length = cap * 2)
    (h m c : Nat) (src : List Value) (hh : w.heap[h]? = some (.cells src.toArray 92 (0, 0))) (hm : m * 2 ≤ src.length) (hroom : cap < i + m) (hb : (i + m) * 16 ≤ 140737488355328) :
    Calls Tryd.prog 83 #[.slice (some ⟨g, 0, none⟩) n cap, .int .i64 i, .int .i64 n, .slice (some ⟨h, 0, none⟩) m c] w fun e w' => ∃ v', e = .returned v' ∧ Placed w w' (.slice (some ⟨g, 0, none⟩) n cap) v' (i + m) (row.take (i * 2) ++ src.take (m * 2)) := by
  have hn : (src.take (m * 2)).length = m * 2 := by rw [List.length_take]; omega
  have hc := row_cells hh 0 (src.take (m * 2)) (by rw [hn]; simp)
  have ho : (row.take (i * 2)).length = i * 2 := by rw [List.length_take]; omega
  have hoc := row_cells hg 0 (row.take (i * 2)) (by rw [ho]; simp)
  have hin : ((i : Int) == (n : Int)) = false := by simp; omega
  have hci : ¬ cap = i := by omega
  generalize src.take (m * 2) = news at *
  generalize row.take (i * 2) = olds at *
  have HC : Hid _ := hc
  have HN : Hid _ := hn
  have HO : Hid _ := ho
  have HOC : Hid _ := hoc
  clear hc hn hh hg hrl ho hoc
  have hlt' : ¬ (i : Int) + (m : Int) < (n : Int) := by omega
  go_enter Tryd.func83, Tryd.ntmps83
  go_wp2_with (at_builtin; refine wpList_grow2 rfl _ _ rfl ⟨g, 0, none⟩ i cap rfl olds HO.out HOC.out ⟨h, 0, none⟩ m c rfl news HN.out HC.out hroom hb ?_; intro w1 cap' tail hr hc1 hc2 hl hg1)
  go_ret
  refine ⟨_, rfl, own_mk hr.out hc1 hc2 hl.out ?_, grown_any hg1.out, .inr ⟨_, rfl, Nat.le_refl _⟩⟩
  rw [show (i + m) * 2 = (olds ++ news).length by rw [List.length_append, HO.out, HN.out]; omega, List.take_left]

theorem placed_drewN {w w' : World} {q : Nat} {s v' : Value} {n : Nat} {xs : List Value} (h : Placed (w.drewN q) w' s v' n xs) : Placed w w' s v' n xs :=
  ⟨h.own, ⟨h.grown.os, h.grown.tape, h.grown.output, h.grown.size, h.grown.block⟩, h.block⟩

theorem grown_drewN {a b : World} {q : Nat} {r : Option Nat} (h : World.grownBy (a.drewN q) b r) : a.grownBy b r := ⟨h.os, h.tape, h.output, h.size, h.block⟩
/-- What the two copies and the clear do, where it closes up. -/
theorem close_core (w : World) (g d cap i j : Nat) (row : List Value) (hg : w.heap[g]? = some (.cells row.toArray 92 (0, 0))) (hnc : j + d ≤ cap) (hcm : cap ≤ maxLen) (hrl : row.length = cap * 2) (h1r : ∀ v ∈ row.take ((j + d) * 2), v.oneCell' = true)
    (h m c : Nat) (src : List Value) (hh : w.heap[h]? = some (.cells src.toArray 92 (0, 0))) (hm : m * 2 ≤ src.length) (h1 : ∀ v ∈ src.take (m * 2), v.oneCell' = true) (hmj : i + m ≤ j) :
    ∃ w2, (Builtin.copy_ #[58, 58] 3 #[.slice (some ⟨g, i * 2, none⟩) (i + m + d - i) (cap - i), .slice (some ⟨h, 0, none⟩) m c]).run Tryd.prog w = .ok (goInt (Nat.min m (i + m + d - i))) w2 ∧
    ∃ w3, (Builtin.copy_ #[58, 58] 3 #[.slice (some ⟨g, (i + m) * 2, none⟩) d (cap - (i + m)), .slice (some ⟨g, j * 2, none⟩) d (cap - j)]).run Tryd.prog w2.drew = .ok (goInt (Nat.min d d)) w3 ∧
    ∀ ap : Option Addr, (0 < j + d - (i + m + d) → ap = some ⟨g, (i + m + d) * 2, none⟩) → ∃ w4, (∀ ty, (Builtin.clear_ #[58] ty #[.slice ap (j + d - (i + m + d)) (cap - (i + m + d))]).run Tryd.prog w3 = .ok (.tuple #[]) w4) ∧
      Placed w w4 (.slice (some ⟨g, 0, none⟩) (j + d) cap) (.slice (some ⟨g, 0, none⟩) (i + m + d) cap) (i + m + d) (row.take (i * 2) ++ src.take (m * 2) ++ (row.take ((j + d) * 2)).drop (j * 2)) := by
  have hn : (src.take (m * 2)).length = m * 2 := by rw [List.length_take]; omega
  have hdl : ((row.take ((j + d) * 2)).drop (j * 2)).length = d * 2 := by rw [List.length_drop, List.length_take]; omega
  obtain ⟨w2, hrun2, hrow2, hg2⟩ := run_copy2 w 3 (some ⟨g, i * 2, none⟩) (some ⟨h, 0, none⟩) (i + m + d - i) (cap - i) m c g (i * 2) row hg (src.take (m * 2)) (by rw [hn]; simp only [Nat.min_def]; split <;> omega)
    (fun _ => ⟨rfl, _, rfl, row_cells hh 0 (src.take (m * 2)) (by rw [hn]; simp)⟩) (by rw [hn, hrl]; omega) h1
  have hls : (splice row (i * 2) (src.take (m * 2))).length = cap * 2 := by rw [length_splice _ _ _ (by rw [hn, hrl]; omega), hrl]
  have hdc : (row.take ((j + d) * 2)).drop (j * 2) = ((splice row (i * 2) (src.take (m * 2))).drop (j * 2)).take ((row.take ((j + d) * 2)).drop (j * 2)).length := by
    rw [hdl]
    apply List.ext_getElem?
    intro t
    rw [List.drop_take, List.getElem?_take, List.getElem?_take, show (j + d) * 2 - j * 2 = d * 2 by omega]
    by_cases ht : t < d * 2
    · rw [if_pos ht, if_pos ht, List.getElem?_drop, List.getElem?_drop, get_splice _ _ _ (by rw [hn, hrl]; omega), if_neg (by omega), if_neg (by rw [hn]; omega)]
    · rw [if_neg ht, if_neg ht]
  obtain ⟨w3, hrun3, hrow3, hg3⟩ := run_copy2 w2.drew 3 (some ⟨g, (i + m) * 2, none⟩) (some ⟨g, j * 2, none⟩) d (cap - (i + m)) d (cap - j) g ((i + m) * 2) _ hrow2 ((row.take ((j + d) * 2)).drop (j * 2))
    (by rw [hdl]; simp only [Nat.min_def]; split <;> omega) (fun _ => ⟨rfl, _, rfl, row_cells (w := w2.drew) hrow2 (j * 2) _ hdc⟩) (by rw [hdl, hls]; omega) (fun v hv => h1r v (List.mem_of_mem_drop hv))
  have hl3 : (splice (splice row (i * 2) (src.take (m * 2))) ((i + m) * 2) ((row.take ((j + d) * 2)).drop (j * 2))).length = cap * 2 := by rw [length_splice _ _ _ (by rw [hdl, hls]; omega), hls]
  have e := splice_close row (src.take (m * 2)) ((row.take ((j + d) * 2)).drop (j * 2)) (i * 2) ((i + m) * 2) ((i + m + d) * 2) (by rw [hn]; omega) (by rw [hdl]; omega) (by rw [hrl]; omega)
  refine ⟨w2, hrun2, w3, hrun3, fun ap hap => ?_⟩
  obtain ⟨w4, hrun4, hrow4, hg4⟩ := run_clear2 w3 ap (j + d - (i + m + d)) (cap - (i + m + d)) g ((i + m + d) * 2) _ hrow3 hap (by rw [hl3]; omega)
  refine ⟨w4, hrun4, own_mk hrow4 (by omega) hcm (by rw [length_splice _ _ _ (by rw [length_zeros, hl3]; omega), hl3]) ?_, grown_trans (grown_trans (grown_drew hg2) hg3) hg4, .inl rfl⟩
  rw [← e, splice, List.take_append_of_le_length (by rw [List.length_take, hl3]; omega), List.take_take, Nat.min_self]

theorem clear_none (w : World) (ap : Option Addr) (c : Nat) (ty : TypeId) : (Builtin.clear_ #[58] ty #[.slice ap 0 c]).run Tryd.prog w = .ok (.tuple #[]) w := by
  cases ap <;> simp [Builtin.clear_, run_underlying Tryd.underlying58]

set_option maxRecDepth 100000 in
set_option maxHeartbeats 1000000 in
/-- In the middle, and it closes up. -/
theorem replace_close (w : World) (g d cap i j : Nat) (row : List Value) (hg : w.heap[g]? = some (.cells row.toArray 92 (0, 0))) (hij : i < j) (hd : 0 < d) (hnc : j + d ≤ cap) (hcm : cap ≤ maxLen) (hrl : row.length = cap * 2) (h1r : ∀ v ∈ row.take ((j + d) * 2), v.oneCell' = true)
    (h m c : Nat) (src : List Value) (hh : w.heap[h]? = some (.cells src.toArray 92 (0, 0))) (hm : m * 2 ≤ src.length) (h1 : ∀ v ∈ src.take (m * 2), v.oneCell' = true) (hmj : i + m ≤ j) :
    Calls Tryd.prog 83 #[.slice (some ⟨g, 0, none⟩) (j + d) cap, .int .i64 i, .int .i64 j, .slice (some ⟨h, 0, none⟩) m c] w fun e w' => ∃ v', e = .returned v' ∧ Placed w w' (.slice (some ⟨g, 0, none⟩) (j + d) cap) v' (i + m + d) (row.take (i * 2) ++ src.take (m * 2) ++ (row.take ((j + d) * 2)).drop (j * 2)) := by
  have HCORE : Hid _ := fun q => close_core (w.drewN q) g d cap i j row hg hnc hcm hrl h1r h m c src hh hm h1 hmj
  unfold maxLen at hcm
  generalize (row.take (i * 2) ++ src.take (m * 2) ++ (row.take ((j + d) * 2)).drop (j * 2)) = res at *
  clear h1 hh hg hrl h1r hm
  have hin : ((i : Int) == (j : Int)) = false := by simp; omega
  have hjn : ((j : Int) == (j : Int) + (d : Int)) = false := by simp; omega
  have hci : ¬ cap = i := by omega
  have hcj : ¬ cap = j := by omega
  have hcm2 : ¬ cap = i + m := by omega
  have hw1 : IntKind.i64.wrap ((i : Int) + (m : Int)) = (i : Int) + (m : Int) := by rw [IntKind.wrap_i64]; omega
  have hb1 : (0 : Int) ≤ (i : Int) + (m : Int) := by omega
  have htn : ((i : Int) + (m : Int)).toNat = i + m := by omega
  have hb5 : (i : Int) + (m : Int) ≤ (i : Int) + (m : Int) + (d : Int) := by omega
  have hb6 : (j : Int) ≤ (j : Int) + (d : Int) := by omega
  go_enter Tryd.func83, Tryd.ntmps83
  go_wp2
  go_quiet (fail)
  go_wp2
  obtain ⟨w2, hrun2, w3, hrun3, hcl⟩ := HCORE.out nq
  have HCL : Hid _ := hcl
  have HR3 : Hid _ := hrun3
  clear hcl hrun3 HCORE
  rw [hrun2]
  clear hrun2
  go_wp2
  go_region_law (refine step_copy_eq rfl (.tmp 103) (.tmp 106) rfl rfl _ _ (by simp [Act.eval, Act.put]) (by simp [Act.eval, Act.put]) HR3.out ?_)
  by_cases hct : cap = i + m + d
  · obtain ⟨w4, hrun4, hP⟩ := HCL.out (some ⟨g, 0, none⟩) (by omega)
    have hjm : j = i + m := by omega
    have hz := clear_none w3
    have e4 : w4 = w3 := by
      have h4 := hrun4 0
      rw [show j + d - (i + m + d) = 0 by omega, hz] at h4
      simpa using h4.symm
    subst e4
    have HP : Hid _ := placed_drewN hP
    clear hP hrun4
    subst hjm
    subst hct
    go_wp2
    go_ret
    exact ⟨_, rfl, HP.out⟩
  · obtain ⟨w4, hrun4, hP⟩ := HCL.out (some ⟨g, (i + m + d) * 2, none⟩) (fun _ => rfl)
    have HP : Hid _ := placed_drewN hP
    clear hP
    go_wp2
    go_ret
    exact ⟨_, rfl, HP.out⟩

/-- What the two copies do, where it opens up and there is room. -/
theorem open_core (w : World) (g d cap i j : Nat) (row : List Value) (hg : w.heap[g]? = some (.cells row.toArray 92 (0, 0))) (hnc : j + d ≤ cap) (hcm : cap ≤ maxLen) (hrl : row.length = cap * 2) (h1r : ∀ v ∈ row.take ((j + d) * 2), v.oneCell' = true)
    (h m c : Nat) (src : List Value) (hne : h ≠ g) (hh : w.heap[h]? = some (.cells src.toArray 92 (0, 0))) (hm : m * 2 ≤ src.length) (h1 : ∀ v ∈ src.take (m * 2), v.oneCell' = true) (hroom : i + m + d ≤ cap) :
    ∃ w2, (Builtin.copy_ #[58, 58] 3 #[.slice (some ⟨g, (i + m) * 2, none⟩) d (cap - (i + m)), .slice (some ⟨g, j * 2, none⟩) d (cap - j)]).run Tryd.prog w.drew = .ok (goInt (Nat.min d d)) w2 ∧
    ∃ w3, (Builtin.copy_ #[58, 58] 3 #[.slice (some ⟨g, i * 2, none⟩) (i + m + d - i) (cap - i), .slice (some ⟨h, 0, none⟩) m c]).run Tryd.prog w2 = .ok (goInt (Nat.min m (i + m + d - i))) w3 ∧
      Placed w w3 (.slice (some ⟨g, 0, none⟩) (j + d) cap) (.slice (some ⟨g, 0, none⟩) (i + m + d) cap) (i + m + d) (row.take (i * 2) ++ src.take (m * 2) ++ (row.take ((j + d) * 2)).drop (j * 2)) := by
  have hn : (src.take (m * 2)).length = m * 2 := by rw [List.length_take]; omega
  have hdl : ((row.take ((j + d) * 2)).drop (j * 2)).length = d * 2 := by rw [List.length_drop, List.length_take]; omega
  obtain ⟨w2, hrun2, hrow2, hg2⟩ := run_copy2 w.drew 3 (some ⟨g, (i + m) * 2, none⟩) (some ⟨g, j * 2, none⟩) d (cap - (i + m)) d (cap - j) g ((i + m) * 2) row hg ((row.take ((j + d) * 2)).drop (j * 2))
    (by rw [hdl]; simp only [Nat.min_def]; split <;> omega) (fun _ => ⟨rfl, _, rfl, row_cells (w := w.drew) (row := row) hg (j * 2) _ (by rw [hdl, List.drop_take]; congr 1; omega)⟩) (by rw [hdl, hrl]; omega) (fun v hv => h1r v (List.mem_of_mem_drop hv))
  have hls : (splice row ((i + m) * 2) ((row.take ((j + d) * 2)).drop (j * 2))).length = cap * 2 := by rw [length_splice _ _ _ (by rw [hdl, hrl]; omega), hrl]
  obtain ⟨w3, hrun3, hrow3, hg3⟩ := run_copy2 w2 3 (some ⟨g, i * 2, none⟩) (some ⟨h, 0, none⟩) (i + m + d - i) (cap - i) m c g (i * 2) _ hrow2 (src.take (m * 2)) (by rw [hn]; simp only [Nat.min_def]; split <;> omega)
    (fun _ => ⟨rfl, _, rfl, row_cells (heap_grown (a := w.drew) hg2 hh (by simp; omega)) 0 (src.take (m * 2)) (by rw [hn]; simp)⟩) (by rw [hn, hls]; omega) h1
  have e := splice_shift row (src.take (m * 2)) ((row.take ((j + d) * 2)).drop (j * 2)) (i * 2) ((i + m) * 2) ((i + m + d) * 2) (by rw [hn]; omega) (by rw [hdl]; omega) (by rw [hrl]; omega)
  have hl3 : (splice (splice row ((i + m) * 2) ((row.take ((j + d) * 2)).drop (j * 2))) (i * 2) (src.take (m * 2))).length = cap * 2 := by rw [length_splice _ _ _ (by rw [hn, hls]; omega), hls]
  exact ⟨w2, hrun2, w3, hrun3, own_mk hrow3 hroom hcm hl3 e, grown_trans (grown_trans (grown_drew (grown_refl w (some g))) hg2) hg3, .inl rfl⟩

set_option maxRecDepth 100000 in
set_option maxHeartbeats 1000000 in
/-- In the middle, it opens up, and there is room. -/
theorem replace_open (w : World) (g d cap i j : Nat) (row : List Value) (hg : w.heap[g]? = some (.cells row.toArray 92 (0, 0))) (hij : i < j) (hd : 0 < d) (hnc : j + d ≤ cap) (hcm : cap ≤ maxLen) (hrl : row.length = cap * 2) (h1r : ∀ v ∈ row.take ((j + d) * 2), v.oneCell' = true)
    (h m c : Nat) (src : List Value) (hne : h ≠ g) (hh : w.heap[h]? = some (.cells src.toArray 92 (0, 0))) (hm : m * 2 ≤ src.length) (h1 : ∀ v ∈ src.take (m * 2), v.oneCell' = true) (hmj : j < i + m) (hroom : i + m + d ≤ cap) :
    Calls Tryd.prog 83 #[.slice (some ⟨g, 0, none⟩) (j + d) cap, .int .i64 i, .int .i64 j, .slice (some ⟨h, 0, none⟩) m c] w fun e w' => ∃ v', e = .returned v' ∧ Placed w w' (.slice (some ⟨g, 0, none⟩) (j + d) cap) v' (i + m + d) (row.take (i * 2) ++ src.take (m * 2) ++ (row.take ((j + d) * 2)).drop (j * 2)) := by
  have HCORE : Hid _ := fun q => open_core (w.drewN q) g d cap i j row hg hnc hcm hrl h1r h m c src hne hh hm h1 hroom
  have hov := fun q lb cb => overlaps_apart (w.drewN q) g ((i + m) * 2) lb cb m c h 0 row src (Ne.symm hne) hg hh (by omega)
  unfold maxLen at hcm
  generalize (row.take (i * 2) ++ src.take (m * 2) ++ (row.take ((j + d) * 2)).drop (j * 2)) = res at *
  clear h1 hh hg hrl h1r hm
  have hin : ((i : Int) == (j : Int)) = false := by simp; omega
  have hjn : ((j : Int) == (j : Int) + (d : Int)) = false := by simp; omega
  have hci : ¬ cap = i := by omega
  have hcj : ¬ cap = j := by omega
  have hcm2 : ¬ cap = i + m := by omega
  have hw1 : IntKind.i64.wrap ((i : Int) + (m : Int)) = (i : Int) + (m : Int) := by rw [IntKind.wrap_i64]; omega
  have hb1 : (0 : Int) ≤ (i : Int) + (m : Int) := by omega
  have htn : ((i : Int) + (m : Int)).toNat = i + m := by omega
  have hb5 : (i : Int) + (m : Int) ≤ (i : Int) + (m : Int) + (d : Int) := by omega
  have hb6 : (j : Int) ≤ (j : Int) + (d : Int) := by omega
  go_enter Tryd.func83, Tryd.ntmps83
  go_wp2
  go_quiet (fail)
  obtain ⟨w2, hrun2, w3, hrun3, hP⟩ := HCORE.out nq
  have HR2 : Hid _ := hrun2
  have HP : Hid _ := placed_drewN hP
  clear hP hrun2 HCORE
  go_wp2
  go_region_law (refine step_copy_eq rfl (.tmp 126) (.tmp 129) rfl rfl _ _ (by simp [Act.eval, Act.put]) (by simp [Act.eval, Act.put]) HR2.out ?_)
  go_wp2
  go_ret
  exact ⟨_, rfl, HP.out⟩

set_option maxRecDepth 100000 in
set_option maxHeartbeats 1000000 in
/-- In the middle, it opens up, and there is no room. -/
theorem replace_grow (w : World) (g d cap i j : Nat) (row : List Value) (hg : w.heap[g]? = some (.cells row.toArray 92 (0, 0))) (hij : i < j) (hd : 0 < d) (hnc : j + d ≤ cap) (hcm : cap ≤ maxLen) (hrl : row.length = cap * 2) (h1r : ∀ v ∈ row.take ((j + d) * 2), v.oneCell' = true)
    (h m c : Nat) (src : List Value) (hh : w.heap[h]? = some (.cells src.toArray 92 (0, 0))) (hm : m * 2 ≤ src.length) (h1 : ∀ v ∈ src.take (m * 2), v.oneCell' = true) (hroom : cap < i + m + d) (hb : (i + m + d) * 16 ≤ 140737488355328) :
    Calls Tryd.prog 83 #[.slice (some ⟨g, 0, none⟩) (j + d) cap, .int .i64 i, .int .i64 j, .slice (some ⟨h, 0, none⟩) m c] w fun e w' => ∃ v', e = .returned v' ∧ Placed w w' (.slice (some ⟨g, 0, none⟩) (j + d) cap) v' (i + m + d) (row.take (i * 2) ++ src.take (m * 2) ++ (row.take ((j + d) * 2)).drop (j * 2)) := by
  have hn : (src.take (m * 2)).length = m * 2 := by rw [List.length_take]; omega
  have ho : (row.take (i * 2)).length = i * 2 := by rw [List.length_take]; omega
  have hdl : ((row.take ((j + d) * 2)).drop (j * 2)).length = d * 2 := by rw [List.length_drop, List.length_take]; omega
  have hoc := row_cells hg 0 (row.take (i * 2)) (by rw [ho]; simp)
  unfold maxLen at hcm
  have hgl : g < w.heap.size := (Array.getElem?_eq_some_iff.1 hg).1
  have hhl : h < w.heap.size := (Array.getElem?_eq_some_iff.1 hh).1
  have HG : Hid _ := hg
  have HH : Hid _ := hh
  have H1 : Hid _ := h1
  have H1D : Hid (∀ v ∈ (row.take ((j + d) * 2)).drop (j * 2), v.oneCell' = true) := fun v hv => h1r v (List.mem_of_mem_drop hv)
  have HN : Hid _ := hn
  have HO : Hid _ := ho
  have HD : Hid _ := hdl
  have HOC : Hid _ := hoc
  clear hoc hn ho hdl hg hh h1 hrl h1r hm
  have hin : ((i : Int) == (j : Int)) = false := by simp; omega
  have hjn : ((j : Int) == (j : Int) + (d : Int)) = false := by simp; omega
  have hci : ¬ cap = i := by omega
  have hcj : ¬ cap = j := by omega
  have hw1 : IntKind.i64.wrap ((i : Int) + (m : Int)) = (i : Int) + (m : Int) := by rw [IntKind.wrap_i64]; omega
  have hb1 : (0 : Int) ≤ (i : Int) + (m : Int) := by omega
  have htn : ((i : Int) + (m : Int)).toNat = i + m := by omega
  have hb5 : (i : Int) + (m : Int) ≤ (i : Int) + (m : Int) + (d : Int) := by omega
  have hb6 : (j : Int) ≤ (j : Int) + (d : Int) := by omega
  go_enter Tryd.func83, Tryd.ntmps83
  go_wp2
  go_quiet (fail)
  go_wp2_with (at_builtin; refine wpList_zeros2 rfl _ _ rfl ⟨g, 0, none⟩ i cap rfl (row.take (i * 2)) HO.out HOC.out _ (m + d) rfl (by omega) (by omega) (by omega) (by omega) (i + m + d) (by omega) ?_; intro w1 cap' tail hr hc1 hc2 hl hg1)
  obtain ⟨w2, hrun, hrow, hg2⟩ := run_copy2 w1 3 (some ⟨w.heap.size, i * 2, none⟩) (some ⟨h, 0, none⟩) (i + m + d - i) (cap' - i) m c w.heap.size (i * 2) _ hr.out (src.take (m * 2)) (by rw [HN.out]; simp only [Nat.min_def]; split <;> omega)
    (fun _ => ⟨rfl, _, rfl, row_cells (heap_grown (grown_drewN hg1.out) HH.out (by simp)) 0 (src.take (m * 2)) (by rw [HN.out]; simp)⟩) (by rw [HN.out]; have := hl.out; omega) H1.out
  have HROW : Hid _ := hrow
  have HG2 : Hid _ := hg2
  clear hrow hg2
  rw [hrun]
  clear hrun
  have hci' : ¬ cap' = i + m := by omega
  obtain ⟨w3, hrun3, hrow3, hg3⟩ := run_copy2 w2.drew 3 (some ⟨w.heap.size, (i + m) * 2, none⟩) (some ⟨g, j * 2, none⟩) d (cap' - (i + m)) d (cap - j) w.heap.size ((i + m) * 2) _ HROW.out ((row.take ((j + d) * 2)).drop (j * 2))
    (by rw [HD.out]; simp only [Nat.min_def]; split <;> omega)
    (fun _ => ⟨rfl, _, rfl, row_cells (row := row) (heap_grown (grown_new (r := none) (grown_drewN hg1.out) (grown_drew HG2.out) (Nat.le_refl _)) HG.out (by simp)) (j * 2) _ (by rw [HD.out, List.drop_take]; congr 1; omega)⟩) (by rw [HD.out, length_splice _ _ _ (by rw [HN.out]; have := hl.out; omega)]; have := hl.out; omega) H1D.out
  have HROW3 : Hid _ := hrow3
  have HG3 : Hid _ := hg3
  clear hrow3 hg3
  go_wp2
  go_region_law (refine step_copy_eq rfl (.tmp 78) (.tmp 81) rfl rfl _ _ (by simp [Act.eval, Act.put]) (by simp [Act.eval, Act.put]) hrun3 ?_)
  go_wp2
  go_ret
  have e := splice_grown (row.take (i * 2)) (zeros (m + d)) tail (src.take (m * 2)) ((row.take ((j + d) * 2)).drop (j * 2)) (by rw [length_zeros, HN.out, HD.out]; omega) (i * 2) ((i + m) * 2) HO.out.symm (by rw [HO.out, HN.out]; omega)
  refine ⟨_, rfl, own_mk HROW3.out hc1 hc2 ?_ ?_, grown_any (grown_new (grown_new (r := none) (grown_drewN hg1.out) (grown_drew HG2.out) (Nat.le_refl _)) HG3.out (Nat.le_refl _)), .inr ⟨_, rfl, Nat.le_refl _⟩⟩
  · rw [e, ← hl.out]
    simp only [List.length_append, length_zeros, HN.out, HD.out]
    omega
  · rw [e]
    have hlen : (row.take (i * 2) ++ src.take (m * 2) ++ (row.take ((j + d) * 2)).drop (j * 2)).length = (i + m + d) * 2 := by simp only [List.length_append, HO.out, HN.out, HD.out]; omega
    rw [← hlen, List.take_left]

set_option maxRecDepth 100000 in
set_option maxHeartbeats 1000000 in
theorem replace_ins_nil (w : World) (v : Value) (Q : Value → World → Prop) (hI : Calls Tryd.prog 102 #[.slice none 0 0, .int .i64 0, v] w fun e w' => ∃ v', e = .returned v' ∧ Q v' w') :
    Calls Tryd.prog 83 #[.slice none 0 0, .int .i64 0, .int .i64 0, v] w fun e w' => ∃ v', e = .returned v' ∧ Q v' w' := by
  go_enter Tryd.func83, Tryd.ntmps83
  go_wp2_with fail
  refine hI.mono ?_
  rintro e w' ⟨v', rfl, hP⟩
  have HP : Hid _ := hP
  clear hP
  go_wp2
  go_ret
  exact ⟨_, rfl, HP.out⟩
set_option maxRecDepth 100000 in
set_option maxHeartbeats 1000000 in
theorem replace_ins (w : World) (g n cap i : Nat) (v : Value) (Q : Value → World → Prop) (hin : i ≤ n) (hnc : n ≤ cap) (hI : Calls Tryd.prog 102 #[.slice (some ⟨g, 0, none⟩) n cap, .int .i64 i, v] w fun e w' => ∃ v', e = .returned v' ∧ Q v' w') :
    Calls Tryd.prog 83 #[.slice (some ⟨g, 0, none⟩) n cap, .int .i64 i, .int .i64 i, v] w fun e w' => ∃ v', e = .returned v' ∧ Q v' w' := by
  have hic : (i : Int) ≤ (cap : Int) := by omega
  by_cases hci : cap = i
  · subst hci
    go_enter Tryd.func83, Tryd.ntmps83
    go_wp2_with fail
    refine hI.mono ?_
    rintro e w' ⟨v', rfl, hP⟩
    have HP : Hid _ := hP
    clear hP
    go_wp2
    go_ret
    exact ⟨_, rfl, HP.out⟩
  · go_enter Tryd.func83, Tryd.ntmps83
    go_wp2_with fail
    refine hI.mono ?_
    rintro e w' ⟨v', rfl, hP⟩
    have HP : Hid _ := hP
    clear hP
    go_wp2
    go_ret
    exact ⟨_, rfl, HP.out⟩

/-- slices.Replace, wherever. -/
theorem replace_any (w : World) (s : Value) (n : Nat) (xs : List Value) (own : w.ownsRow 0 92 2 s n xs) (h1x : ∀ v ∈ xs, v.oneCell' = true) (i j : Nat) (hij : i ≤ j) (hj : j ≤ n)
    (h m c : Nat) (src : List Value) (hne : s.ownBlock ≠ some h) (hh : w.heap[h]? = some (.cells src.toArray 92 (0, 0))) (hm : m * 2 ≤ src.length) (h1 : ∀ v ∈ src.take (m * 2), v.oneCell' = true) (h0 : i = j → 0 < m) (hb : (n + m) * 16 ≤ 140737488355328) :
    Calls Tryd.prog 83 #[s, .int .i64 i, .int .i64 j, .slice (some ⟨h, 0, none⟩) m c] w fun e w' => ∃ v', e = .returned v' ∧ Placed w w' s v' (i + m + (n - j)) (xs.take (i * 2) ++ src.take (m * 2) ++ xs.drop (j * 2)) := by
  by_cases hij' : i = j
  · subst hij'
    have hI := insert_any w s n xs own h1x i hj h m c src hne hh hm h1 (h0 rfl) hb
    rw [show n + m = i + m + (n - i) by omega] at hI
    obtain ⟨hlen, ⟨rfl, rfl⟩ | ⟨g, cap, cur, rfl, _, hg, hnc, hcm, hcs, htk⟩⟩ := own
    · obtain rfl : i = 0 := by omega
      exact replace_ins_nil w _ _ hI
    · exact replace_ins w g n cap i _ _ hj hnc hI
  · obtain ⟨hlen, ⟨rfl, rfl⟩ | ⟨g, cap, cur, rfl, _, hg, hnc, hcm, hcs, htk⟩⟩ := own
    · omega
    · have hg' : w.heap[g]? = some (.cells cur.toList.toArray 92 (0, 0)) := by simpa using hg
      have hrl : cur.toList.length = cap * 2 := by simpa using hcs
      have hne' : h ≠ g := fun e => hne (by rw [e]; rfl)
      subst htk
      rw [List.take_take, show min (i * 2) (n * 2) = i * 2 by omega]
      by_cases hjn : j = n
      · subst hjn
        have hdr : (cur.toList.take (j * 2)).drop (j * 2) = [] := by apply List.drop_eq_nil_of_le; simp; omega
        rw [hdr, List.append_nil, show i + m + (j - j) = i + m by omega]
        by_cases hroom : i + m ≤ cap
        · exact replace_tail_room w g j cap i _ hg' (by omega) hnc hcm hrl h m c src hh hm h1 hroom
        · exact replace_tail_grow w g j cap i _ hg' (by omega) hnc hrl h m c src hh hm (by omega) (by omega)
      · obtain ⟨d, rfl⟩ : ∃ d, n = j + d := ⟨n - j, by omega⟩
        rw [show j + d - j = d by omega]
        by_cases hroom : i + m + d ≤ cap
        · by_cases hmj : i + m ≤ j
          · exact replace_close w g d cap i j _ hg' (by omega) (by omega) hnc hcm hrl h1x h m c src hh hm h1 hmj
          · exact replace_open w g d cap i j _ hg' (by omega) (by omega) hnc hcm hrl h1x h m c src hne' hh hm h1 (by omega) hroom
        · exact replace_grow w g d cap i j _ hg' (by omega) (by omega) hnc hcm hrl h1x h m c src hh hm h1 (by omega) (by omega)

end Go.Proofs.YtaklbofbhanjgaaDoor
