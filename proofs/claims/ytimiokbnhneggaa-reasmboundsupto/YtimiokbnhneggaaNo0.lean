import Derived.Test.YtimiokbnhneggaaNw
namespace Go.Proofs.Ytimiokbnhneggaa
open Go.RowKit Go.Maps Go.Sort
set_option maxRecDepth 100000

/-- A buffer that New did not give. -/
def NoB (w : World) (a : Option Addr) : Prop := a = none ∨ ∃ p, a = some ⟨p, 0, none⟩ ∧ w.cell? ⟨p, 3, none⟩ = some (.int .i64 0)
theorem NoB.kept {w w' : World} {a : Option Addr} (h : NoB w a) (hb : Below w.heap.size w w') : NoB w' a := by
  rcases h with rfl | ⟨p, rfl, hc⟩
  · exact .inl rfl
  · exact .inr ⟨p, rfl, cell_kept hb hc⟩
set_option maxHeartbeats 1000000 in
theorem none_yes {w : World} {a : Option Addr} (h : NoB w a) : Calls Try.prog 27 #[.pointer a] w fun e w' => e = .returned (.bool true) ∧ w' = w := by
  rcases h with rfl | ⟨p, rfl, hc⟩
  · go_enter Try.func27, Try.ntmps27
    go_wp2
    go_ret
    exact ⟨rfl, rfl⟩
  · go_enter Try.func27, Try.ntmps27
    go_wp2
    go_ret
    exact ⟨rfl, rfl⟩
set_option maxHeartbeats 1000000 in
theorem refuses_nb {w : World} {a : Option Addr} (h : NoB w a) (off n : Value) : Calls Try.prog 22 #[.pointer a, off, n] w fun e w' => e = .returned (.int .i64 80) ∧ w' = w := by
  have hN := none_yes h
  clear h
  go_enter Try.func22, Try.ntmps22
  go_wp2_with (go_at_call 27; refine hN.mono ?_; rintro e w1 ⟨rfl, rfl⟩)
  go_ret
  exact ⟨rfl, rfl⟩
set_option maxHeartbeats 1000000 in
theorem take_nb {w : World} {a : Option Addr} (h : NoB w a) (off : Value) (s : Option Addr) (n cap : Nat) : Calls Try.prog 11 #[.pointer a, off, .slice s n cap] w fun e w' => e = .returned (.tuple #[.int .i64 0, .int .i64 80]) ∧ w' = w := by
  have hN := fun n => refuses_nb h off n
  clear h
  go_enter Try.func11, Try.ntmps11
  go_wp2_with (go_at_call 22; refine (hN _).mono ?_; rintro e w1 ⟨rfl, rfl⟩)
  go_ret2
  exact ⟨rfl, rfl⟩
set_option maxHeartbeats 1000000 in
theorem fin_nb {w : World} {a : Option Addr} (h : NoB w a) (off : Value) : Calls Try.prog 18 #[.pointer a, off] w fun e w' => e = .returned (.int .i64 80) ∧ w' = w := by
  have hN := none_yes h
  clear h
  go_enter Try.func18, Try.ntmps18
  go_wp2_with (go_at_call 27; refine hN.mono ?_; rintro e w1 ⟨rfl, rfl⟩)
  go_ret
  exact ⟨rfl, rfl⟩
set_option maxHeartbeats 1000000 in
theorem read_nb {w : World} {a : Option Addr} (h : NoB w a) (n : Value) : Calls Try.prog 12 #[.pointer a, n] w fun e w' => e = .returned (.tuple #[.slice none 0 0, .bool false, .int .i64 80]) ∧ w' = w := by
  have hN := none_yes h
  clear h
  go_enter Try.func12, Try.ntmps12
  go_wp2_with (go_at_call 27; refine hN.mono ?_; rintro e w1 ⟨rfl, rfl⟩)
  refine bodyPost_ret (results_tmp3 Try.results12 _ _ _) rfl ?_
  exact ⟨rfl, rfl⟩
set_option maxHeartbeats 1000000 in
theorem next_nb {w : World} {a : Option Addr} (h : NoB w a) : Calls Try.prog 19 #[.pointer a] w fun e w' => e = .returned (.int .u64 0) ∧ w' = w := by
  have hN := none_yes h
  clear h
  go_enter Try.func19, Try.ntmps19
  go_wp2_with (go_at_call 27; refine hN.mono ?_; rintro e w1 ⟨rfl, rfl⟩)
  go_ret
  exact ⟨rfl, rfl⟩
set_option maxHeartbeats 1000000 in
theorem edge_nb {w : World} {a : Option Addr} (h : NoB w a) : Calls Try.prog 17 #[.pointer a] w fun e w' => e = .returned (.int .u64 0) ∧ w' = w := by
  have hN := none_yes h
  clear h
  go_enter Try.func17, Try.ntmps17
  go_wp2_with (go_at_call 27; refine hN.mono ?_; rintro e w1 ⟨rfl, rfl⟩)
  go_ret
  exact ⟨rfl, rfl⟩
theorem build47 (w : World) : (Instr.build 47 #[]).run Try.prog w = .ok (.agg #[.int .u64 0, .int .i64 0, .int .i64 0, .int .u64 0, .int .u64 0, .slice none 0 0, .int .u64 0, .bool false]) w := by kernel_rfl
theorem i47 : (Try.prog.info? 47).map (·.size) = some 8 := by kernel_rfl
set_option maxHeartbeats 1000000 in
theorem state_nb {w : World} {a : Option Addr} (h : NoB w a) : Calls Try.prog 16 #[.pointer a] w fun e w' => e = .returned (.agg #[.int .u64 0, .int .i64 0, .int .i64 0, .int .u64 0, .int .u64 0, .slice none 0 0, .int .u64 0, .bool false]) ∧ Below w.heap.size w w' := by
  have hN : ∀ W, Below w.heap.size w W → Calls Try.prog 27 #[.pointer a] W fun e w' => e = .returned (.bool true) ∧ w' = W := fun W hb => none_yes (h.kept hb)
  have HN := hid (hN _ ((Below.refl _ w).alloc (Nat.le_refl _) (.cells #[.int .u64 0, .int .i64 0, .int .i64 0, .int .u64 0, .int .u64 0, .slice none 0 0, .int .u64 0, .bool false] 47)))
  have hbd := build47
  clear h hN
  go_enter Try.func16, Try.ntmps16
  go_wp2_with (go_at_call 27; refine HN.out.mono ?_; rintro e w1 ⟨rfl, rfl⟩)
  refine bodyPost_ret ((Row.new' _ _ [.int .u64 0, .int .i64 0, .int .i64 0, .int .u64 0, .int .u64 0, .slice none 0 0, .int .u64 0, .bool false] 47 _ rfl rfl).result Try.results16 _ rfl _ Try.underlying47 rfl i47) rfl ?_
  exact ⟨rfl, (Below.refl _ w).alloc (Nat.le_refl _) _⟩
end Go.Proofs.Ytimiokbnhneggaa
