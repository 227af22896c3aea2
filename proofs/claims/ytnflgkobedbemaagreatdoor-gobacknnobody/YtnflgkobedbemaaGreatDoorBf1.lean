import Derived.Test.YtnflgkobedbemaaGreatDoorBf0
namespace Go.Proofs.YtnflgkobedbemaaGreatDoor
open Go.RowKit Go.Maps Go.Sort
set_option maxRecDepth 100000

def Bf.done (F : Bf) : Bool := F.ends && decide (F.fin = F.gap)
theorem BufR.gapK {w : World} {p b : Nat} {v : Value} {F : Bf} (h : BufR w p v b F) (d : Nat) (os : Array Obj) : Calls Tryz.prog 114 #[.pointer (some ⟨p, 0, none⟩), .int .u64 F.read] (grow (redrawn w d) os) fun e w'' => e = .returned (.int .u64 F.gap) ∧ ∃ q : Regrown, w'' = grow (redrawn w q.d) q.os := by
  obtain ⟨a, cap, rfl, V⟩ := h.view
  exact Calls.regrown_of (gap_any F.read (V.kept (below_regrown _ d os)) h.ok.fit)
set_option maxHeartbeats 400000 in
theorem done_f {w : World} {p b : Nat} {v : Value} {F : Bf} (h : BufR w p v b F) (hE : F.ends = false) : Calls Tryz.prog 116 #[.pointer (some ⟨p, 0, none⟩)] w fun e w' => e = .returned (.bool false) ∧ Below w.heap.size w w' := by
  have v7 := cell_regrown (h.row.cell 7 _ rfl)
  have HN : Hid (¬ F.ends = true) := by show ¬ _; rw [hE]; simp
  clear h hE
  go_enter Tryz.func116, Tryz.ntmps116
  go_upto_region 1 with (fail)
  refine wp_region_quiet_below (by kernel_rfl) (by decide +kernel) ?_
  iterate 5 (quiet_step (fail))
  iterate 13 (refine wpQuiet_step (fun K hK => ?_); go_simp; rw [if_neg HN.out]; refine hK _ ?_; clear hK K)
  refine wpQuiet_step (fun K hK => ?_)
  go_simp
  rw [if_neg HN.out]
  refine hK _ ?_
  clear hK K
  quiet_step (fail)
  refine wpQuiet_nil ?_
  intro _ hw'
  obtain ⟨⟨dq, osq⟩, hw''⟩ := hw'
  subst hw''
  go_wp2_with fail
  go_ret
  exact ⟨rfl, below_regrown w dq osq⟩
set_option maxHeartbeats 1000000 in
theorem done_t {w : World} {p b : Nat} {v : Value} {F : Bf} (h : BufR w p v b F) (hE : F.ends = true) : Calls Tryz.prog 116 #[.pointer (some ⟨p, 0, none⟩)] w fun e w' => e = .returned (.bool (decide (F.fin = F.gap))) ∧ Below w.heap.size w w' := by
  have K1 := hid h.gapK
  have v5 := cell_regrown (h.row.cell 5 _ rfl)
  have v6 := cell_regrown (h.row.cell 6 _ rfl)
  have v7 := cell_regrown (h.row.cell 7 _ rfl)
  rw [hE] at v7
  clear h hE
  go_enter Tryz.func116, Tryz.ntmps116
  go_upto_region 1 with (fail)
  refine wp_region_quiet_below (by kernel_rfl) (by decide +kernel) ?_
  iterate 20 (quiet_step (first | (go_at_call 114; exact K1.out _ _)))
  refine wpQuiet_nil ?_
  intro _ hw'
  obtain ⟨⟨dq, osq⟩, hw''⟩ := hw'
  subst hw''
  go_wp2_with fail
  go_ret
  exact ⟨by first | rfl | simp, below_regrown w dq osq⟩
theorem done_any {w : World} {p b : Nat} {v : Value} {F : Bf} (h : BufR w p v b F) : Calls Tryz.prog 116 #[.pointer (some ⟨p, 0, none⟩)] w fun e w' => e = .returned (.bool F.done) ∧ Below w.heap.size w w' := by
  unfold Bf.done
  cases hE : F.ends with
  | false => exact done_f h hE
  | true =>
    refine (done_t h hE).mono ?_
    rintro e w' ⟨rfl, hb⟩
    exact ⟨by simp, hb⟩
end Go.Proofs.YtnflgkobedbemaaGreatDoor
