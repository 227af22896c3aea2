import Derived.Test.YtimiokbnhneggaaBf0
namespace Go.Proofs.Ytimiokbnhneggaa
open Go.RowKit Go.Maps Go.Sort
set_option maxRecDepth 100000

def Bf.done (F : Bf) : Bool := F.ends && decide (F.fin = F.gap)
theorem BufR.gapK {w : World} {p b : Nat} {v : Value} {F : Bf} (h : BufR w p v b F) (d : Nat) (os : Array Obj) : Calls Try.prog 28 #[.pointer (some ⟨p, 0, none⟩), .int .u64 F.read] (grow (redrawn w d) os) fun e w'' => e = .returned (.int .u64 F.gap) ∧ ∃ q : Regrown, w'' = grow (redrawn w q.d) q.os := by
  obtain ⟨a, cap, rfl, V⟩ := h.view
  exact Calls.regrown_of (gap_any F.read (V.kept (below_regrown _ d os)) h.ok.fit)
theorem BufR.hasK {w : World} {p b : Nat} {v : Value} {F : Bf} (h : BufR w p v b F) (d : Nat) (os : Array Obj) : Calls Try.prog 59 #[.pointer (some ⟨p, 0, none⟩), .int .u64 F.read] (grow (redrawn w d) os) fun e w'' => e = .returned (.bool (F.gap != F.read)) ∧ ∃ q : Regrown, w'' = grow (redrawn w q.d) q.os := by
  obtain ⟨a, cap, rfl, V⟩ := h.view
  exact Calls.regrown_of (has_any F.read (V.kept (below_regrown _ d os)) h.ok.fit)
set_option maxHeartbeats 400000 in
theorem done_f {w : World} {p b : Nat} {v : Value} {F : Bf} (h : BufR w p v b F) (hE : F.ends = false) : Calls Try.prog 29 #[.pointer (some ⟨p, 0, none⟩)] w fun e w' => e = .returned (.bool false) ∧ Below w.heap.size w w' := by
  have v7 := cell_regrown (h.row.cell 7 _ rfl)
  have HN : Hid (¬ F.ends = true) := by show ¬ _; rw [hE]; simp
  clear h hE
  go_enter Try.func29, Try.ntmps29
  go_upto_region 1 with (fail)
  refine wp_region_quiet_below (by kernel_rfl) (by decide +kernel) ?_
  iterate 5 (quiet_step (fail))
  iterate 13 (refine wpQuiet_step (fun K hK => ?_); go_simp; rw [if_neg HN.out]; refine hK _ ?_; clear hK K)
  refine wpQuiet_step (fun K hK => ?_)
  go_simp
  rw [if_neg HN.out]
  refine hK _ ?_
  clear hK K
  quiet_step (fail)
  refine wpQuiet_nil ?_
  intro _ hw'
  obtain ⟨⟨dq, osq⟩, hw''⟩ := hw'
  subst hw''
  go_wp2_with fail
  go_ret
  exact ⟨rfl, below_regrown w dq osq⟩
set_option maxHeartbeats 1000000 in
theorem done_t {w : World} {p b : Nat} {v : Value} {F : Bf} (h : BufR w p v b F) (hE : F.ends = true) : Calls Try.prog 29 #[.pointer (some ⟨p, 0, none⟩)] w fun e w' => e = .returned (.bool (decide (F.fin = F.gap))) ∧ Below w.heap.size w w' := by
  have K1 := hid h.gapK
  have v5 := cell_regrown (h.row.cell 5 _ rfl)
  have v6 := cell_regrown (h.row.cell 6 _ rfl)
  have v7 := cell_regrown (h.row.cell 7 _ rfl)
  rw [hE] at v7
  clear h hE
  go_enter Try.func29, Try.ntmps29
  go_upto_region 1 with (fail)
  refine wp_region_quiet_below (by kernel_rfl) (by decide +kernel) ?_
  iterate 20 (quiet_step (first | (go_at_call 28; exact K1.out _ _)))
  refine wpQuiet_nil ?_
  intro _ hw'
  obtain ⟨⟨dq, osq⟩, hw''⟩ := hw'
  subst hw''
  go_wp2_with fail
  go_ret
  exact ⟨by first | rfl | simp, below_regrown w dq osq⟩
theorem done_any {w : World} {p b : Nat} {v : Value} {F : Bf} (h : BufR w p v b F) : Calls Try.prog 29 #[.pointer (some ⟨p, 0, none⟩)] w fun e w' => e = .returned (.bool F.done) ∧ Below w.heap.size w w' := by
  unfold Bf.done
  cases hE : F.ends with
  | false => exact done_f h hE
  | true =>
    refine (done_t h hE).mono ?_
    rintro e w' ⟨rfl, hb⟩
    exact ⟨by simp, hb⟩
/-- Would too many lie apart behind a chunk? -/
def Bf.crowds (F : Bf) (off n : Int) : Bool := if off ≤ F.gap then false else decide (F.gaps < ((addL F.L (off, off + n)).length : Int) - (if F.gap ≠ F.read then 1 else 0))
set_option maxHeartbeats 4000000 in
theorem crowds_any {w : World} {p b : Nat} {v : Value} {F : Bf} (h : BufR w p v b F) (off n : Int) (h0 : 0 ≤ off) (hn : 0 ≤ n) (hx : off + n ≤ 18446744073709551615) :
    Calls Try.prog 43 #[.pointer (some ⟨p, 0, none⟩), .int .u64 off, .int .u64 n] w fun e w' => e = .returned (.bool (F.crowds off n)) ∧ Below w.heap.size w w' := by
  have H := hid h
  clear h
  have hal : (addL F.L (off, off + n)).length ≤ 66 := by
    have h1 := H.out.ok.len
    by_cases hr : (off, off + n).1 < (off, off + n).2
    · have h2 := addL_len H.out.ok.fit (off, off + n) hr
      have h3 := tch_le H.out.ok.fit (off, off + n) hr
      omega
    · unfold addL; rw [if_pos (by omega)]; omega
  have K1 := hid H.out.gapK
  have v5 := cell_regrown (H.out.row.cell 5 _ rfl)
  unfold Bf.crowds
  go_enter Try.func43, Try.ntmps43
  go_upto_region 1 with (fail)
  refine wp_region_quiet_below (by kernel_rfl) (by decide +kernel) ?_
  repeat (quiet_step (first | (go_at_call 28; exact K1.out _ _)))
  refine wpQuiet_nil ?_
  intro w1 hw'
  have hb1 : Below w.heap.size w w1 := by obtain ⟨⟨dq, osq⟩, rfl⟩ := hw'; exact below_regrown w dq osq
  clear hw' K1 v5
  by_cases hg : off ≤ F.gap
  · have HB1 := hid hb1
    clear hb1
    go_wp2_with fail
    go_ret
    exact ⟨rfl, HB1.out⟩
  · have H1 := hid (H.out.kept hb1)
    obtain ⟨a, cap, rfl, V⟩ := H1.out.view
    have hW := with_any (off, off + n) V H1.out.ok.fit
    simp only at hW
    clear V
    have HB1 := hid hb1
    clear hb1
    obtain ⟨A, hAl⟩ : ∃ A, (addL F.L (off, off + n)).length = A := ⟨_, rfl⟩
    rw [hAl] at hal hW
    have HAl := hid hAl
    clear hAl
    go_upto_region 4 with (go_at_call 58; refine hW.mono ?_; rintro e w2 ⟨rfl, hb2⟩; have HB2 := hid hb2; clear hb2 hW)
    have H2 := hid (H1.out.kept HB2.out)
    have K2 := hid H2.out.hasK
    have v5 := cell_regrown (H2.out.row.cell 5 _ rfl)
    refine wp_region_quiet_below (by kernel_rfl) (by decide +kernel) ?_
    repeat (quiet_step (first | (go_at_call 59; exact K2.out _ _)))
    refine wpQuiet_nil ?_
    intro w3 hw'
    have hb3 : Below w2.heap.size w2 w3 := by obtain ⟨⟨dq, osq⟩, rfl⟩ := hw'; exact below_regrown w2 dq osq
    clear hw' K2 v5
    have v4 := (H2.out.kept hb3).row.cell 4 _ rfl
    have HB3 := hid hb3
    clear hb3
    have g1 := H.out.ok.g1
    by_cases hz : F.gap = F.read
    · have e : (F.gap != F.read) = false := by simp [hz]
      rw [e]
      clear e
      go_wp2_with fail
      go_ret
      exact ⟨by rw [HAl.out]; simp; omega, HB1.out.trans ((HB2.out.trans (HB3.out.mono HB2.out.size)).mono HB1.out.size)⟩
    · have e : (F.gap != F.read) = true := by simp [hz]
      rw [e]
      clear e
      go_wp2_with fail
      go_ret
      exact ⟨by rw [HAl.out]; rfl, HB1.out.trans ((HB2.out.trans (HB3.out.mono HB2.out.size)).mono HB1.out.size)⟩
/-- Why a chunk is not taken; 0, if it is. -/
def Bf.refuses (F : Bf) (off n : Int) : Int :=
  if n = 0 then 82 else if F.edge < off ∨ F.edge - off < n then 83 else if F.ends = true ∧ F.fin < off + n then 84 else if F.crowds off n = true then 86 else 0
end Go.Proofs.Ytimiokbnhneggaa
