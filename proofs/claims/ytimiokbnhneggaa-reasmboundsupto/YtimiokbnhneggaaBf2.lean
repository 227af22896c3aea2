import Derived.Test.YtimiokbnhneggaaBf1
namespace Go.Proofs.Ytimiokbnhneggaa
open Go.RowKit Go.Maps Go.Sort
set_option maxRecDepth 100000

theorem i50 : (Try.prog.info? 50).map (·.size) = some 2 := by kernel_rfl
theorem drewN_drewN (w : World) (a b : Nat) : (w.drewN a).drewN b = w.drewN (a + b) := by simp [World.drewN, Nat.add_assoc]
set_option maxHeartbeats 4000000 in
theorem refuses_any {w : World} {p b : Nat} {v : Value} {F : Bf} (h : BufR w p v b F) (off n : Int) (h0 : 0 ≤ off) (hn : 0 ≤ n) (hx : off ≤ 18446744073709551615) (hnx : n ≤ 18446744073709551615) :
    Calls Try.prog 22 #[.pointer (some ⟨p, 0, none⟩), .int .u64 off, .int .u64 n] w fun e w' => e = .returned (.int .i64 (F.refuses off n)) ∧ Below w.heap.size w w' := by
  have HN := hid (none_no h)
  have HE : Hid (∀ q, Calls Try.prog 17 #[.pointer (some ⟨p, 0, none⟩)] (w.drewN q) fun e w' => e = .returned (.int .u64 F.edge) ∧ ∃ q, w' = w.drewN q) := fun q => (edge_any (h.kept (below_drewN (Below.refl _ w) q))).mono fun e w' ⟨h1, q', h2⟩ => ⟨h1, q + q', by rw [h2, drewN_drewN]⟩
  have HE0 : Hid (Calls Try.prog 17 #[.pointer (some ⟨p, 0, none⟩)] w fun e w' => e = .returned (.int .u64 F.edge) ∧ ∃ q, w' = w.drewN q) := edge_any h
  have HCR : Hid (∀ q, off + n ≤ 18446744073709551615 → Calls Try.prog 43 #[.pointer (some ⟨p, 0, none⟩), .int .u64 off, .int .u64 n] (w.drewN q) fun e w' => e = .returned (.bool (F.crowds off n)) ∧ Below w.heap.size w w') := fun q hs => (crowds_any (h.kept (below_drewN (Below.refl _ w) q)) off n h0 hn hs).mono fun e w' ⟨h1, h2⟩ => ⟨h1, ⟨h2.os, h2.tape, h2.output, h2.size, h2.block⟩⟩
  have e0 : 0 ≤ F.edge := by have := h.ok.rd; have := h.ok.b0; have := h.ok.r0; unfold Bf.edge; omega
  have e1 : F.edge ≤ 9223372038000000000 := by have := h.ok.rm; have := h.ok.r1; unfold Bf.edge; omega
  have f1 : F.fin ≤ 18446744073709551615 := by have := h.ok.fin1; have := h.ok.rm; have := h.ok.r1; omega
  have f0 := h.ok.fin0
  have HC6 : Hid (∀ q, (w.drewN q).cell? ⟨p, 6, none⟩ = some (.int .u64 F.fin)) := fun q => cell_drewN (h.row.cell 6 _ rfl)
  have HC7 : Hid (∀ q, (w.drewN q).cell? ⟨p, 7, none⟩ = some (.bool F.ends)) := fun q => cell_drewN (h.row.cell 7 _ rfl)
  clear h
  unfold Bf.refuses
  generalize F.edge = E at *
  generalize F.crowds off n = C at *
  generalize F.fin = fi at *
  generalize F.ends = en at *
  by_cases hn0 : n = 0
  · rw [if_pos hn0]
    subst hn0
    go_enter Try.func22, Try.ntmps22
    go_wp2_with (go_at_call 27; refine HN.out.mono ?_; rintro e w1 ⟨rfl, rfl⟩)
    go_ret
    exact ⟨rfl, Below.refl _ _⟩
  rw [if_neg hn0]
  have hnf : (n == 0) = false := by simpa using hn0
  by_cases hg1 : E < off
  · rw [if_pos (.inl hg1)]
    go_enter Try.func22, Try.ntmps22
    go_wp2_with (first | (go_at_call 27; refine HN.out.mono ?_; rintro e w1 ⟨rfl, rfl⟩) | (go_at_call 17; refine HE0.out.mono ?_; rintro e w1 ⟨rfl, q1, rfl⟩))
    go_ret
    exact ⟨rfl, below_drewN (Below.refl _ _) q1⟩
  by_cases hg2 : E - off < n
  · rw [if_pos (.inr hg2)]
    go_enter Try.func22, Try.ntmps22
    go_wp2_with (first | (go_at_call 27; refine HN.out.mono ?_; rintro e w1 ⟨rfl, rfl⟩) | (go_at_call 17; first | (refine HE0.out.mono ?_; rintro e w1 ⟨rfl, q1, rfl⟩) | (refine (HE.out _).mono ?_; rintro e w1 ⟨rfl, q2, rfl⟩)))
    go_ret
    exact ⟨rfl, below_drewN (Below.refl _ _) q2⟩
  rw [if_neg (by omega)]
  have hs : off + n ≤ 18446744073709551615 := by omega
  by_cases hf : en = true ∧ fi < off + n
  · rw [if_pos hf]
    obtain ⟨rfl, hf⟩ := hf
    go_enter Try.func22, Try.ntmps22
    go_upto_region 7 with (first | (go_at_call 27; refine HN.out.mono ?_; rintro e w1 ⟨rfl, rfl⟩) | (go_at_call 17; first | (refine HE0.out.mono ?_; rintro e w1 ⟨rfl, q1, rfl⟩) | (refine (HE.out _).mono ?_; rintro e w1 ⟨rfl, q2, rfl⟩)))
    have c6 := HC6.out q2
    have c7 := HC7.out q2
    go_wp2_with fail
    go_ret
    exact ⟨rfl, below_drewN (Below.refl _ _) q2⟩
  rw [if_neg hf]
  cases en with
  | true =>
    have hf' : ¬ fi < off + n := fun e => hf ⟨rfl, e⟩
    clear hf
    go_enter Try.func22, Try.ntmps22
    go_upto_region 7 with (first | (go_at_call 27; refine HN.out.mono ?_; rintro e w1 ⟨rfl, rfl⟩) | (go_at_call 17; first | (refine HE0.out.mono ?_; rintro e w1 ⟨rfl, q1, rfl⟩) | (refine (HE.out _).mono ?_; rintro e w1 ⟨rfl, q2, rfl⟩)))
    have c6 := HC6.out q2
    have c7 := HC7.out q2
    have hcr := HCR.out q2 hs
    clear HC6 HC7 HE HE0 HN
    clear HCR
    cases C with
    | false =>
      go_wp2_with (go_at_call 43; refine hcr.mono ?_; rintro e w3 ⟨rfl, hb⟩; have HB := hid hb; clear hb hcr)
      go_ret
      exact ⟨rfl, HB.out⟩
    | true =>
      go_wp2_with (go_at_call 43; refine hcr.mono ?_; rintro e w3 ⟨rfl, hb⟩; have HB := hid hb; clear hb hcr)
      go_ret
      exact ⟨rfl, HB.out⟩
  | false =>
    clear hf
    go_enter Try.func22, Try.ntmps22
    go_upto_region 7 with (first | (go_at_call 27; refine HN.out.mono ?_; rintro e w1 ⟨rfl, rfl⟩) | (go_at_call 17; first | (refine HE0.out.mono ?_; rintro e w1 ⟨rfl, q1, rfl⟩) | (refine (HE.out _).mono ?_; rintro e w1 ⟨rfl, q2, rfl⟩)))
    have c6 := HC6.out q2
    have c7 := HC7.out q2
    have hcr := HCR.out q2 hs
    clear HC6 HC7 HE HE0 HN
    clear HCR
    cases C with
    | false =>
      go_wp2_with (go_at_call 43; refine hcr.mono ?_; rintro e w3 ⟨rfl, hb⟩; have HB := hid hb; clear hb hcr)
      go_ret
      exact ⟨rfl, HB.out⟩
    | true =>
      go_wp2_with (go_at_call 43; refine hcr.mono ?_; rintro e w3 ⟨rfl, hb⟩; have HB := hid hb; clear hb hcr)
      go_ret
      exact ⟨rfl, HB.out⟩
set_option maxHeartbeats 1000000 in
theorem unread_any {w : World} {p b : Nat} {v : Value} {F : Bf} (h : BufR w p v b F) (off n : Int) (h0 : 0 ≤ off) (hn : 0 ≤ n) (hs : off + n ≤ 18446744073709551615) :
    Calls Try.prog 23 #[.pointer (some ⟨p, 0, none⟩), .int .u64 off, .int .u64 n] w fun e w' => e = .returned (.agg #[.int .u64 (max off F.read), .int .u64 (off + n)]) ∧ Below w.heap.size w w' := by
  have c5 := cell_kept (below_box w (.cells #[.int .u64 0, .int .u64 0] 50)) (h.row.cell 5 _ rfl)
  clear h
  go_enter Try.func23, Try.ntmps23
  go_wp2
  refine bodyPost_ret ((Row.new' _ _ [.int .u64 (max off F.read), .int .u64 (off + n)] 50 _ rfl rfl).result Try.results23 _ rfl _ Try.underlying50 rfl i50) rfl ?_
  exact ⟨rfl, below_box _ _⟩
end Go.Proofs.Ytimiokbnhneggaa
