import Derived.Test.YtnohammflhadpaaSb1
namespace Go.Proofs.Ytnohammflhadpaa
open Go.RowKit Go.Maps Go.Sort
set_option maxRecDepth 100000

/-- A call that makes new memory at most, wherever it stands in a drawn region. -/
theorem toK {n : Nat} {args : Array Value} {v : Value} {w : World} (h : ∀ w', Below w.heap.size w w' → Calls Try.prog n args w' fun e w'' => e = .returned v ∧ Below w'.heap.size w' w'') (d : Nat) (os : Array Obj) : Calls Try.prog n args (grow (redrawn w d) os) fun e w'' => e = .returned v ∧ ∃ q : Regrown, w'' = grow (redrawn w q.d) q.os := by
  have hb := below_regrown w d os
  refine (h _ hb).mono ?_
  rintro e w' ⟨rfl, hb'⟩
  exact ⟨rfl, regrown_of_below (hb.trans (hb'.mono hb.size))⟩
set_option maxHeartbeats 1000000 in
theorem behind_any {w : World} {g o : Nat} {c : Ck} (q0 : w.cell? ⟨g, o, none⟩ = some (.int .u64 c.off)) (q1 : w.cell? ⟨g, o + 1, none⟩ = some (.slice c.a c.bs.length c.cap)) (q2 : w.cell? ⟨g, o + 2, none⟩ = some (.bool c.fin)) (h0 : 0 ≤ c.off) (h1 : c.off + c.bs.length ≤ 4611686018427387904) :
    Calls Try.prog 73 #[.pointer (some ⟨g, o, none⟩)] w fun e w' => e = .returned (.int .u64 c.behind) ∧ ∃ q, w' = w.drewN q := by
  unfold Ck.behind
  cases hf : c.fin with
  | false =>
    rw [hf] at q2
    rw [if_neg (by decide)]
    go_enter Try.func73, Try.ntmps73
    go_wp2
    go_quiet (fail)
    go_wp2
    go_ret
    exact ⟨by first | rfl | simp, nq, rfl⟩
  | true =>
    rw [hf] at q2
    rw [if_pos rfl]
    go_enter Try.func73, Try.ntmps73
    go_wp2
    go_ret
    exact ⟨by first | rfl | simp, 0, rfl⟩
def Sb.allOut (F : Sb) : Bool := F.L.all fun c => c.fin || c.out
set_option maxHeartbeats 4000000 in
theorem allOut_any {w : World} {p : Nat} {F : Sb} {a : Option Addr} {cap : Nat} (h : SbR w p F a cap) : Calls Try.prog 83 #[.pointer (some ⟨p, 0, none⟩)] w fun e w' => e = .returned (.bool F.allOut) ∧ ∃ q, w' = w.drewN q := by
  obtain ⟨N, hN⟩ : ∃ N, F.L.length = N := ⟨_, rfl⟩
  have c7 : w.cell? ⟨p, 7, none⟩ = some (.slice a N cap) := by rw [← hN]; exact h.row.cell 7 _ rfl
  have HA := hid h.ck
  have HN := hid hN
  have hnl : (N : Int) ≤ 65537 := by have := h.ok.nl; omega
  clear h hN
  go_enter Try.func83, Try.ntmps83
  go_wp2
  go_loopw [10] (fun s10 wr => ∃ i : Nat, i ≤ N ∧ s10 = .int .i64 i ∧ wr = w ∧ Hid (∀ t (ht : t < F.L.length), t < i → (F.L[t].fin || F.L[t].out) = true)) (fun s _ => N - (intOf s).toNat)
  case atStart => exact ⟨0, Nat.zero_le _, rfl, rfl, hid (fun t _ h => absurd h (Nat.not_lt_zero _))⟩
  case round =>
    obtain ⟨i, hi, rfl, rfl, HI⟩ := hrel
    by_cases hlt : i < N
    · have hil : i < F.L.length := by have := HN.out; omega
      obtain ⟨g, o, rfl, q0, q1, q2, q3, q4, q5⟩ := HA.out.cell hil
      have hii : (i : Int) < N := by omega
      cases hf : F.L[i].fin with
      | true =>
        have HI2 : Hid (∀ t (ht : t < F.L.length), t < i + 1 → (F.L[t].fin || F.L[t].out) = true) := fun t ht h => by
          by_cases e : t = i
          · subst e; rw [hf]; rfl
          · exact HI.out t ht (by omega)
        rw [hf] at q2
        clear hf HI
        go_wp2
        go_roundw
        case rel => exact ⟨i + 1, hlt, by go_num, by first | rfl | trivial, HI2⟩
        case measure => simp [intOf]; omega
      | false =>
        cases ho : F.L[i].out with
        | true =>
          have HI2 : Hid (∀ t (ht : t < F.L.length), t < i + 1 → (F.L[t].fin || F.L[t].out) = true) := fun t ht h => by
            by_cases e : t = i
            · subst e; rw [ho, hf]; rfl
            · exact HI.out t ht (by omega)
          rw [hf] at q2
          rw [ho] at q4
          clear hf ho HI
          go_wp2
          go_roundw
          case rel => exact ⟨i + 1, hlt, by go_num, by first | rfl | trivial, HI2⟩
          case measure => simp [intOf]; omega
        | false =>
          have HE : Hid (F.allOut = false) := by
            show F.allOut = false
            unfold Sb.allOut
            rw [List.all_eq_false]
            exact ⟨F.L[i], List.getElem_mem _, by rw [hf, ho]; decide⟩
          rw [hf] at q2
          rw [ho] at q4
          clear hf ho HI
          go_wp2
          go_ret
          exact ⟨by rw [HE.out]; rfl, 0, rfl⟩
    · obtain rfl : i = N := by omega
      have hii : ¬ (i : Int) < i := by omega
      go_wp2
      go_ret
      refine ⟨?_, 0, rfl⟩
      have : F.allOut = true := by
        unfold Sb.allOut
        rw [List.all_eq_true]
        intro c hc
        obtain ⟨t, ht, rfl⟩ := List.getElem_of_mem hc
        exact HI.out t ht (by have := HN.out; omega)
      rw [this]
      rfl
/-- May a chunk go out? -/
def Sb.mayGo (F : Sb) (c : Ck) : Bool := if c.fin = true then F.allOut else decide (c.behind ≤ F.edge)
set_option maxHeartbeats 2000000 in
theorem mayGo_any {w : World} {p : Nat} {F : Sb} {a : Option Addr} {cap : Nat} (h : SbR w p F a cap) {k : Nat} (hk : k < F.L.length) {g o : Nat} (ha : a = some ⟨g, o, none⟩) :
    Calls Try.prog 68 #[.pointer (some ⟨p, 0, none⟩), .pointer (some ⟨g, o + k * 6, none⟩)] w fun e w' => e = .returned (.bool (F.mayGo F.L[k])) ∧ Below w.heap.size w w' := by
  obtain ⟨g', o', e, q0, q1, q2, q3, q4, q5⟩ := h.ck.cell hk
  rw [ha] at e
  cases e
  have hok := h.ok.ck _ (List.getElem_mem hk)
  have h1 := hok.o0
  have h2 := hok.ol
  have h3 := h.ok.e1
  have HAO := hid (allOut_any h)
  have HBE := hid (toK (n := 73) (args := #[.pointer (some ⟨g, o + k * 6, none⟩)]) (v := .int .u64 F.L[k].behind) (w := w) (fun w' hb => (behind_any (cell_kept hb q0) (cell_kept hb q1) (cell_kept hb q2) h1 (by omega)).mono (by rintro e w'' ⟨rfl, q, rfl⟩; exact ⟨rfl, below_drewN (Below.refl _ _) q⟩)))
  have c5 := cell_regrown (h.row.cell 5 _ rfl)
  unfold Sb.mayGo
  clear h hok ha
  cases hf : F.L[k].fin with
  | true =>
    rw [hf] at q2
    rw [if_pos rfl]
    clear hf
    go_enter Try.func68, Try.ntmps68
    go_wp2_with (go_at_call 83; refine HAO.out.mono ?_; rintro e w1 ⟨rfl, q, rfl⟩)
    go_ret
    exact ⟨rfl, below_drewN (Below.refl _ _) q⟩
  | false =>
    rw [hf] at q2
    rw [if_neg (by decide)]
    clear hf
    generalize F.L[k].behind = be at *
    go_enter Try.func68, Try.ntmps68
    go_upto_region 3 with fail
    refine wp_region_quiet_below (by kernel_rfl) (by decide +kernel) ?_
    repeat (quiet_step (first | (go_at_call 73; exact HBE.out _ _)))
    refine wpQuiet_nil ?_
    intro _ hw'
    obtain ⟨⟨dq, osq⟩, hw''⟩ := hw'
    subst hw''
    go_wp2_with fail
    go_ret
    exact ⟨by first | rfl | simp, below_regrown w dq osq⟩
end Go.Proofs.Ytnohammflhadpaa
