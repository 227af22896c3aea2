import Derived.Test.YtkcoabjeaoigdabAcked
namespace Go.Proofs.Ytkcoabjeaoigdab
open Go.RowKit
set_option maxRecDepth 100000

/-- So many frames of a path, one by one. -/
def ackD (n k : Nat) : Nat → (Nat → Ln) → (Nat → Ln)
  | 0, D => D
  | f + 1, D => if (D k).c < 262144 then ackD n k f (growD D n k) else D
def ackedD (D : Nat → Ln) (n : Nat) (p f : Int) : Nat → Ln := if 0 ≤ p ∧ p < n then ackD n p.toNat f.toNat D else D
theorem ackD_full {n k : Nat} {D : Nat → Ln} (h : ¬ (D k).c < 262144) : ∀ f, ackD n k f D = D
  | 0 => rfl
  | f + 1 => by show (if _ then _ else _) = _; rw [if_neg h]
theorem ackD_step {n k : Nat} {D : Nat → Ln} (h : (D k).c < 262144) (f : Nat) : ackD n k (f + 1) D = ackD n k f (growD D n k) := by show (if _ then _ else _) = _; rw [if_pos h]
set_option maxHeartbeats 1000000 in
theorem acked_in {w : World} {g n k : Nat} {D : Nat → Ln} (h : GAt w g n D) (hk : k < n) {F : Int} (hF : F ≤ 9223372036854775807) :
    Calls Try.prog 12 #[.pointer (some ⟨g, 0, none⟩), .int .i64 k, .int .i64 F] w fun e w' => e = .returned (.tuple #[]) ∧ GAt w' g n (ackD n k F.toNat D) ∧ Only [g] w w' := by
  have h8 : k < 8 := Nat.lt_of_lt_of_le hk h.le
  have HL := hid (lane_in h hk)
  have HG := hid h
  have HK := hid hk
  have HF := hid hF
  clear h hk hF
  go_enter Try.func12, Try.ntmps12
  go_upto_region 2 with (go_at_call 19; refine Calls.mono HL.out ?_; clear HL; rintro e w2 ⟨rfl, rfl⟩)
  go_loopw [2] (fun i wr => ∃ (f : Int) (D' : Nat → Ln), f ≤ 9223372036854775807 ∧ i = .int .i64 f ∧ GAt wr g n D' ∧ Only [g] w2 wr ∧ ackD n k F.toNat D = ackD n k f.toNat D') (fun i _ => (intOf i).toNat)
  case atStart => exact ⟨F, D, HF.out, rfl, HG.out, Only.refl _ _, rfl⟩
  case round =>
    obtain ⟨f, D', hf, rfl, hg, ho, he⟩ := hrel
    have HG' := hid hg
    have HO' := hid ho
    have HE := hid he
    have HFF := hid hf
    clear hg ho he HG HF
    by_cases h0 : 0 < f
    · have d0 : decide (0 < f) = true := decide_eq_true h0
      have a0 := HG'.out.cell_c h8
      by_cases hc : (D' k).c < 262144
      · have d1 : decide ((D' k).c < 262144) = true := decide_eq_true hc
        have HST := hid (ackD_step (n := n) hc (f - 1).toNat)
        have ew : wrap64 (f - 1) = f - 1 := by unfold wrap64; omega
        have HF0 := hid h0
        clear h0 hf hc
        go_wp2_with (go_at_call 21; refine (grow_any HG'.out HK.out).mono ?_; rintro e w4 ⟨rfl, h1, h2⟩; have HG4 := hid h1; have HO4 := hid h2; clear h1 h2 a0)
        go_roundw
        case rel =>
          have := HF0.out
          have := HFF.out
          refine ⟨f - 1, _, by omega, by rw [ew], HG4.out, HO'.out.trans HO4.out (fun x hx => .inl hx), ?_⟩
          rw [HE.out, ← HST.out]
          congr 1
          omega
        case measure =>
          simp only [intOf]
          have := HF0.out
          omega
      · have d1 : decide ((D' k).c < 262144) = false := decide_eq_false hc
        have HST := hid (ackD_full (n := n) hc f.toNat)
        clear h0 hf hc
        go_wp2
        refine bodyPost_end (results_none Try.results12 _ _ _) rfl ?_
        exact ⟨rfl, by rw [HE.out, HST.out]; exact HG'.out, HO'.out⟩
    · have d0 : decide (0 < f) = false := decide_eq_false h0
      have HZ : Hid (f.toNat = 0) := by show _ = _; omega
      clear h0 hf
      go_wp2
      refine bodyPost_end (results_none Try.results12 _ _ _) rfl ?_
      exact ⟨rfl, by rw [HE.out, HZ.out]; exact HG'.out, HO'.out⟩
theorem acked_any {w : World} {g n : Nat} {D : Nat → Ln} (h : GAt w g n D) (p : Int) {F : Int} (hF : F ≤ 9223372036854775807) :
    Calls Try.prog 12 #[.pointer (some ⟨g, 0, none⟩), .int .i64 p, .int .i64 F] w fun e w' => e = .returned (.tuple #[]) ∧ GAt w' g n (ackedD D n p F) ∧ Only [g] w w' := by
  by_cases hp : 0 ≤ p ∧ p < n
  · obtain ⟨k, rfl, hk, hkn⟩ := in_of hp
    have : ackedD D n k F = ackD n k F.toNat D := by unfold ackedD; rw [if_pos hp, hkn]
    rw [this]
    exact acked_in h hk hF
  · have HE : Hid (ackedD D n p F = D) := by show _ = _; unfold ackedD; rw [if_neg hp]
    have HL := hid (lane_out h (out_of hp))
    have H := hid h
    clear h hp
    go_enter Try.func12, Try.ntmps12
    go_wp2_with (go_at_call 19; refine Calls.mono HL.out ?_; rintro e w2 ⟨rfl, rfl⟩)
    refine bodyPost_ret (results_none Try.results12 _ _ _) rfl ?_
    exact ⟨rfl, by rw [HE.out]; exact H.out, Only.refl _ _⟩
theorem acked_nil {w : World} {p F : Int} : Calls Try.prog 12 #[.pointer none, .int .i64 p, .int .i64 F] w fun e w' => e = .returned (.tuple #[]) ∧ w' = w := by
  have HL := hid (lane_nil (w := w) (p := p))
  go_enter Try.func12, Try.ntmps12
  go_wp2_with (go_at_call 19; refine Calls.mono HL.out ?_; rintro e w2 ⟨rfl, rfl⟩)
  refine bodyPost_ret (results_none Try.results12 _ _ _) rfl ?_
  exact ⟨rfl, rfl⟩
end Go.Proofs.Ytkcoabjeaoigdab
