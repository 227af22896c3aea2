import Derived.Test.YtjbjaklbckhodabStops
import Derived.Test.YtjbjaklbckhodabRMinus
namespace Go.Proofs.Ytjbjaklbckhodab
open Go.RowKit
set_option maxRecDepth 100000

theorem cells_one (w : World) (r : Rg) : Cells (w.alloc (.cells #[.int .u64 r.1, .int .u64 r.2] 25)) (some ⟨w.heap.size, 0, none⟩) [r] :=
  ⟨fun _ => ⟨_, rfl, fun j v hj => box_range w 25 [.int .u64 r.1, .int .u64 r.2] j v (by simpa [flat] using hj)⟩⟩
theorem of_one {P : List Rg} (r : Rg) (h0 : 0 ≤ r.1) (h2 : r.2 ≤ 18446744073709551615) (hP : P.Perm ([r].filter fun r => decide (r.1 < r.2))) (hp : P.Pairwise (fun a b => a.1 ≤ b.1)) : ofL P = addL [] r :=
  new_of (L := [r]) (L' := [r]) (fun t ht => by rw [List.mem_singleton.1 ht]; exact ⟨h0, h2⟩) (List.Perm.refl _) hP hp

set_option maxHeartbeats 4000000 in
/-- The reference's Missing. -/
theorem rmissing_any {w : World} {a : Option Addr} {cap : Nat} {L : List Rg} (C : Cells w a L) (F : Fit L) (hf : L.length ≤ 4194304) (rl rh : Int) (h0 : 0 ≤ rl) (h1 : rl ≤ 18446744073709551615) (h2 : rh ≤ 18446744073709551615) :
    Calls Try.prog 38 #[.slice a L.length cap, .agg #[.int .u64 rl, .int .u64 rh]] w fun e w' => ∃ v, e = .returned v ∧ w'.ownsRow w.heap.size 25 2 v (missR L (rl, rh)).length (flat (missR L (rl, rh))) ∧ Below w.heap.size w w' := by
  have hbx := below_box w (.cells #[.int .u64 rl, .int .u64 rh] 25)
  have b0 := (box_cells w (.int .u64 rl) (.int .u64 rh)).1
  have b1 := (box_cells w (.int .u64 rl) (.int .u64 rh)).2
  have HLN := hid (fun k hk => missR_len F (rl, rh) h0 h1 h2 k hk)
  have HC := hid C
  have HBX := hid hbx
  have hO := of_any sorted_said (cap := 1) (cells_one (w.alloc (.cells #[.int .u64 rl, .int .u64 rh] 25)) (rl, rh)) (by simp) (fun t ht => by rw [List.mem_singleton.1 ht]; exact ⟨h0, h2⟩)
  rw [show [(rl, rh)].length = 1 from rfl] at hO
  simp only [World.size_alloc] at hO
  have HBY := hid (below_box (w.alloc (.cells #[.int .u64 rl, .int .u64 rh] 25)) (.cells #[.int .u64 rl, .int .u64 rh] 25))
  clear C hbx F
  go_enter Try.func38, Try.ntmps38
  go_wp2_with fail
  refine hO.mono ?_
  rintro e w1 ⟨v1, P, rfl, hP, hp, ho1, hb1⟩
  rw [of_one (rl, rh) h0 h2 hP hp] at ho1
  have HB1 : Hid (Below w.heap.size w w1) := (HBX.out.trans (HBY.out.mono HBX.out.size)).trans (hb1.mono (by omega))
  have HO1 : Hid (w1.ownsRow w.heap.size 25 2 v1 (missR (L.take 0) (rl, rh)).length (flat (missR (L.take 0) (rl, rh)))) := owns_mono ho1 (by omega)
  clear hP hp ho1 hb1 HBX HBY hO b0 b1
  go_wp2_with fail
  go_loopw [5, 13] (fun v i wr => ∃ k : Nat, k ≤ L.length ∧ i = .int .i64 k ∧ wr.ownsRow w.heap.size 25 2 v (missR (L.take k) (rl, rh)).length (flat (missR (L.take k) (rl, rh))) ∧ Below w.heap.size w wr) (fun _ i _ => L.length - (intOf i).toNat)
  case atStart => exact ⟨0, Nat.zero_le _, rfl, HO1.out, HB1.out⟩
  case round =>
    obtain ⟨k, hk, rfl, hown, hb⟩ := hrel
    have HB := hid hb
    have HOWN := hid hown
    clear hb hown
    by_cases hlt : k < L.length
    · have hki : (k : Int) < (L.length : Int) := by omega
      obtain ⟨ad, rfl, p1, p2⟩ := rcells_pair HC.out k hlt
      have e1 := cell_kept HB.out p1
      have e2 := cell_kept HB.out p2
      have HSN := hid (missR_snoc L k hlt (rl, rh))
      have hl := HLN.out k hk
      clear p1 p2
      generalize missR (L.take k) (rl, rh) = A at *
      generalize L[k] = x at *
      obtain ⟨xl, xh⟩ := x
      simp only at e1 e2 HSN
      rw [add_next] at e2
      obtain ⟨v, hv⟩ : ∃ v, v = u5 := ⟨_, rfl⟩
      subst hv
      have hbr := below_box wr (.cells #[.int .u64 xl, .int .u64 xh] 25)
      have q0 := (box_cells wr (.int .u64 xl) (.int .u64 xh)).1
      have q1 := (box_cells wr (.int .u64 xl) (.int .u64 xh)).2
      obtain ⟨av, cv, ev, hCA⟩ := own_cells HOWN.out
      subst ev
      have hM := rminus_any (cap := cv) (hCA.kept hbr) (by omega) xl xh
      have HBR := hid (HB.out.trans (hbr.mono HB.out.size))
      clear hCA hbr
      go_wp2_with fail
      refine hM.mono ?_
      rintro e w2 ⟨v2, rfl, ho2, hb2⟩
      have HO2 : Hid (w2.ownsRow w.heap.size 25 2 v2 (missR (L.take (k + 1)) (rl, rh)).length (flat (missR (L.take (k + 1)) (rl, rh)))) := by show World.ownsRow _ _ _ _ _ _ _; rw [HSN.out]; exact owns_mono ho2 HBR.out.size
      have HB2 := hid (HBR.out.trans (hb2.mono HBR.out.size))
      clear ho2 hb2 hM
      go_wp2_with fail
      go_roundw
      case rel => exact ⟨k + 1, hlt, by go_num, HO2.out, HB2.out⟩
      case measure => simp [intOf]; omega
    · have e : k = L.length := by omega
      subst e
      have hki : ¬ (L.length : Int) < (L.length : Int) := by omega
      rw [List.take_length] at HOWN
      go_wp2_with fail
      go_ret
      exact ⟨_, rfl, HOWN.out, HB.out⟩
end Go.Proofs.Ytjbjaklbckhodab
