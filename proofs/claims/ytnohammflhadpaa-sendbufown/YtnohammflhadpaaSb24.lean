import Derived.Test.YtnohammflhadpaaSb23
import Derived.Deep.CutRange
namespace Go.Proofs.Ytnohammflhadpaa
open Go.RowKit Go.Maps Go.Sort
set_option maxRecDepth 100000

/-- What drop leaves. -/
structure DropL (w w' : World) (p : Nat) (F : Sb) (A E : Int) (a : Option Addr) (n : Nat) (a' : Option Addr) (cap' : Nat) : Prop where
  sb : SbW w' p (F.acks A E n) a' cap'
  fr : Fr (fun x => x = p ∨ ∃ o, a = some ⟨x, o, none⟩) w w'
  ap : ∀ g' o', a' = some ⟨g', o', none⟩ → ∃ o, a = some ⟨g', o, none⟩
  le : n ≤ F.L.length
  old : ∀ i (h : i < F.L.length), i < n → F.L[i].behind ≤ A

set_option maxHeartbeats 4000000 in
theorem drop_any {w : World} {p : Nat} {F : Sb} {a : Option Addr} {cap : Nat} {A E : Int} (hrow : Row w p (({F with acked := A, edge := E} : Sb).cells (.slice a F.L.length cap)) 74) (hM : SbM w p F.L a cap) (ok : F.Ok) (hA0 : F.acked ≤ A) (hA1 : A ≤ F.end_ + 1) (hE0 : 0 ≤ E) (hE1 : E ≤ 18446744073709551615) :
    Calls Try.prog 44 #[.pointer (some ⟨p, 0, none⟩)] w fun e w' => e = .returned (.tuple #[]) ∧ ∃ n a' cap', DropL w w' p F A E a n a' cap' := by
  obtain ⟨N, hN⟩ : ∃ N, F.L.length = N := ⟨_, rfl⟩
  have c7 : w.cell? ⟨p, 7, none⟩ = some (.slice a N cap) := by rw [← hN]; exact hrow.cell 7 _ rfl
  have c2 : w.cell? ⟨p, 2, none⟩ = some (.int .u64 A) := hrow.cell 2 _ rfl
  have HR := hid hrow
  have HM := hid hM
  have HOK := hid ok
  have HN := hid hN
  have hnl : (N : Int) ≤ 65537 := by have := ok.nl; omega
  have hcap : N ≤ cap := by have := hM.lc; omega
  have hcm : (cap : Int) ≤ 9223372036854775807 := by have := hM.cm; unfold maxLen at this; omega
  clear hrow hM ok hN
  go_enter Try.func44, Try.ntmps44
  go_wp2_with fail
  go_loopw [2] (fun s2 wr => ∃ n : Nat, n ≤ N ∧ s2 = .int .i64 n ∧ Below w.heap.size w wr ∧ Hid (∀ i (h : i < F.L.length), i < n → F.L[i].behind ≤ A)) (fun s _ => N - (intOf s).toNat)
  case atStart => exact ⟨0, Nat.zero_le _, rfl, Below.refl _ _, hid (fun i _ h => absurd h (Nat.not_lt_zero _))⟩
  case round =>
    obtain ⟨n, hn, rfl, hb, HI⟩ := hrel
    have HB := hid hb
    have k7 := cell_regrown (cell_kept hb c7)
    have k2 := cell_regrown (cell_kept hb c2)
    have e7 := cell_kept hb c7
    have HE7 := hid e7
    clear hb e7
    obtain ⟨B, hB⟩ : ∃ B : Bool, (B = true ↔ ∃ h : n < F.L.length, F.L[n].behind ≤ A) := ⟨decide (∃ h : n < F.L.length, F.L[n].behind ≤ A), by simp⟩
    have HBB := hid hB
    clear hB
    go_upto_region 1 with fail
    go_cut [23] from 3 to 25 (fun s23 wx => s23 = .bool B ∧ Below wr.heap.size wr wx)
    case first =>
      by_cases hlt : n < N
      · have hil : n < F.L.length := by have := HN.out; omega
        have hii : (n : Int) < N := by omega
        obtain ⟨g, o, rfl, q0, q1, q2, _⟩ := HM.out.ck.cell hil
        have ho := HOK.out.ck _ (List.getElem_mem hil)
        have HBE := hid (toK (n := 73) (args := #[.pointer (some ⟨g, o + n * 6, none⟩)]) (v := .int .u64 F.L[n].behind) (w := wr) (fun w' hb => (behind_any (cell_kept hb (cell_kept HB.out q0)) (cell_kept hb (cell_kept HB.out q1)) (cell_kept hb (cell_kept HB.out q2)) ho.o0 (by have := ho.ol; have := HOK.out.e1; omega)).mono (by rintro e w'' ⟨rfl, q, rfl⟩; exact ⟨rfl, below_drewN (Below.refl _ _) q⟩)))
        have hBd : decide (F.L[n].behind ≤ A) = B := by
          have := HBB.out
          cases B with
          | true => exact decide_eq_true (this.1 rfl).2
          | false => exact decide_eq_false (fun h => by have := this.2 ⟨hil, h⟩; simp at this)
        generalize F.L[n].behind = be at *
        clear q0 q1 q2 ho
        refine wp_region_quiet_below (by kernel_rfl) (by decide +kernel) ?_
        iterate 21 (quiet_step (first | (go_at_call 73; exact HBE.out _ _)))
        refine wpQuiet_nil ?_
        intro _ hw'
        obtain ⟨⟨dq, osq⟩, hw''⟩ := hw'
        subst hw''
        go_wp2_with fail
        go_meet
        exact ⟨rfl, below_regrown wr dq osq⟩
      · have hii : ¬ (n : Int) < N := by omega
        have hBf : B = false := by
          have h1 := HBB.out
          have h2 := HN.out
          cases B with
          | true => have := (h1.1 rfl).1; omega
          | false => rfl
        subst hBf
        refine wp_region_quiet_below (by kernel_rfl) (by decide +kernel) ?_
        have hd : decide ((n : Int) < N) = false := decide_eq_false hii
        have hd2 : decide (n < N) = false := decide_eq_false hlt
        iterate 8 (quiet_step (fail))
        iterate 12 go_big_quiet_skip
        iterate 1 (quiet_step (fail))
        refine wpQuiet_nil ?_
        intro _ hw'
        obtain ⟨⟨dq, osq⟩, hw''⟩ := hw'
        subst hw''
        go_wp2_with fail
        go_meet
        exact ⟨rfl, below_regrown wr dq osq⟩
    case rest =>
      obtain ⟨rfl, hbx⟩ := hcut
      have HX := hid (HB.out.trans (hbx.mono HB.out.size))
      clear hbx HB
      cases B with
      | true =>
        obtain ⟨hil, hle⟩ := HBB.out.1 rfl
        have HI2 : Hid (∀ i (h : i < F.L.length), i < n + 1 → F.L[i].behind ≤ A) := fun i h hi => by
          by_cases e : i = n
          · subst e; exact hle
          · exact HI.out i h (by omega)
        have hnN : n + 1 ≤ N := by have := HN.out; omega
        clear hle HI HBB
        go_wp2_with fail
        go_roundw
        case rel => exact ⟨n + 1, hnN, by go_num, HX.out, HI2⟩
        case measure => simp [intOf]; omega
      | false =>
        have HNX : Hid (∀ h : n < F.L.length, A < F.L[n].behind) := fun h => by
          have := HBB.out
          by_cases hc : A < F.L[n].behind
          · exact hc
          · have := this.2 ⟨h, by omega⟩
            simp at this
        have hnl' : n ≤ F.L.length := by have := HN.out; omega
        obtain ⟨w1, hcl, hf1, hM1⟩ := (HM.out.kept HX.out).clear (HR.out.kept HX.out HR.out.lt) hnl'
        have hr1 := hf1.row (HR.out.kept HX.out HR.out.lt) (fun h => h.1 rfl)
        have c7x := cell_kept HX.out c7
        have c71 : w1.cell? ⟨p, 7, none⟩ = some (.slice a N cap) := by rw [← HN.out]; exact hr1.cell 7 _ rfl
        have f71 := hr1.frozen 7
        have HFIN : Hid (∀ a', (∀ g o, a = some ⟨g, o, none⟩ → n < cap → a' = some ⟨g, o + n * 6, none⟩) → (∀ g' o', a' = some ⟨g', o', none⟩ → ∃ o, a = some ⟨g', o, none⟩) → DropL w (w1.setCell ⟨p, 7, none⟩ (.slice a' (N - n) (cap - n))) p F A E a n a' (cap - n)) := fun a' h1 h2 => by
          have hf2 : Fr (fun x => x = p) w1 (w1.setCell ⟨p, 7, none⟩ (.slice a' (N - n) (cap - n))) := ⟨rfl, rfl, rfl, by simp [World.setCell], fun x _ hn => Below.heap_setCell _ _ _ x hn⟩
          have m2 := (hM1 a' h1 h2).row hr1 hf2
          have r2 := hr1.set 7 (.slice a' (N - n) (cap - n))
          have el : (F.acks A E n).L.length = N - n := by show (F.L.drop n).length = _; rw [List.length_drop, HN.out]
          refine ⟨SbM.sb (F := F.acks A E n) m2 (by rw [el]; exact r2) (Sb.acks_ok HOK.out hA0 hA1 hE0 hE1 HNX.out), ?_, h2, hnl', HI.out⟩
          have f1 : Fr (fun x => x = p ∨ ∃ o, a = some ⟨x, o, none⟩) w wc := Fr.of_below HX.out (Nat.le_refl _)
          exact (f1.trans hf1 (fun x hx => .inl (.inr hx.2))).trans hf2 (fun x hx => .inl (.inl hx))
        clear hf1 hM1 hr1 HBB
        have hni : (n : Int) ≤ N := by omega
        have hnc : (n : Int) ≤ cap := by omega
        have hNc : (N : Int) ≤ cap := by omega
        go_wp2_with fail
        · refine bodyPost_end (results_none Try.results44 _ _ _) rfl ?_
          have hz : cap - n = 0 := by omega
          have := HFIN.out a (fun g o _ h => by omega) (fun g' o' e => ⟨o', e⟩)
          rw [hz] at this
          exact ⟨rfl, n, _, _, this⟩
        · refine bodyPost_end (results_none Try.results44 _ _ _) rfl ?_
          refine ⟨rfl, n, _, _, HFIN.out _ ?_ ?_⟩
          · rintro g o rfl _
            simp only [Option.map_some, Addr.add_lit]
          · intro g' o' e
            rcases HM.out.own with e0 | ⟨g, o, arr, rfl, _⟩
            · omega
            · simp only [Option.map_some, Addr.add_lit, Option.some.injEq, Addr.mk.injEq] at e
              exact ⟨o, by rw [e.1]⟩
end Go.Proofs.Ytnohammflhadpaa
