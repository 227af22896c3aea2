import Derived.Test.YtnohammflhadpaaSb24
import Derived.BigRegion
namespace Go.Proofs.Ytnohammflhadpaa
open Go.RowKit Go.Maps Go.Sort
set_option maxRecDepth 100000

set_option maxHeartbeats 1000000 in
theorem ack_no {w : World} {p : Nat} {F : Sb} {a : Option Addr} {cap : Nat} (h : SbR w p F a cap) {b : Bool} (he : Calls Try.prog 72 #[.pointer (some ⟨p, 0, none⟩)] w fun e w' => e = .returned (.bool b) ∧ Below w.heap.size w w') {v : Int} (E : Int) (hv : (if b = true then F.high + 1 else F.high) < v) :
    Calls Try.prog 18 #[.pointer (some ⟨p, 0, none⟩), .int .u64 v, .int .u64 E] w fun e w' => e = .returned (.bool false) ∧ Below w.heap.size w w' := by
  have HM := hid (most_by h he)
  have hd : decide ((if b = true then F.high + 1 else F.high) < v) = true := decide_eq_true hv
  generalize (if b = true then F.high + 1 else F.high) = m at *
  clear h he
  go_enter Try.func18, Try.ntmps18
  go_wp2_with (go_at_call 43; refine HM.out.mono ?_; rintro e w1 ⟨rfl, hb1⟩; have HB1 := hid hb1; clear hb1)
  go_ret
  exact ⟨rfl, HB1.out⟩
set_option maxHeartbeats 4000000 in
theorem ack_yes {w : World} {p : Nat} {F : Sb} {a : Option Addr} {cap : Nat} (h : SbW w p F a cap) {b : Bool} (he : Calls Try.prog 72 #[.pointer (some ⟨p, 0, none⟩)] w fun e w' => e = .returned (.bool b) ∧ Below w.heap.size w w') {v E : Int} (hE0 : 0 ≤ E) (hE1 : E ≤ 18446744073709551615) (hv : v ≤ (if b = true then F.high + 1 else F.high)) :
    Calls Try.prog 18 #[.pointer (some ⟨p, 0, none⟩), .int .u64 v, .int .u64 E] w fun e w' => e = .returned (.bool (decide (F.acked < v) || decide (F.edge < E))) ∧ ∃ n a' cap', DropL w w' p F (max F.acked v) (max F.edge E) a n a' cap' := by
  have HM := hid (most_by h.r he)
  have hm1 : (if b = true then F.high + 1 else F.high) ≤ F.end_ + 1 := by have := h.r.ok.h1; split <;> omega
  have hd : decide ((if b = true then F.high + 1 else F.high) < v) = false := decide_eq_false (by omega)
  have hnv : ¬ (if b = true then F.high + 1 else F.high) < v := by omega
  generalize (if b = true then F.high + 1 else F.high) = m at *
  have H := hid h
  have ga0 := h.r.ok.a0
  have ga1 := h.r.ok.a1
  have gg0 := h.r.ok.g0
  have gg1 := h.r.ok.g1
  have ge1 := h.r.ok.e1
  clear h he
  go_enter Try.func18, Try.ntmps18
  go_upto_region 3 with (go_at_call 43; refine HM.out.mono ?_; rintro e w1 ⟨rfl, hb1⟩; have HB1 := hid hb1; clear hb1)
  have c2 : w1.cell? ⟨p, 2, none⟩ = some (.int .u64 F.acked) := cell_kept HB1.out (H.out.r.row.cell 2 _ rfl)
  have c5 : w1.cell? ⟨p, 5, none⟩ = some (.int .u64 F.edge) := cell_kept HB1.out (H.out.r.row.cell 5 _ rfl)
  obtain ⟨N1, hN1⟩ : ∃ N1 : Bool, decide (F.acked < v) = N1 := ⟨_, rfl⟩
  obtain ⟨N2, hN2⟩ : ∃ N2 : Bool, decide (F.edge < E) = N2 := ⟨_, rfl⟩
  obtain ⟨nw, hnw⟩ : ∃ nw : Bool, (N1 || N2) = nw := ⟨_, rfl⟩
  go_cut [7] from 7 (fun s7 wx => s7 = .bool nw ∧ wx = w1)
  case first =>
    cases N1 with
    | true =>
      have hlt : F.acked < v := of_decide_eq_true hN1
      obtain rfl : true = nw := by simpa using hnw
      go_wp2_with fail
      go_meet
      exact ⟨rfl, rfl⟩
    | false =>
      have hlt : ¬ F.acked < v := of_decide_eq_false hN1
      obtain rfl : N2 = nw := by simpa using hnw
      go_wp2_with fail
      go_meet
      exact ⟨by first | rfl | rw [hN2], rfl⟩
  case rest =>
    obtain ⟨rfl, rfl⟩ := hcut
    have f2 := (H.out.r.row.kept HB1.out H.out.r.row.lt).frozen 2
    have f5 := (H.out.r.row.kept HB1.out H.out.r.row.lt).frozen 5
    have HNW : Hid ((decide (F.acked < v) || decide (F.edge < E)) = nw) := by show _ = _; rw [hN1, hN2]; exact hnw
    clear hN1 hN2 hnw hd hnv HM
    go_upto_region 4 with fail
    have hr := H.out.r.row.kept HB1.out H.out.r.row.lt
    have hfr : Fr (fun x => x = p) wc ((wc.setCell ⟨p, 2, none⟩ (.int .u64 (max F.acked v))).setCell ⟨p, 5, none⟩ (.int .u64 (max F.edge E))).drew := ⟨rfl, rfl, rfl, by simp [World.setCell, World.drew], fun x _ hn => (Below.heap_setCell _ _ _ x hn).trans (Below.heap_setCell _ _ _ x hn)⟩
    have r5 : Row ((wc.setCell ⟨p, 2, none⟩ (.int .u64 (max F.acked v))).setCell ⟨p, 5, none⟩ (.int .u64 (max F.edge E))).drew p (({F with acked := max F.acked v, edge := max F.edge E} : Sb).cells (.slice a F.L.length cap)) 74 := ⟨((hr.set 2 (.int .u64 (max F.acked v))).set 5 (.int .u64 (max F.edge E))).at_⟩
    have HD := hid (drop_any r5 ((H.out.mem.kept HB1.out).row hr hfr) H.out.r.ok (Int.le_max_left _ _) (by omega) (by omega) (by omega))
    have HFR : Hid (Fr (fun x => x = p ∨ ∃ o, a = some ⟨x, o, none⟩) w ((wc.setCell ⟨p, 2, none⟩ (.int .u64 (max F.acked v))).setCell ⟨p, 5, none⟩ (.int .u64 (max F.edge E))).drew) := (Fr.of_below HB1.out (Nat.le_refl _)).trans hfr (fun x hx => .inl (.inl hx))
    clear hr hfr r5
    go_region
    go_wp2_with (go_at_call 44; refine HD.out.mono ?_; rintro e w3 ⟨rfl, n, a3, cap3, hD3⟩; have HD3 := hid hD3; clear hD3)
    go_ret
    have D := HD3.out
    exact ⟨by rw [HNW.out]; rfl, n, a3, cap3, ⟨D.sb, HFR.out.trans D.fr (fun x hx => .inl hx), D.ap, D.le, D.old⟩⟩
end Go.Proofs.Ytnohammflhadpaa
