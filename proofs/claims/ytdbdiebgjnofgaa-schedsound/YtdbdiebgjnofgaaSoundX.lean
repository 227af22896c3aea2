import Derived.Test.YtdbdiebgjnofgaaSound0
import Derived.Deep.CutRange
namespace Go.Proofs.Ytdbdiebgjnofgaa
open Go.RowKit Go.Maps Go.Sort
set_option maxRecDepth 100000

/-- What the law keeps in a round. -/
structure SV (w wr : World) (kd s N z : Nat) (V : Vw) : Prop where
  b : Below w.heap.size w wr
  sc : ScAt w wr kd s N
  v : Row wr z V.cells 28
theorem SV.kept {w wr w' : World} {kd s N z : Nat} {V : Vw} (h : SV w wr kd s N z V) (hb : Below wr.heap.size wr w') : SV w w' kd s N z V := ⟨h.b.trans (hb.mono h.b.size), h.sc.kept hb, h.v.kept hb h.v.lt⟩
theorem SV.fr {w wr w' : World} {kd s N z : Nat} {V : Vw} (h : SV w wr kd s N z V) (hs : ScAt w w' kd s N) (hf : Fr (fun k => w.heap.size ≤ k ∧ k < N) wr w') (hz : N ≤ z) : SV w w' kd s N z V :=
  ⟨h.b.trans (hf.below (fun _ e => e.1) h.b.size), hs, hf.row h.v (fun e => by omega)⟩
theorem any_take_succ (T : Pv → Bool) (L : List Pv) (k : Nat) (hk : k < L.length) : (L.take (k + 1)).any T = ((L.take k).any T || T L[k]) := by
  rw [List.take_succ_eq_append_getElem hk, List.any_append]; simp
def VwsAt (w : World) (a : Option Addr) (L : List Vw) : Prop := ∀ k (h : k < L.length), ∃ g o, a = some ⟨g, o, none⟩ ∧ ∀ j u, L[k].cells[j]? = some u → w.cell? ⟨g, o + k * 9 + j, none⟩ = some u
set_option maxHeartbeats 8000000 in
theorem sound_any {w : World} {aw : Option Addr} {cw : Nat} {ws : List Int} (hS : SrcAt w 1 (.slice aw ws.length cw) ws.length (icells ws)) (hl : ws.length * 8 ≤ 140737488355328) (x0 : Int) {av : Option Addr} {cv : Nat} {Vs : List Vw} (hA : VwsAt w av Vs) (hI : ∀ V ∈ Vs, VwIn w V) (hv : Vs.length ≤ 1353245080300) :
    Calls Try.prog 7 #[.int .i64 x0, .slice aw ws.length cw, .slice av Vs.length cv] w fun e w' => e = .returned (.bool true) ∧ Below w.heap.size w w' := by
  obtain ⟨b01, b02⟩ := tmod_bd x0 4 (by decide)
  generalize hm0 : (IntKind.u64.wrap x0).tmod 4 = m0 at *
  obtain ⟨kd, hkd⟩ : ∃ kd : Nat, (kd : Int) = m0 := ⟨m0.toNat, by omega⟩
  have hk4 : kd < 4 := by omega
  have hkb : (kd : Int) ≤ 3 := by omega
  obtain ⟨M, hM⟩ : ∃ M, Vs.length = M := ⟨_, rfl⟩
  have HNEW := hid (sc_new hS hl kd hk4)
  have hMi : (M : Int) ≤ 1353245080300 := by omega
  have HA := hid hA
  have HI := hid hI
  have HM := hid hM
  rw [hM]
  clear hS hl hA hI hM hv
  rw [← hkd] at hm0
  clear hkd b01 b02
  go_enter Try.func7, Try.ntmps7
  go_upto_region 5 with (go_at_call 9; refine HNEW.out.mono ?_; rintro e w1 ⟨s, rfl, hsc, hb⟩; have HSC := hid hsc; have HB := hid hb; clear hsc hb HNEW)
  obtain ⟨N, hN⟩ : ∃ N, N = w1.heap.size := ⟨_, rfl⟩
  rw [← hN] at HSC
  have HNE := hid hN
  clear hN hm0
  go_wp2
  go_loopw [8, 9, 10, 11, 12, 13, 14, 15, 16, 17] (fun s8 _ _ _ _ _ _ _ _ _ wr => ∃ i : Nat, i ≤ M ∧ s8 = .int .i64 i ∧ Hid (Below w.heap.size w wr) ∧ Hid (ScAt w wr kd s N)) (fun s _ _ _ _ _ _ _ _ _ _ => M - (intOf s).toNat)
  case atStart => exact ⟨0, Nat.zero_le _, rfl, HB, HSC⟩
  case round =>
    obtain ⟨i, hi, rfl, HBr, HSr⟩ := hrel
    by_cases hlt : i < M
    · have hil : i < Vs.length := by have := HM.out; omega
      have hii : (i : Int) < M := by omega
      obtain ⟨g, o, rfl, hq⟩ := HA.out i hil
      obtain ⟨V, hV⟩ : ∃ V, Vs[i] = V := ⟨_, rfl⟩
      have HVI : Hid (VwIn w V) := by show VwIn w V; rw [← hV]; exact HI.out _ (List.getElem_mem hil)
      rw [hV] at hq
      obtain ⟨a, cap, L, has, want, edge, mss⟩ := V
      have q0 : wr.cell? ⟨g, o + i * 9, none⟩ = some (.slice a L.length cap) := cell_kept HBr.out (hq 0 _ rfl)
      have q1 := cell_kept HBr.out (hq 1 _ rfl)
      have q2 := cell_kept HBr.out (hq 2 _ rfl)
      have q3 := cell_kept HBr.out (hq 3 _ rfl)
      have q4 := cell_kept HBr.out (hq 4 _ rfl)
      have q5 := cell_kept HBr.out (hq 5 _ rfl)
      have q6 := cell_kept HBr.out (hq 6 _ rfl)
      have q7 := cell_kept HBr.out (hq 7 _ rfl)
      have q8 := cell_kept HBr.out (hq 8 _ rfl)
      simp only at q1 q2 q3 q4 q5 q6 q7 q8
      clear hq hV
      go_upto_region 9 with fail
      obtain ⟨z, hz⟩ : ∃ z, z = wr.heap.size := ⟨_, rfl⟩
      refine wp_world fun W HW => ?_
      have HSV : Hid (SV w W kd s N z ⟨a, cap, L, has, want, edge, mss⟩) := by
        have hb : Below wr.heap.size wr W := by rw [HW.out]; exact (Below.refl _ _).alloc (Nat.le_refl _) _
        refine ⟨HBr.out.trans (hb.mono HBr.out.size), HSr.out.kept hb, ?_⟩
        rw [HW.out, hz]; exact Row.new' _ _ _ _ _ rfl rfl
      have HZN : Hid (N ≤ z) := by show _ ≤ _; rw [hz]; exact HSr.out.2.1
      rw [← hz]
      clear HW hz q0 q1 q2 q3 q4 q5 q6 q7 q8 HBr HSr
      obtain ⟨n, hn⟩ : ∃ n, L.length = n := ⟨_, rfl⟩
      have hnb : (n : Int) ≤ 1466015503701 := by have := HVI.out.at_.few; simp only [hn] at this; omega
      have HN := hid hn
      clear hn
      go_wp2
      go_loopw [10, 11, 12, 13] (fun s10 s11 s12 s13 wq => ∃ k : Nat, k ≤ n ∧ s13 = .int .i64 k ∧ s10 = .bool ((L.take k).any (rdy L)) ∧ s11 = .bool ((L.take k).any (nex L)) ∧ s12 = .bool ((L.take k).any (ful L)) ∧ Hid (SV w wq kd s N z ⟨a, cap, L, has, want, edge, mss⟩)) (fun _ _ _ s _ => n - (intOf s).toNat)
      case atStart => exact ⟨0, Nat.zero_le _, rfl, rfl, rfl, rfl, HSV⟩
      case round =>
        obtain ⟨k, hk, rfl, rfl, rfl, rfl, HS⟩ := hrel
        have b0 : wr.cell? ⟨z, 0, none⟩ = some (.slice a n cap) := by have := HS.out.v.cell 0 _ rfl; simp only [HN.out] at this; exact this
        by_cases hlt2 : k < n
        · have hkl : k < L.length := by have := HN.out; omega
          have hki : (k : Int) < n := by omega
          as_aux_lemma =>
            obtain ⟨P, hP⟩ : ∃ P, L[k] = P := ⟨_, rfl⟩
            have h10 := any_take_succ (rdy L) L k hkl
            have h11 := any_take_succ (nex L) L k hkl
            have h12 := any_take_succ (ful L) L k hkl
            rw [hP] at h10 h11 h12
            have hca := fun (wq : World) (hb : Below w.heap.size w wq) => lcall_any (HVI.out.at_.kept hb) k hkl
            simp only [Vw.val, Vw.cells, HN.out, hP] at hca
            have HRM := hid (fun w => lroom_any w P)
            simp only [Pv.val, Pv.cells] at HRM
            obtain ⟨ga, oa, rfl⟩ : ∃ g o, a = some ⟨g, o, none⟩ := by obtain ⟨g, o, e, _⟩ := HVI.out.at_.at_.cell hkl; exact ⟨g, o, e⟩
            have HCE : Hid (∀ w', Below w.heap.size w w' → w'.cell? ⟨ga, oa + k * 12, none⟩ = some (.bool P.u) ∧ w'.cell? ⟨ga, oa + k * 12 + 1, none⟩ = some (.bool P.b) ∧ w'.cell? ⟨ga, oa + k * 12 + 2, none⟩ = some (.bool P.k) ∧ w'.cell? ⟨ga, oa + k * 12 + 3, none⟩ = some (.int .u64 P.s) ∧ w'.cell? ⟨ga, oa + k * 12 + 4, none⟩ = some (.int .i64 P.w) ∧ w'.cell? ⟨ga, oa + k * 12 + 5, none⟩ = some (.int .i64 P.i)
                ∧ w'.cell? ⟨ga, oa + k * 12 + 6, none⟩ = some (.bool P.h) ∧ w'.cell? ⟨ga, oa + k * 12 + 7, none⟩ = some (.int .u64 P.c.off) ∧ w'.cell? ⟨ga, oa + k * 12 + 8, none⟩ = some (.int .i64 P.c.len) ∧ w'.cell? ⟨ga, oa + k * 12 + 9, none⟩ = some (.bool P.c.fin) ∧ w'.cell? ⟨ga, oa + k * 12 + 10, none⟩ = some (.slice P.c.on.a P.c.on.n P.c.on.c) ∧ w'.cell? ⟨ga, oa + k * 12 + 11, none⟩ = some (.bool P.c.held)) := fun w' hb => by
              obtain ⟨g', o', e', h⟩ := (HVI.out.at_.kept hb).at_.cell hkl
              cases e'
              rw [hP] at h
              exact h
            have HB0 : Hid (∀ wq : World, Hid (SV w wq kd s N z ⟨some ⟨ga, oa, none⟩, cap, L, has, want, edge, mss⟩) → wq.cell? ⟨z, 0, none⟩ = some (.slice (some ⟨ga, oa, none⟩) n cap)) := fun wq h => by have := h.out.v.cell 0 _ rfl; simp only [HN.out] at this; exact this
            obtain ⟨hh, hhh⟩ : ∃ hh, P.h = hh := ⟨_, rfl⟩
            obtain ⟨wv, hwv⟩ : ∃ wv, decide (1 ≤ P.w) = wv := ⟨_, rfl⟩
            have HWV := hid hwv
            have HHH := hid hhh
            have e10 : rdy L P = (P.call (oth L) && P.room) := rfl
            have e11 : nex L P = (P.call (oth L) && P.room && hh) := by unfold nex; rw [hhh]
            have e12 : ful L P = (P.call (oth L) && wv && !P.room) := by unfold ful; rw [hwv]
            rw [e10] at h10
            rw [e11] at h11
            rw [e12] at h12
            generalize P.call (oth L) = cc at *
            generalize P.room = rr at *
            generalize (L.take k).any (rdy L) = x10 at *
            generalize (L.take k).any (nex L) = x11 at *
            generalize (L.take k).any (ful L) = x12 at *
            have H10 := hid h10
            have H11 := hid h11
            have H12 := hid h12
            have HCA := hid hca
            clear h10 h11 h12 hca hP e10 e11 e12 hwv hhh
            go_upto_region 15 with fail
            clear b0
            go_cut [10] from 44 to 57 (fun s10 wc => s10 = .bool (x10 || (cc && rr)) ∧ Hid (SV w wc kd s N z ⟨some ⟨ga, oa, none⟩, cap, L, has, want, edge, mss⟩))
            case first =>
              as_aux_lemma =>
                cases x10 with
                | true =>
                  go_wp2
                  go_meet
                  exact ⟨rfl, HS⟩
                | false =>
                  have b0 : _ = some (Value.slice (some ⟨ga, oa, none⟩) n cap) := HB0.out _ HS
                  have b1 := HS.out.v.cell 1 _ rfl
                  have b2 := HS.out.v.cell 2 _ rfl
                  have b3 := HS.out.v.cell 3 _ rfl
                  have b4 := HS.out.v.cell 4 _ rfl
                  have b5 := HS.out.v.cell 5 _ rfl
                  have b6 := HS.out.v.cell 6 _ rfl
                  have b7 := HS.out.v.cell 7 _ rfl
                  have b8 := HS.out.v.cell 8 _ rfl
                  simp only at b1 b2 b3 b4 b5 b6 b7 b8
                  cases cc with
                  | false =>
                    go_wp2_with (go_at_call 14; refine (HCA.out _ HS.out.b).mono ?_; rintro e w4 ⟨rfl, hb4⟩; replace HS := hid (HS.out.kept hb4); clear hb4; clear b0 b1 b2 b3 b4 b5 b6 b7 b8; have b0 : _ = some (Value.slice (some ⟨ga, oa, none⟩) n cap) := HB0.out _ HS; obtain ⟨q0, q1, q2, q3, q4, q5, q6, q7, q8, q9, q10, q11⟩ := HCE.out w4 HS.out.b)
                    go_meet
                    exact ⟨rfl, HS⟩
                  | true =>
                    go_wp2_with (first | (go_at_call 14; refine (HCA.out _ HS.out.b).mono ?_; rintro e w4 ⟨rfl, hb4⟩; replace HS := hid (HS.out.kept hb4); clear hb4; clear b0 b1 b2 b3 b4 b5 b6 b7 b8; have b0 : _ = some (Value.slice (some ⟨ga, oa, none⟩) n cap) := HB0.out _ HS; obtain ⟨q0, q1, q2, q3, q4, q5, q6, q7, q8, q9, q10, q11⟩ := HCE.out w4 HS.out.b) | (go_at_call 15; refine (HRM.out _).mono ?_; rintro e w5 ⟨rfl, hb5⟩; replace HS := hid (HS.out.kept hb5); clear hb5 q0 q1 q2 q3 q4 q5 q6 q7 q8 q9 q10 q11 b0))
                    go_meet
                    exact ⟨by first | rfl | simp, HS⟩
            case rest =>
              obtain ⟨rfl, HS2⟩ := hcut
              clear HS
              have HS := HS2
              clear HS2
              obtain ⟨y10, hy10⟩ : ∃ y, y = (x10 || (cc && rr)) := ⟨_, rfl⟩
              rw [← hy10] at H10 ⊢
              clear hy10
              go_upto_region 16 with fail
              go_cut [11] from 58 to 79 (fun s11 wc => s11 = .bool (x11 || (cc && rr && hh)) ∧ Hid (SV w wc kd s N z ⟨some ⟨ga, oa, none⟩, cap, L, has, want, edge, mss⟩))
              case first =>
                as_aux_lemma =>
                  cases x11 with
                  | true =>
                    go_wp2
                    go_meet
                    exact ⟨rfl, HS⟩
                  | false =>
                    have b0 : _ = some (Value.slice (some ⟨ga, oa, none⟩) n cap) := HB0.out _ HS
                    have b1 := HS.out.v.cell 1 _ rfl
                    have b2 := HS.out.v.cell 2 _ rfl
                    have b3 := HS.out.v.cell 3 _ rfl
                    have b4 := HS.out.v.cell 4 _ rfl
                    have b5 := HS.out.v.cell 5 _ rfl
                    have b6 := HS.out.v.cell 6 _ rfl
                    have b7 := HS.out.v.cell 7 _ rfl
                    have b8 := HS.out.v.cell 8 _ rfl
                    simp only at b1 b2 b3 b4 b5 b6 b7 b8
                    cases cc with
                    | false =>
                      go_wp2_with (go_at_call 14; refine (HCA.out _ HS.out.b).mono ?_; rintro e w4 ⟨rfl, hb4⟩; replace HS := hid (HS.out.kept hb4); clear hb4; clear b0 b1 b2 b3 b4 b5 b6 b7 b8; have b0 : _ = some (Value.slice (some ⟨ga, oa, none⟩) n cap) := HB0.out _ HS; obtain ⟨q0, q1, q2, q3, q4, q5, q6, q7, q8, q9, q10, q11⟩ := HCE.out w4 HS.out.b)
                      go_meet
                      exact ⟨rfl, HS⟩
                    | true =>
                      cases rr with
                      | false =>
                        go_wp2_with (first | (go_at_call 14; refine (HCA.out _ HS.out.b).mono ?_; rintro e w4 ⟨rfl, hb4⟩; replace HS := hid (HS.out.kept hb4); clear hb4; clear b0 b1 b2 b3 b4 b5 b6 b7 b8; have b0 : _ = some (Value.slice (some ⟨ga, oa, none⟩) n cap) := HB0.out _ HS; obtain ⟨q0, q1, q2, q3, q4, q5, q6, q7, q8, q9, q10, q11⟩ := HCE.out w4 HS.out.b) | (go_at_call 15; refine (HRM.out _).mono ?_; rintro e w5 ⟨rfl, hb5⟩; replace HS := hid (HS.out.kept hb5); clear hb5 q0 q1 q2 q3 q4 q5 q6 q7 q8 q9 q10 q11 b0; have b0 : _ = some (Value.slice (some ⟨ga, oa, none⟩) n cap) := HB0.out _ HS; obtain ⟨q0, q1, q2, q3, q4, q5, q6, q7, q8, q9, q10, q11⟩ := HCE.out w5 HS.out.b))
                        go_meet
                        exact ⟨rfl, HS⟩
                      | true =>
                        go_wp2_with (first | (go_at_call 14; refine (HCA.out _ HS.out.b).mono ?_; rintro e w4 ⟨rfl, hb4⟩; replace HS := hid (HS.out.kept hb4); clear hb4; clear b0 b1 b2 b3 b4 b5 b6 b7 b8; have b0 : _ = some (Value.slice (some ⟨ga, oa, none⟩) n cap) := HB0.out _ HS; obtain ⟨q0, q1, q2, q3, q4, q5, q6, q7, q8, q9, q10, q11⟩ := HCE.out w4 HS.out.b) | (go_at_call 15; refine (HRM.out _).mono ?_; rintro e w5 ⟨rfl, hb5⟩; replace HS := hid (HS.out.kept hb5); clear hb5 q0 q1 q2 q3 q4 q5 q6 q7 q8 q9 q10 q11 b0; have b0 : _ = some (Value.slice (some ⟨ga, oa, none⟩) n cap) := HB0.out _ HS; obtain ⟨q0, q1, q2, q3, q4, q5, q6, q7, q8, q9, q10, q11⟩ := HCE.out w5 HS.out.b))
                        go_meet
                        exact ⟨by rw [← HHH.out]; first | rfl | simp, HS⟩
              case rest =>
                obtain ⟨rfl, HS2⟩ := hcut
                clear HS
                have HS := HS2
                clear HS2
                obtain ⟨y11, hy11⟩ : ∃ y, y = (x11 || (cc && rr && hh)) := ⟨_, rfl⟩
                rw [← hy11] at H11 ⊢
                clear hy11
                go_upto_region 17 with fail
                cases x12 with
                | true =>
                  go_wp2
                  go_roundw
                  case rel => exact ⟨k + 1, hlt2, by go_num, by rw [H10.out], by rw [H11.out], by rw [H12.out]; first | rfl | simp, HS⟩
                  case measure => simp [intOf]; omega
                | false =>
                  have b0 : _ = some (Value.slice (some ⟨ga, oa, none⟩) n cap) := HB0.out _ HS
                  have b1 := HS.out.v.cell 1 _ rfl
                  have b2 := HS.out.v.cell 2 _ rfl
                  have b3 := HS.out.v.cell 3 _ rfl
                  have b4 := HS.out.v.cell 4 _ rfl
                  have b5 := HS.out.v.cell 5 _ rfl
                  have b6 := HS.out.v.cell 6 _ rfl
                  have b7 := HS.out.v.cell 7 _ rfl
                  have b8 := HS.out.v.cell 8 _ rfl
                  simp only at b1 b2 b3 b4 b5 b6 b7 b8
                  cases cc with
                  | false =>
                    go_wp2_with (go_at_call 14; refine (HCA.out _ HS.out.b).mono ?_; rintro e w4 ⟨rfl, hb4⟩; replace HS := hid (HS.out.kept hb4); clear hb4; clear b0 b1 b2 b3 b4 b5 b6 b7 b8; have b0 : _ = some (Value.slice (some ⟨ga, oa, none⟩) n cap) := HB0.out _ HS; obtain ⟨q0, q1, q2, q3, q4, q5, q6, q7, q8, q9, q10, q11⟩ := HCE.out w4 HS.out.b)
                    go_roundw
                    case rel => exact ⟨k + 1, hlt2, by go_num, by rw [H10.out], by rw [H11.out], by rw [H12.out]; first | rfl | simp, HS⟩
                    case measure => simp [intOf]; omega
                  | true =>
                    by_cases hw1 : 1 ≤ P.w
                    · have HWE : Hid (wv = true) := by show _ = _; rw [← HWV.out]; simpa using hw1
                      go_wp2_with (first | (go_at_call 14; refine (HCA.out _ HS.out.b).mono ?_; rintro e w4 ⟨rfl, hb4⟩; replace HS := hid (HS.out.kept hb4); clear hb4; clear b0 b1 b2 b3 b4 b5 b6 b7 b8; have b0 : _ = some (Value.slice (some ⟨ga, oa, none⟩) n cap) := HB0.out _ HS; obtain ⟨q0, q1, q2, q3, q4, q5, q6, q7, q8, q9, q10, q11⟩ := HCE.out w4 HS.out.b) | (go_at_call 15; refine (HRM.out _).mono ?_; rintro e w5 ⟨rfl, hb5⟩; replace HS := hid (HS.out.kept hb5); clear hb5 q0 q1 q2 q3 q4 q5 q6 q7 q8 q9 q10 q11 b0; have b0 : _ = some (Value.slice (some ⟨ga, oa, none⟩) n cap) := HB0.out _ HS; obtain ⟨q0, q1, q2, q3, q4, q5, q6, q7, q8, q9, q10, q11⟩ := HCE.out w5 HS.out.b))
                      go_roundw
                      case rel => exact ⟨k + 1, hlt2, by go_num, by rw [H10.out], by rw [H11.out], by rw [H12.out, HWE.out]; first | rfl | simp, HS⟩
                      case measure => simp [intOf]; omega
                    · have HWE : Hid (wv = false) := by show _ = _; rw [← HWV.out]; simpa using hw1
                      go_wp2_with (first | (go_at_call 14; refine (HCA.out _ HS.out.b).mono ?_; rintro e w4 ⟨rfl, hb4⟩; replace HS := hid (HS.out.kept hb4); clear hb4; clear b0 b1 b2 b3 b4 b5 b6 b7 b8; have b0 : _ = some (Value.slice (some ⟨ga, oa, none⟩) n cap) := HB0.out _ HS; obtain ⟨q0, q1, q2, q3, q4, q5, q6, q7, q8, q9, q10, q11⟩ := HCE.out w4 HS.out.b) | (go_at_call 15; refine (HRM.out _).mono ?_; rintro e w5 ⟨rfl, hb5⟩; replace HS := hid (HS.out.kept hb5); clear hb5 q0 q1 q2 q3 q4 q5 q6 q7 q8 q9 q10 q11 b0; have b0 : _ = some (Value.slice (some ⟨ga, oa, none⟩) n cap) := HB0.out _ HS; obtain ⟨q0, q1, q2, q3, q4, q5, q6, q7, q8, q9, q10, q11⟩ := HCE.out w5 HS.out.b))
                      go_roundw
                      case rel => exact ⟨k + 1, hlt2, by go_num, by rw [H10.out], by rw [H11.out], by rw [H12.out, HWE.out]; first | rfl | simp, HS⟩
                      case measure => simp [intOf]; omega
        · obtain rfl : k = n := by omega
          clear hlt2
          rw [List.take_of_length_le (by rw [HN.out]; exact Nat.le_refl _)]
          obtain ⟨O, hsnd, hnx⟩ := sc_next2 HS.out.sc HS.out.b HVI.out
          simp only [Vw.val, Vw.cells, HN.out] at hnx
          have b1 := HS.out.v.cell 1 _ rfl
          have b2 := HS.out.v.cell 2 _ rfl
          have b3 := HS.out.v.cell 3 _ rfl
          have b4 := HS.out.v.cell 4 _ rfl
          have b5 := HS.out.v.cell 5 _ rfl
          have b6 := HS.out.v.cell 6 _ rfl
          have b7 := HS.out.v.cell 7 _ rfl
          have b8 := HS.out.v.cell 8 _ rfl
          simp only at b1 b2 b3 b4 b5 b6 b7 b8
          have HB0 : Hid (∀ wq : World, SV w wq kd s N z ⟨a, cap, L, has, want, edge, mss⟩ → wq.cell? ⟨z, 0, none⟩ = some (.slice a k cap)) := fun wq h => by have := h.v.cell 0 _ rfl; simp only [HN.out] at this; exact this
          have k0 : (0 : Int) ≤ kd := by omega
          cases O with
          | none =>
            as_aux_lemma =>
              obtain ⟨s1, s2, s3⟩ := hsnd
              simp only [pkv] at hnx s1 s2 s3
              have HNX := hid hnx
              generalize L.any (rdy L) = cn at *
              generalize L.any (nex L) = nx at *
              generalize L.any (ful L) = fl at *
              clear hnx
              have HFIN : Hid (∀ w2, ScAt w w2 kd s N → Fr (fun k => w.heap.size ≤ k ∧ k < N) wr w2 → SV w (w2.alloc (.cells #[.int .i64 0, .int .u64 0, .int .i64 0] 36)) kd s N z ⟨a, cap, L, has, want, edge, mss⟩) := fun w2 h1 h2 => (HS.out.fr h1 h2 HZN.out).kept ((Below.refl _ _).alloc (Nat.le_refl _) _)
              go_upto_region 20 with (go_at_call 11; refine HNX.out.mono ?_; rintro e w2 ⟨rfl, hsc2, hf2⟩; have HS2 := hid (HFIN.out w2 hsc2 hf2); clear hsc2 hf2 HNX b0 b1 b2 b3 b4 b5 b6 b7 b8)
              have c1 := HS2.out.v.cell 1 _ rfl
              simp only at c1
              by_cases hkA : kd < 2
              · have e1 : decide ((kd : Int) < 2) = true := by simp; omega
                have e1' : (kd : Int) < 2 := by omega
                have e2 : ((kd : Int) == 2) = false := by simp; omega
                have e3 : ((kd : Int) == 3) = false := by simp; omega
                have s1' := s1 hkA
                clear s1 s2 s3 HFIN HS
                cases has with
                | false =>
                  go_wp2_with fail
                  go_roundw
                  case rel => exact ⟨i + 1, hlt, by go_num, hid HS2.out.b, hid HS2.out.sc⟩
                  case measure => simp [intOf]; omega
                | true =>
                  obtain rfl : cn = false := s1' rfl
                  clear s1'
                  go_wp2_with fail
                  go_roundw
                  case rel => exact ⟨i + 1, hlt, by go_num, hid HS2.out.b, hid HS2.out.sc⟩
                  case measure => simp [intOf]; omega
              · by_cases hk2 : kd = 2
                · have e1 : decide ((kd : Int) < 2) = false := by simp; omega
                  have e1' : ¬ (kd : Int) < 2 := by omega
                  have e2 : ((kd : Int) == 2) = true := by simp; omega
                  have e3 : ((kd : Int) == 3) = false := by simp; omega
                  obtain rfl : nx = false := s2 hk2
                  clear s1 s2 s3 HFIN HS hk2
                  go_wp2_with fail
                  go_roundw
                  case rel => exact ⟨i + 1, hlt, by go_num, hid HS2.out.b, hid HS2.out.sc⟩
                  case measure => simp [intOf]; omega
                · have e1 : decide ((kd : Int) < 2) = false := by simp; omega
                  have e1' : ¬ (kd : Int) < 2 := by omega
                  have e2 : ((kd : Int) == 2) = false := by simp; omega
                  have e3 : ((kd : Int) == 3) = true := by simp; omega
                  have s3' := s3 (by omega)
                  clear s1 s2 s3 HFIN HS
                  cases has with
                  | false =>
                    go_wp2_with fail
                    go_roundw
                    case rel => exact ⟨i + 1, hlt, by go_num, hid HS2.out.b, hid HS2.out.sc⟩
                    case measure => simp [intOf]; omega
                  | true =>
                    cases cn with
                    | false =>
                      go_wp2_with fail
                      go_roundw
                      case rel => exact ⟨i + 1, hlt, by go_num, hid HS2.out.b, hid HS2.out.sc⟩
                      case measure => simp [intOf]; omega
                    | true =>
                      obtain rfl : fl = true := s3' rfl rfl
                      clear s3'
                      go_wp2_with fail
                      go_roundw
                      case rel => exact ⟨i + 1, hlt, by go_num, hid HS2.out.b, hid HS2.out.sc⟩
                      case measure => simp [intOf]; omega
          | some pk =>
            as_aux_lemma =>
              obtain ⟨k2, hp, hk2l, hrd, hy2, hn2⟩ := hsnd
              obtain ⟨pp, po, pl⟩ := pk
              simp only at hp hk2l hrd hy2 hn2
              subst hp
              simp only [pkv, Pk.cells] at hnx
              have HNX := hid hnx
              clear hnx
              have HFIN : Hid (∀ w2, ScAt w w2 kd s N → Fr (fun k => w.heap.size ≤ k ∧ k < N) wr w2 → SV w (w2.alloc (.cells #[.int .i64 k2, .int .u64 po, .int .i64 pl] 36)) kd s N z ⟨a, cap, L, has, want, edge, mss⟩) := fun w2 h1 h2 => (HS.out.fr h1 h2 HZN.out).kept ((Below.refl _ _).alloc (Nat.le_refl _) _)
              go_upto_region 22 with (go_at_call 11; refine HNX.out.mono ?_; rintro e w2 ⟨rfl, hsc2, hf2⟩; have HS2 := hid (HFIN.out w2 hsc2 hf2); clear hsc2 hf2 HNX b0 b1 b2 b3 b4 b5 b6 b7 b8)
              refine wp_world fun W2 HW => ?_
              obtain ⟨y, hy⟩ : ∃ y, y = w2.heap.size := ⟨_, rfl⟩
              have HY : Hid (Row W2 y [.int .i64 k2, .int .u64 po, .int .i64 pl] 36) := by show Row _ _ _ _; rw [HW.out, hy]; exact Row.new' _ _ _ _ _ rfl rfl
              replace HS2 : Hid (SV w W2 kd s N z ⟨a, cap, L, has, want, edge, mss⟩) := by show SV _ _ _ _ _ _ _; rw [HW.out]; exact HS2.out
              rw [← hy]
              obtain ⟨P, hP⟩ : ∃ P, L[k2] = P := ⟨_, rfl⟩
              rw [pth_eq hk2l, hP] at hrd hy2
              have hca := fun (wq : World) (hb : Below w.heap.size w wq) => lcall_any (HVI.out.at_.kept hb) k2 hk2l
              simp only [Vw.val, Vw.cells, HN.out, hP] at hca
              have hcr : P.call (oth L) = true ∧ P.room = true := by unfold rdy at hrd; simpa using hrd
              rw [hcr.1] at hca
              have HCA := hid hca
              have HRM := hid (fun w => lroom_any w P)
              rw [hcr.2] at HRM
              simp only [Pv.val, Pv.cells] at HRM
              obtain ⟨ga, oa, rfl⟩ : ∃ g o, a = some ⟨g, o, none⟩ := by obtain ⟨g, o, e, _⟩ := HVI.out.at_.at_.cell hk2l; exact ⟨g, o, e⟩
              have HCE : Hid (∀ w', Below w.heap.size w w' → w'.cell? ⟨ga, oa + k2 * 12, none⟩ = some (.bool P.u) ∧ w'.cell? ⟨ga, oa + k2 * 12 + 1, none⟩ = some (.bool P.b) ∧ w'.cell? ⟨ga, oa + k2 * 12 + 2, none⟩ = some (.bool P.k) ∧ w'.cell? ⟨ga, oa + k2 * 12 + 3, none⟩ = some (.int .u64 P.s) ∧ w'.cell? ⟨ga, oa + k2 * 12 + 4, none⟩ = some (.int .i64 P.w) ∧ w'.cell? ⟨ga, oa + k2 * 12 + 5, none⟩ = some (.int .i64 P.i)
                  ∧ w'.cell? ⟨ga, oa + k2 * 12 + 6, none⟩ = some (.bool P.h) ∧ w'.cell? ⟨ga, oa + k2 * 12 + 7, none⟩ = some (.int .u64 P.c.off) ∧ w'.cell? ⟨ga, oa + k2 * 12 + 8, none⟩ = some (.int .i64 P.c.len) ∧ w'.cell? ⟨ga, oa + k2 * 12 + 9, none⟩ = some (.bool P.c.fin) ∧ w'.cell? ⟨ga, oa + k2 * 12 + 10, none⟩ = some (.slice P.c.on.a P.c.on.n P.c.on.c) ∧ w'.cell? ⟨ga, oa + k2 * 12 + 11, none⟩ = some (.bool P.c.held)) := fun w' hb => by
                obtain ⟨g', o', e', h⟩ := (HVI.out.at_.kept hb).at_.cell hk2l
                cases e'
                rw [hP] at h
                exact h
              have f1 : decide ((k2 : Int) < 0) = false := by simp
              have f2 : ¬ (k2 : Int) < 0 := by omega
              have f3 : decide (k ≤ k2) = false := by have := HN.out; simp; omega
              have f4 : ¬ k ≤ k2 := by have := HN.out; omega
              have f5 : decide ((k : Int) ≤ (k2 : Int)) = false := by have := HN.out; simp; omega
              have f6 : (k2 : Int) < k := by have := HN.out; omega
              have b0 : _ = some (Value.slice (some ⟨ga, oa, none⟩) k cap) := HB0.out _ HS2.out
              have b1 := HS2.out.v.cell 1 _ rfl
              have b2 := HS2.out.v.cell 2 _ rfl
              have b3 := HS2.out.v.cell 3 _ rfl
              have b4 := HS2.out.v.cell 4 _ rfl
              have b5 := HS2.out.v.cell 5 _ rfl
              have b6 := HS2.out.v.cell 6 _ rfl
              have b7 := HS2.out.v.cell 7 _ rfl
              have b8 := HS2.out.v.cell 8 _ rfl
              simp only at b1 b2 b3 b4 b5 b6 b7 b8
              have p0 := HY.out.cell 0 _ rfl
              have HY2 := hid hy2
              have HN2 := hid hn2
              clear hy HW hP hrd hca hcr hy2 hn2 HFIN HS
              go_upto_region 24 with (first
                | (go_at_call 14; refine (HCA.out _ HS2.out.b).mono ?_; rintro e w4 ⟨rfl, hb4⟩; replace HS2 := hid (HS2.out.kept hb4); replace HY := hid (HY.out.kept hb4 HY.out.lt); clear hb4 HCA b0 b1 b2 b3 b4 b5 b6 b7 b8 p0; have b0 : _ = some (Value.slice (some ⟨ga, oa, none⟩) k cap) := HB0.out _ HS2.out; have p0 := HY.out.cell 0 _ rfl; obtain ⟨q0, q1, q2, q3, q4, q5, q6, q7, q8, q9, q10, q11⟩ := HCE.out w4 HS2.out.b)
                | (go_at_call 15; refine (HRM.out _).mono ?_; rintro e w5 ⟨rfl, hb5⟩; replace HS2 := hid (HS2.out.kept hb5); replace HY := hid (HY.out.kept hb5 HY.out.lt); clear hb5 HRM q0 q1 q2 q3 q4 q5 q6 q7 q8 q9 q10 q11 b0 p0))
              have b0 : _ = some (Value.slice (some ⟨ga, oa, none⟩) k cap) := HB0.out _ HS2.out
              have b1 := HS2.out.v.cell 1 _ rfl
              have b2 := HS2.out.v.cell 2 _ rfl
              have b3 := HS2.out.v.cell 3 _ rfl
              have b4 := HS2.out.v.cell 4 _ rfl
              have b5 := HS2.out.v.cell 5 _ rfl
              have b6 := HS2.out.v.cell 6 _ rfl
              simp only at b1 b2 b3 b4 b5 b6
              have HS2s : Hid (w.heap.size ≤ w5.heap.size) := HS2.out.b.size
              go_upto_region 25 with fail
              refine wp_world fun W6 HW => ?_
              obtain ⟨c, hc⟩ : ∃ c, c = w5.heap.size := ⟨_, rfl⟩
              have hb6 : Below w5.heap.size w5 W6 := by rw [HW.out]; exact (Below.refl _ _).alloc (Nat.le_refl _) _
              have HCB : Hid (Row W6 c want.cells 26) := by show Row _ _ _ _; rw [HW.out, hc]; exact Row.new' _ _ _ _ _ rfl rfl
              have HS5 := HS2
              have hzl := HS2.out.v.lt
              replace HS2 := hid (HS2.out.kept hb6)
              have hyl := HY.out.lt
              have HB6 := hid hb6
              have HC5 : Hid (w5.heap.size ≤ c) := by show _ ≤ _; omega
              have nz1 : ¬ z = c := by omega
              have nz2 : ¬ c = z := by omega
              replace HY := hid (HY.out.kept hb6 HY.out.lt)
              have n1 : ¬ y = c := by omega
              have n2 : ¬ c = y := by omega
              rw [← hc]
              have HCW : Hid (w.heap.size ≤ c) := by show _ ≤ _; rw [hc]; exact HS2s.out
              clear HW hc hb6 b0 b1 b2 b3 b4 b5 b6 hyl hzl
              have b0 : _ = some (Value.slice (some ⟨ga, oa, none⟩) k cap) := HB0.out _ HS2.out
              have b1 := HS2.out.v.cell 1 _ rfl
              simp only at b1
              have p0 := HY.out.cell 0 _ rfl
              have p1 := HY.out.cell 1 _ rfl
              have p2 := HY.out.cell 2 _ rfl
              have c0 := HCB.out.cell 0 _ rfl
              have c1 := HCB.out.cell 1 _ rfl
              by_cases hk2 : kd = 2
              · have e2 : ((kd : Int) == 2) = true := by simp; omega
                obtain ⟨hh1, rfl, rfl⟩ := HY2.out hk2
                obtain ⟨q0, q1, q2, q3, q4, q5, q6, q7, q8, q9, q10, q11⟩ := HCE.out W6 HS2.out.b
                rw [hh1] at q6
                have c2 := HCB.out.cell 2 _ rfl
                have c3 := HCB.out.cell 3 _ rfl
                have c4 := HCB.out.cell 4 _ rfl
                have d0 := HCB.out.frozen 0
                have d1 := HCB.out.frozen 1
                have d2 := HCB.out.frozen 2
                have d3 := HCB.out.frozen 3
                have d4 := HCB.out.frozen 4
                clear hk2 HCE HN2 HY2
                have hgl : ga < w.heap.size := by
                  obtain ⟨g', o', e', h, _⟩ := HVI.out.at_.at_.cell hk2l
                  cases e'
                  have := World.block_lt_of_cell? w _ h
                  simpa using this
                have ng1 : ¬ ga = c := by have := HCW.out; omega
                have ng2 : ¬ c = ga := by have := HCW.out; omega
                clear hgl
                go_wp2_with fail
                go_roundw
                case rel =>
                  have hfin := HS5.out.kept (((((HB6.out.setCell (p := ⟨c, 0, none⟩) HC5.out (.int .u64 P.c.off)).setCell (p := ⟨c, 1, none⟩) HC5.out (.int .i64 P.c.len)).setCell (p := ⟨c, 2, none⟩) HC5.out (.bool P.c.fin)).setCell (p := ⟨c, 3, none⟩) HC5.out (.slice P.c.on.a P.c.on.n P.c.on.c)).setCell (p := ⟨c, 4, none⟩) HC5.out (.bool P.c.held))
                  exact ⟨i + 1, hlt, by go_num, hid hfin.b, hid hfin.sc⟩
                case measure => simp [intOf]; omega
              · have e2 : ((kd : Int) == 2) = false := by simp; omega
                obtain ⟨rfl, rfl, rfl⟩ := HN2.out hk2
                clear HCE HN2 HY2
                go_wp2_with fail
                go_roundw
                case rel => exact ⟨i + 1, hlt, by go_num, hid HS2.out.b, hid HS2.out.sc⟩
                case measure => simp [intOf]; omega
    · obtain rfl : i = M := by omega
      clear hlt
      have HAL := hid (alive_any wr)
      go_wp2_with (go_at_call 12; refine HAL.out.mono ?_; rintro e w6 ⟨rfl, hb6⟩; have HB6 := hid (HBr.out.trans (hb6.mono HBr.out.size)); clear hb6 HAL)
      go_ret
      exact ⟨rfl, HB6.out⟩
end Go.Proofs.Ytdbdiebgjnofgaa
