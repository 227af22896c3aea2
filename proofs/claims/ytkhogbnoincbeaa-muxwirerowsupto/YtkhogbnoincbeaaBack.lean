import Derived.Test.YtkhogbnoincbeaaPu2
import Derived.Test.YtkhogbnoincbeaaDec0
import Derived.Test.YtkhogbnoincbeaaREnc
import Derived.Test.YtkhogbnoincbeaaWrites
import Derived.Lib.SlBytesConst
namespace Go.Proofs.Ytkhogbnoincbeaa
open Go.RowKit Go.Maps Go.Sort
set_option maxRecDepth 100000

theorem lfit_any (w : World) (k s n c h : Int) (a : Option Addr) (bs : List (BitVec 8)) (L cap : Nat) (hB : BytesAt w a bs) (hL : bs.length = L) (hz : a = none → cap = 0) (hs0 : 0 ≤ s) (hn0 : 0 ≤ n) :
    Calls Try.prog 18 #[.agg #[.int .i64 k, .int .u64 s, .int .u64 n, .int .i64 c, .int .i64 h, .slice a L cap]] w fun e w' => e = .returned (.bool (decide (faultI k s n c h bs.length = 0))) ∧ Below w.heap.size w w' := by
  have HX := hid (below_new w (.cells #[.int .i64 k, .int .u64 s, .int .u64 n, .int .i64 c, .int .i64 h, .slice a L cap] 25))
  have HR := hid (rencode_any _ k s n c h a bs L cap (hB.kept HX.out) hL hz hs0 hn0)
  clear hB hL hz
  go_enter Try.func18, Try.ntmps18
  go_wp2_with (go_at_call 11; refine HR.out.mono ?_; rintro e w1 ⟨v1, rfl, ho1, hb1⟩; have HB1 := hid (HX.out.trans (hb1.mono HX.out.size)); clear hb1 ho1)
  go_ret
  exact ⟨ret_b (by simp), HB1.out⟩
theorem bytes_marked (w : World) : BytesAt (w.alloc (.cells #[.int .u8 97, .int .u8 98] 5 (2, 3))) (some ⟨w.heap.size, 0, none⟩) [97#8, 98#8] := by
  intro k hk
  refine ⟨w.heap.size, 0, rfl, ?_⟩
  have h2 : k = 0 ∨ k = 1 := by simp at hk; omega
  rcases h2 with rfl | rfl
  · rw [cell_of_row _ w.heap.size _ #[.int .u8 97, .int .u8 98] 5 (2, 3) (heap_alloc_last w _)]; rfl
  · rw [cell_of_row _ w.heap.size _ #[.int .u8 97, .int .u8 98] 5 (2, 3) (heap_alloc_last w _)]; rfl
theorem cv2 (w : World) : (convert 23 23 (.slice (some ⟨w.heap.size, 0, none⟩) 2 2)).run Try.prog (w.alloc (.cells #[.int .u8 97, .int .u8 98] 5)) = .ok (.slice (some ⟨w.heap.size, 0, none⟩) 2 2) (w.alloc (.cells #[.int .u8 97, .int .u8 98] 5 (2, 3))) := Lib.run_convert_bytes_const (P := Try.prog) w 23 5 #[.int .u8 97, .int .u8 98] 2 2 Try.underlying23 Try.underlying5
set_option maxHeartbeats 1000000 in
theorem awake_any (w : World) : Calls Try.prog 17 #[] w fun e w' => e = .returned (.bool true) ∧ Below w.heap.size w w' := by
  have HE := hid (encode_any (w.alloc (.cells #[.int .u8 97, .int .u8 98] 5 (2, 3))) 2 1 0 0 0 (some ⟨w.heap.size, 0, none⟩) [97#8, 98#8] 2 2 (bytes_marked w) rfl (fun e => by cases e) (by decide) (by decide))
  have HX := hid (below_new w (.cells #[.int .u8 97, .int .u8 98] 5 (2, 3)))
  have HO : Hid (encO 2 1 0 0 0 [97#8, 98#8] = [2#8, 1#8, 2#8, 97#8, 98#8]) := by
    show _ = _
    have hn1 : numB 1 = [1#8] := numB_small (by decide)
    have hn2 : numB 2 = [2#8] := numB_small (by decide)
    have hf : faultI 2 1 0 0 0 2 = 0 := by decide
    unfold encO
    rw [show [97#8, 98#8].length = 2 from rfl, if_pos hf]
    unfold encB
    rw [if_pos (by decide), if_neg (by decide), if_pos rfl, show (1 : Int).toNat = 1 from rfl, hn1, show [97#8, 98#8].length = 2 from rfl, hn2]
    rfl
  have HFA : Hid (faultI 2 1 0 0 0 [97#8, 98#8].length = 0) := by show _ = _; decide
  have hcv := cv2 w
  go_enter Try.func17, Try.ntmps17
  go_upto_region 2 with (go_at_call 10; refine HE.out.mono ?_; rintro e w1 ⟨v1, rfl, ho1, hb1⟩; rw [HO.out] at ho1; rw [HFA.out]; obtain ⟨a1, c1, rfl, hB1, -⟩ := ownBy_shape ho1; have HA1 := hid hB1; have HB1 := hid hb1; clear ho1 hb1 hB1)
  have hs : (convert 23 9 (.slice a1 5 c1)).run Try.prog w1 = .ok (.string ⟨#[2, 1, 2, 97, 98]⟩) w1 := convert_any (cap := c1) HA1.out rfl
  clear hcv
  go_wp2
  go_ret
  exact ⟨rfl, HX.out.trans (HB1.out.mono HX.out.size)⟩
theorem enc_len {k s n c h : Int} {bs : List (BitVec 8)} (hs0 : 0 ≤ s) (hn0 : 0 ≤ n) (hf : faultI k s n c h bs.length = 0) : (encB k s n c h bs).length ≤ 32768 := by
  obtain ⟨_, hb, hl, _, _⟩ := faultI_zero hf
  unfold Big at hb
  have h1 : (numB s.toNat).length ≤ 9 := numB_len 8 _ (by omega)
  have h2 : (numB n.toNat).length ≤ 9 := numB_len 8 _ (by omega)
  have h3 : (numB bs.length).length ≤ 9 := numB_len 8 _ (by omega)
  unfold encB
  simp only [List.length_cons, List.length_append]
  have e1 : (if HasS k then numB s.toNat else []).length ≤ 9 := by
    split
    · omega
    · simp
  have e2 : (if k = 1 then [by8 c, by8 h] else if k = 2 then numB bs.length ++ bs else if HasN k then numB n.toNat else []).length ≤ 16400 := by
    split
    · simp
    · split
      · simp; omega
      · split
        · omega
        · simp
  omega
set_option maxHeartbeats 4000000 in
theorem back_law (w : World) (k s n c h : Int) (a a2 : Option Addr) (bs ms : List (BitVec 8)) (L cap M cap2 : Nat) (hB : BytesAt w a bs) (hL : bs.length = L) (hz : a = none → cap = 0) (hs0 : 0 ≤ s) (hn0 : 0 ≤ n) (hB2 : BytesAt w a2 ms) (hM : ms.length = M) (hz2 : a2 = none → cap2 = 0) (hm : M ≤ 1048576) :
    Calls Try.prog 5 #[.agg #[.int .i64 k, .int .u64 s, .int .u64 n, .int .i64 c, .int .i64 h, .slice a L cap], .slice a2 M cap2] w fun e w' => e = .returned (.bool true) ∧ Below w.heap.size w w' := by
  have HX := hid (below_new w (.cells #[.int .i64 k, .int .u64 s, .int .u64 n, .int .i64 c, .int .i64 h, .slice a L cap] 25))
  have HQ := hid (fat_new w k s n c h (.slice a L cap))
  have HAW := hid (fun w => awake_any w)
  have HEN : Hid (∀ W, Below w.heap.size w W → Calls Try.prog 10 #[.agg #[.int .i64 k, .int .u64 s, .int .u64 n, .int .i64 c, .int .i64 h, .slice a L cap]] W (EncAns W k s n c h bs)) := fun W hb => encode_any W k s n c h a bs L cap (hB.kept hb) hL hz hs0 hn0
  have HFI : Hid (∀ W, Below w.heap.size w W → Calls Try.prog 18 #[.agg #[.int .i64 k, .int .u64 s, .int .u64 n, .int .i64 c, .int .i64 h, .slice a L cap]] W fun e w' => e = .returned (.bool (decide (faultI k s n c h bs.length = 0))) ∧ Below W.heap.size W w') := fun W hb => lfit_any W k s n c h a bs L cap (hB.kept hb) hL hz hs0 hn0
  have HBY := hid hB
  have HLEN := hid hL
  have HBM := hid hB2
  have HML := hid hM
  have HZM := hid hz2
  have HMM := hid hm
  clear hB hL hz hB2 hM hz2 hm
  by_cases hf : faultI k s n c h bs.length = 0
  · have h1 : decide (faultI k s n c h bs.length = 0) = true := decide_eq_true hf
    have HO : Hid (encO k s n c h bs = encB k s n c h bs) := by show _ = _; unfold encO; rw [if_pos hf]
    have HDE := hid (dec_enc hs0 hn0 hf ms)
    have HNL : Hid ((encB k s n c h bs).length ≤ 32768) := enc_len hs0 hn0 hf
    rw [h1] at HFI
    clear h1
    have HFF := hid hf
    clear hf
    go_enter Try.func5, Try.ntmps5
    go_upto_region 6 with (first | (go_at_call 17; refine (HAW.out _).mono ?_; rintro e w1 ⟨rfl, hb1⟩; have F1 := hid (HQ.out.kept hb1); have HB1 := hid (HX.out.trans (hb1.mono HX.out.size)); obtain ⟨p0, p1, p2, p3, p4, p5⟩ := F1.out; clear hb1) | (go_at_call 10; refine (HEN.out _ HB1.out).mono ?_; rintro e w2 ⟨v2, rfl, ho2, hb2⟩; rw [HO.out] at ho2; rw [HFF.out]; obtain ⟨a4, c4, rfl, -⟩ := ownBy_shape ho2; have HO2 := hid ho2; have F2 := hid (F1.out.kept hb2); have HB2 := hid (HB1.out.trans (hb2.mono HB1.out.size)); obtain ⟨p0, p1, p2, p3, p4, p5⟩ := F2.out; clear hb2 ho2) | (go_at_call 18; refine (HFI.out _ HB2.out).mono ?_; rintro e w3 ⟨rfl, hb3⟩; have HO3 := hid (own_below HO2.out hb3); have F3 := hid (F2.out.kept hb3); have HB3 := hid (HB2.out.trans (hb3.mono HB2.out.size)); obtain ⟨p0, p1, p2, p3, p4, p5⟩ := F3.out; clear hb3))
    have HA3 : Hid (BytesAt w3 a4 (encB k s n c h bs) ∧ (a4 = none → c4 = 0)) := by
      obtain ⟨a', c', e, h1, _, _, h2, _⟩ := ownBy_shape HO3.out
      injection e with e1 e2 e3
      subst e1 e3
      exact ⟨h1, h2⟩
    have H3S : Hid (w.heap.size < w3.heap.size) := by
      have := World.block_lt_of_cell? w3 _ F3.out.c0
      exact this
    generalize hN : (encB k s n c h bs).length = N at *
    have HNN := hid hN
    clear hN
    have HCP := hid (copy_any (cap := c4) HA3.out.1 HNN.out HA3.out.2 (by have := HNL.out; omega))
    have HDC : Hid (∀ W v, OwnBy W w3.heap.size v (encB k s n c h bs ++ ms) → ∃ a5 c5, v = .slice a5 (N + M) c5 ∧ Calls Try.prog 15 #[.slice a5 (N + M) c5] W fun e w' => Below W.heap.size W w' ∧ ∃ a9 c9, e = .returned (.tuple #[.agg #[.int .i64 k, .int .u64 s, .int .u64 n, .int .i64 c, .int .i64 h, .slice a9 bs.length c9], .int .i64 (N : Int), .int .i64 0]) ∧ BytesAt w' a9 bs) := fun W v ho => by
      obtain ⟨a5, c5, rfl, hB5, hc5, hm5, hz5, _⟩ := ownBy_shape ho
      have e5 : (encB k s n c h bs ++ ms).length = N + M := by rw [List.length_append, HNN.out, HML.out]
      rw [e5] at hc5 ⊢
      refine ⟨a5, c5, rfl, (decode_any W a5 _ (N + M) c5 hB5 e5 hc5 hm5 hz5).mono ?_⟩
      rintro e w' ⟨hb, hor⟩
      rw [HDE.out] at hor
      rcases hor with ⟨hh, _⟩ | ⟨_, d, he, hd⟩
      · exact absurd rfl hh
      · refine ⟨hb, ?_⟩
        simp only at he hd
        rw [e5, HML.out, show ((N + M : Nat) : Int) - (M : Int) = (N : Int) by omega] at he
        rcases hd with ⟨rfl, e0⟩ | ⟨g, rfl, hR, _⟩
        · exact ⟨none, 0, by rw [he, e0]; rfl, by rw [e0]; exact BytesAt_nil _ _⟩
        · exact ⟨_, _, he, hR.bytes⟩
    go_upto_region 7 with (first | (go_at_call 9; refine HCP.out.mono ?_; rintro e w4 ⟨v4, rfl, ho4, hb4⟩; have HO4 := hid ho4; have F4 := hid (F3.out.kept hb4); have HB34 := hid hb4; have HB4 := hid (HB3.out.trans (hb4.mono HB3.out.size)); clear ho4 hb4) | (at_builtin; refine wpAppendA (.tmp 29) (.tmp 30) rfl rfl (base := w3.heap.size) rfl HO4.out HB34.out.size rfl HZM.out (bs := ms) HML.out (HBM.out.kept HB4.out) (by have := HNL.out; have := HNN.out; have := HMM.out; omega) ?_; intro w5 v5 h5 g5; have HF5 := hid (Fr.of_grown (S := fun x => w3.heap.size ≤ x) g5.out.1 (fun x hx => .inl (own_ge HO4.out hx))); have HO5 := hid (own_one h5.out rfl HML.out); clear h5 g5; obtain ⟨a5, c5, rfl, hc5⟩ := HDC.out _ _ HO5.out; have HC5 := hid hc5; clear hc5) | (go_at_call 15; refine HC5.out.mono ?_; rintro e w6 ⟨hb6, a9, c9, rfl, hb9⟩; have HB6 := hid hb6; have HB9 := hid hb9; clear hb6 hb9))
    have hb7 := below_new w6 (.cells #[.int .i64 k, .int .u64 s, .int .u64 n, .int .i64 c, .int .i64 h, .slice a9 bs.length c9] 25)
    have hF7 := fat_new w6 k s n c h (.slice a9 bs.length c9)
    obtain ⟨w7, hw7⟩ : ∃ w7, w7 = w6.alloc (.cells #[.int .i64 k, .int .u64 s, .int .u64 n, .int .i64 c, .int .i64 h, .slice a9 bs.length c9] 25) := ⟨_, rfl⟩
    rw [← hw7] at hb7 hF7 ⊢
    clear hw7
    have HW5 := hid (HB4.out.trans (HF5.out.below (B := w.heap.size) (fun x hx => by have := HB3.out.size; omega) HB4.out.size))
    have HW6 := hid (HW5.out.trans (HB6.out.mono HW5.out.size))
    have HW7 := hid (HW6.out.trans (hb7.mono HW6.out.size))
    obtain ⟨p0, p1, p2, p3, p4, p5⟩ := ((F4.out.fr HF5.out (by have := H3S.out; omega)).kept HB6.out).kept hb7
    obtain ⟨q0, q1, q2, q3, q4, q5⟩ := hF7
    have HSA : Hid (Calls Try.prog 14 #[.agg #[.int .i64 k, .int .u64 s, .int .u64 n, .int .i64 c, .int .i64 h, .slice a L cap], .agg #[.int .i64 k, .int .u64 s, .int .u64 n, .int .i64 c, .int .i64 h, .slice a9 bs.length c9]] w7 fun e w' => e = .returned (.bool true) ∧ Below w7.heap.size w7 w') := by
      refine (rsame_any w7 k s n c h k s n c h a a9 bs bs L bs.length cap c9 (HBY.out.kept HW7.out) HLEN.out (HB9.out.kept hb7) rfl).mono ?_
      rintro e w' ⟨rfl, hb⟩
      exact ⟨by rw [decide_eq_true ⟨rfl, rfl, rfl, rfl, rfl, rfl⟩], hb⟩
    clear hb7
    go_wp2_with (go_at_call 14; refine HSA.out.mono ?_; rintro e w8 ⟨rfl, hb8⟩; have HB8 := hid (HW7.out.trans (hb8.mono HW7.out.size)); clear hb8)
    go_ret
    exact ⟨rfl, HB8.out⟩
  · have h1 : decide (faultI k s n c h bs.length = 0) = false := decide_eq_false hf
    have HO : Hid (encO k s n c h bs = []) := by show _ = _; unfold encO; rw [if_neg hf]
    rw [h1] at HFI
    have hfb : (faultI k s n c h bs.length == 0) = false := by simpa using hf
    clear h1
    generalize hx : faultI k s n c h bs.length = x at *
    have HXE := hid hx
    clear hx
    go_enter Try.func5, Try.ntmps5
    go_wp2_with (first | (go_at_call 17; refine (HAW.out _).mono ?_; rintro e w1 ⟨rfl, hb1⟩; have F1 := hid (HQ.out.kept hb1); have HB1 := hid (HX.out.trans (hb1.mono HX.out.size)); obtain ⟨p0, p1, p2, p3, p4, p5⟩ := F1.out; clear hb1) | (go_at_call 10; refine (HEN.out _ HB1.out).mono ?_; rintro e w2 ⟨v2, rfl, ho2, hb2⟩; rw [HO.out] at ho2; rw [HXE.out]; obtain ⟨a4, c4, rfl, -⟩ := ownBy_shape ho2; have F2 := hid (F1.out.kept hb2); have HB2 := hid (HB1.out.trans (hb2.mono HB1.out.size)); obtain ⟨p0, p1, p2, p3, p4, p5⟩ := F2.out; clear hb2 ho2) | (go_at_call 18; refine (HFI.out _ HB2.out).mono ?_; rintro e w3 ⟨rfl, hb3⟩; have HB3 := hid (HB2.out.trans (hb3.mono HB2.out.size)); clear hb3))
    go_ret
    exact ⟨by simp [hf], HB3.out⟩
end Go.Proofs.Ytkhogbnoincbeaa
