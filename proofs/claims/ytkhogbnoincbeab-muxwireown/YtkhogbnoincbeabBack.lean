import Derived.Test.YtkhogbnoincbeabPu2
import Derived.Test.YtkhogbnoincbeabDec0
import Derived.Test.YtkhogbnoincbeabREnc
import Derived.Test.YtkhogbnoincbeabWrites
import Derived.Lib.SlBytesConst
namespace Go.Proofs.Ytkhogbnoincbeab
open Go.RowKit Go.Maps Go.Sort
set_option maxRecDepth 100000

theorem lfit_any (w : World) (k s n c h : Int) (a : Option Addr) (bs : List (BitVec 8)) (L cap : Nat) (hB : BytesAt w a bs) (hL : bs.length = L) (hz : a = none → cap = 0) (hs0 : 0 ≤ s) (hn0 : 0 ≤ n) :
    Calls Try.prog 19 #[.agg #[.int .i64 k, .int .u64 s, .int .u64 n, .int .i64 c, .int .i64 h, .slice a L cap]] w fun e w' => e = .returned (.bool (decide (faultI k s n c h bs.length = 0))) ∧ Below w.heap.size w w' := by
  have HX := hid (below_new w (.cells #[.int .i64 k, .int .u64 s, .int .u64 n, .int .i64 c, .int .i64 h, .slice a L cap] 41))
  have HR := hid (rencode_any _ k s n c h a bs L cap (hB.kept HX.out) hL hz hs0 hn0)
  clear hB hL hz
  go_enter Try.func19, Try.ntmps19
  go_wp2_with (go_at_call 29; refine HR.out.mono ?_; rintro e w1 ⟨v1, rfl, ho1, hb1⟩; have HB1 := hid (HX.out.trans (hb1.mono HX.out.size)); clear hb1 ho1)
  go_ret
  exact ⟨ret_b (by simp), HB1.out⟩
theorem bytes_marked (w : World) : BytesAt (w.alloc (.cells #[.int .u8 97, .int .u8 98] 5 (2, 3))) (some ⟨w.heap.size, 0, none⟩) [97#8, 98#8] := by
  intro k hk
  refine ⟨w.heap.size, 0, rfl, ?_⟩
  have h2 : k = 0 ∨ k = 1 := by simp at hk; omega
  rcases h2 with rfl | rfl
  · rw [cell_of_row _ w.heap.size _ #[.int .u8 97, .int .u8 98] 5 (2, 3) (heap_alloc_last w _)]; rfl
  · rw [cell_of_row _ w.heap.size _ #[.int .u8 97, .int .u8 98] 5 (2, 3) (heap_alloc_last w _)]; rfl
theorem cv2 (w : World) : (convert 27 27 (.slice (some ⟨w.heap.size, 0, none⟩) 2 2)).run Try.prog (w.alloc (.cells #[.int .u8 97, .int .u8 98] 5)) = .ok (.slice (some ⟨w.heap.size, 0, none⟩) 2 2) (w.alloc (.cells #[.int .u8 97, .int .u8 98] 5 (2, 3))) := Lib.run_convert_bytes_const (P := Try.prog) w 27 5 #[.int .u8 97, .int .u8 98] 2 2 Try.underlying27 Try.underlying5
set_option maxHeartbeats 1000000 in
theorem awake_any (w : World) : Calls Try.prog 18 #[] w fun e w' => e = .returned (.bool true) ∧ Below w.heap.size w w' := by
  have HE := hid (encode_any (w.alloc (.cells #[.int .u8 97, .int .u8 98] 5 (2, 3))) 2 1 0 0 0 (some ⟨w.heap.size, 0, none⟩) [97#8, 98#8] 2 2 (bytes_marked w) rfl (fun e => by cases e) (by decide) (by decide))
  have HX := hid (below_new w (.cells #[.int .u8 97, .int .u8 98] 5 (2, 3)))
  have HO : Hid (encO 2 1 0 0 0 [97#8, 98#8] = [2#8, 1#8, 2#8, 97#8, 98#8]) := by
    show _ = _
    have hn1 : numB 1 = [1#8] := numB_small (by decide)
    have hn2 : numB 2 = [2#8] := numB_small (by decide)
    have hf : faultI 2 1 0 0 0 2 = 0 := by decide
    unfold encO
    rw [show [97#8, 98#8].length = 2 from rfl, if_pos hf]
    unfold encB
    rw [if_pos (by decide), if_neg (by decide), if_pos rfl, show (1 : Int).toNat = 1 from rfl, hn1, show [97#8, 98#8].length = 2 from rfl, hn2]
    rfl
  have HFA : Hid (faultI 2 1 0 0 0 [97#8, 98#8].length = 0) := by show _ = _; decide
  have hcv := cv2 w
  go_enter Try.func18, Try.ntmps18
  go_upto_region 2 with (go_at_call 21; refine HE.out.mono ?_; rintro e w1 ⟨v1, rfl, ho1, hb1⟩; rw [HO.out] at ho1; rw [HFA.out]; obtain ⟨a1, c1, rfl, hB1, -⟩ := ownBy_shape ho1; have HA1 := hid hB1; have HB1 := hid hb1; clear ho1 hb1 hB1)
  have hs : (convert 27 9 (.slice a1 5 c1)).run Try.prog w1 = .ok (.string ⟨#[2, 1, 2, 97, 98]⟩) w1 := convert_any (cap := c1) HA1.out rfl
  clear hcv
  go_wp2
  go_ret
  exact ⟨rfl, HX.out.trans (HB1.out.mono HX.out.size)⟩
theorem enc_len {k s n c h : Int} {bs : List (BitVec 8)} (hs0 : 0 ≤ s) (hn0 : 0 ≤ n) (hf : faultI k s n c h bs.length = 0) : (encB k s n c h bs).length ≤ 32768 := by
  obtain ⟨_, hb, hl, _, _⟩ := faultI_zero hf
  unfold Big at hb
  have h1 : (numB s.toNat).length ≤ 9 := numB_len 8 _ (by omega)
  have h2 : (numB n.toNat).length ≤ 9 := numB_len 8 _ (by omega)
  have h3 : (numB bs.length).length ≤ 9 := numB_len 8 _ (by omega)
  unfold encB
  simp only [List.length_cons, List.length_append]
  have e1 : (if HasS k then numB s.toNat else []).length ≤ 9 := by
    split
    · omega
    · simp
  have e2 : (if k = 1 then [by8 c, by8 h] else if k = 2 then numB bs.length ++ bs else if HasN k then numB n.toNat else []).length ≤ 16400 := by
    split
    · simp
    · split
      · simp; omega
      · split
        · omega
        · simp
  omega
end Go.Proofs.Ytkhogbnoincbeab
