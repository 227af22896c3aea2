import Derived.Test.YtfhjiggaacgncaaDoorJd1
namespace Go.Proofs.YtfhjiggaacgncaaDoor
open Go.RowKit Go.Maps Go.Sort
set_option maxRecDepth 100000

/-- The last bytes of a number, the highest one first. -/
def be (n : Nat) : Nat → List (BitVec 8)
  | 0 => []
  | k + 1 => BitVec.ofNat 8 (n / 256 ^ k) :: be n k
theorem be_len (n k : Nat) : (be n k).length = k := by
  induction k with
  | zero => rfl
  | succ k ih => rw [be, List.length_cons, ih]
theorem bytes_one (w : World) (x : Value) (y : BitVec 8) (hx : x = .int .u8 (ub y)) : BytesAt (w.alloc (.cells #[x] 5)) (some ⟨w.heap.size, 0, none⟩) [y] := by
  subst hx
  exact (Row.new' w #[.int .u8 (ub y)] (bcells [y]) 5 _ rfl rfl).bytes
theorem own_grow {B : Nat} {w w1 w2 : World} {v : Value} {t : TypeId} {sz n : Nat} {xs : List Value} (h : w.ownsRow B t sz v n xs) (hb : Below B w w1) (hg : w1.grownBy w2 v.ownBlock) (hB : B ≤ w.heap.size) : Below B w w2 :=
  hb.trans ((Below.refl _ _).grown hg (Nat.le_trans hB hb.size) (fun _ e => own_ge h e))
set_option maxHeartbeats 2000000 in
theorem numbered_any (w : World) (B : Nat) (v : Value) (l : List (BitVec 8)) (n k : Nat) (hO : OwnBy w B v l) (hB : B ≤ w.heap.size) (hn : n < 18446744073709551616) (hk : k ≤ 8) (hl : l.length ≤ 33554432) :
    Calls Tryd.prog 63 #[v, .int .u64 n, .int .i64 k] w fun e w' => ∃ v', e = .returned v' ∧ OwnBy w' B v' (l ++ be n k) ∧ Below B w w' := by
  have HO := hid hO
  have HL := hid hl
  have HB := hid hB
  obtain ⟨a, cap, rfl, -⟩ := ownBy_shape hO
  have hkw : IntKind.i64.wrap ((k : Int) - 1) = (k : Int) - 1 := by rw [IntKind.wrap_i64]; omega
  have HK := hid hk
  have HN := hid hn
  clear hO hl hB hk hn
  go_enter Tryd.func63, Tryd.ntmps63
  go_wp2
  go_loopw [0, 7] (fun t i wr => ∃ (j : Nat) (d : List (BitVec 8)), j ≤ k ∧ i = .int .i64 ((j : Int) - 1) ∧ Hid (OwnBy wr B t (l ++ d)) ∧ Hid (d ++ be n j = be n k) ∧ Hid (Below B w wr)) (fun _ i _ => (intOf i + 1).toNat)
  case atStart => exact ⟨k, [], Nat.le_refl _, by first | rfl | rw [hkw], by rw [List.append_nil]; exact HO.out, rfl, Below.refl _ _⟩
  case round =>
    obtain ⟨j, d, hj, rfl, HO1, HE, HB1⟩ := hrel
    by_cases hlt : 1 ≤ j
    · obtain ⟨i, rfl⟩ : ∃ i, j = i + 1 := ⟨j - 1, by omega⟩
      have hi8 : i < 8 := by have := HK.out; omega
      have HD := hid (show (l ++ d).length + 1 ≤ 140737488355328 by
        have h1 := congrArg List.length HE.out
        rw [List.length_append, be_len, be_len] at h1
        have := HL.out; have := HK.out
        rw [List.length_append]
        omega)
      have HW := hid (Nat.le_trans HB.out HB1.out.size)
      have hx : ((n : Int) / 2 ^ (8 * i)) % 256 = ub (BitVec.ofNat 8 (n / 256 ^ i)) := by
        rw [ub, BitVec.toNat_ofNat, show (256 : Nat) = 2 ^ 8 by rfl, ← Nat.pow_mul]
        norm_cast
      have hnn := HN.out
      clear HN HK hkw
      rcases (show i = 0 ∨ i = 1 ∨ i = 2 ∨ i = 3 ∨ i = 4 ∨ i = 5 ∨ i = 6 ∨ i = 7 by omega) with rfl | rfl | rfl | rfl | rfl | rfl | rfl | rfl
      all_goals (generalize hy : BitVec.ofNat 8 _ = y at hx)
      · have hx2 : (n : Int) % 256 = ub y := by simpa using hx
        have hx3 : IntKind.u8.wrap ((n : Int)) = ub y := by rw [IntKind.wrap_u8']; exact hx2
        have hj0 : (((0 + 1 : Nat) : Int) - 1) = 0 := by omega
        rw [hj0]
        clear hx hj0
        go_wp2_with (at_builtin; refine wpAppendA (.tmp 14) (.tmp 20) rfl rfl (base := B) rfl (own_below HO1.out (below_new wr _)) (by have := HW.out; simp; omega) rfl (fun e => by cases e) (bs := [y]) rfl (bytes_one wr _ y rfl) HD.out ?_; intro w5 v5 h5 g5)
        go_roundw
        case rel =>
          refine ⟨0, d ++ [y], by omega, rfl, ?_, ?_, HB1.out.trans (own_grow HO1.out ((below_new wr _).mono HW.out) g5.out.1 HW.out)⟩
          · have := h5.out; rw [← List.length_singleton (a := y), ← List.length_append, List.append_assoc] at this; exact this
          · show _ = _; rw [← HE.out, List.append_assoc, ← hy]; rfl
        case measure => simp [intOf]
      · have hx2 : (n : Int) / 256 % 256 = ub y := by exact hx
        have hx3 : IntKind.u8.wrap ((n : Int) / 256) = ub y := by rw [IntKind.wrap_u8']; exact hx2
        have hj0 : (((1 + 1 : Nat) : Int) - 1) = 1 := by omega
        rw [hj0]
        clear hx hj0
        go_wp2_with (at_builtin; refine wpAppendA (.tmp 14) (.tmp 20) rfl rfl (base := B) rfl (own_below HO1.out (below_new wr _)) (by have := HW.out; simp; omega) rfl (fun e => by cases e) (bs := [y]) rfl (bytes_one wr _ y rfl) HD.out ?_; intro w5 v5 h5 g5)
        go_roundw
        case rel =>
          refine ⟨1, d ++ [y], by omega, rfl, ?_, ?_, HB1.out.trans (own_grow HO1.out ((below_new wr _).mono HW.out) g5.out.1 HW.out)⟩
          · have := h5.out; rw [← List.length_singleton (a := y), ← List.length_append, List.append_assoc] at this; exact this
          · show _ = _; rw [← HE.out, List.append_assoc, ← hy]; rfl
        case measure => simp [intOf]
      · have hx2 : (n : Int) / 65536 % 256 = ub y := by exact hx
        have hx3 : IntKind.u8.wrap ((n : Int) / 65536) = ub y := by rw [IntKind.wrap_u8']; exact hx2
        have hj0 : (((2 + 1 : Nat) : Int) - 1) = 2 := by omega
        rw [hj0]
        clear hx hj0
        go_wp2_with (at_builtin; refine wpAppendA (.tmp 14) (.tmp 20) rfl rfl (base := B) rfl (own_below HO1.out (below_new wr _)) (by have := HW.out; simp; omega) rfl (fun e => by cases e) (bs := [y]) rfl (bytes_one wr _ y rfl) HD.out ?_; intro w5 v5 h5 g5)
        go_roundw
        case rel =>
          refine ⟨2, d ++ [y], by omega, rfl, ?_, ?_, HB1.out.trans (own_grow HO1.out ((below_new wr _).mono HW.out) g5.out.1 HW.out)⟩
          · have := h5.out; rw [← List.length_singleton (a := y), ← List.length_append, List.append_assoc] at this; exact this
          · show _ = _; rw [← HE.out, List.append_assoc, ← hy]; rfl
        case measure => simp [intOf]
      · have hx2 : (n : Int) / 16777216 % 256 = ub y := by exact hx
        have hx3 : IntKind.u8.wrap ((n : Int) / 16777216) = ub y := by rw [IntKind.wrap_u8']; exact hx2
        have hj0 : (((3 + 1 : Nat) : Int) - 1) = 3 := by omega
        rw [hj0]
        clear hx hj0
        go_wp2_with (at_builtin; refine wpAppendA (.tmp 14) (.tmp 20) rfl rfl (base := B) rfl (own_below HO1.out (below_new wr _)) (by have := HW.out; simp; omega) rfl (fun e => by cases e) (bs := [y]) rfl (bytes_one wr _ y rfl) HD.out ?_; intro w5 v5 h5 g5)
        go_roundw
        case rel =>
          refine ⟨3, d ++ [y], by omega, rfl, ?_, ?_, HB1.out.trans (own_grow HO1.out ((below_new wr _).mono HW.out) g5.out.1 HW.out)⟩
          · have := h5.out; rw [← List.length_singleton (a := y), ← List.length_append, List.append_assoc] at this; exact this
          · show _ = _; rw [← HE.out, List.append_assoc, ← hy]; rfl
        case measure => simp [intOf]
      · have hx2 : (n : Int) / 4294967296 % 256 = ub y := by exact hx
        have hx3 : IntKind.u8.wrap ((n : Int) / 4294967296) = ub y := by rw [IntKind.wrap_u8']; exact hx2
        have hj0 : (((4 + 1 : Nat) : Int) - 1) = 4 := by omega
        rw [hj0]
        clear hx hj0
        go_wp2_with (at_builtin; refine wpAppendA (.tmp 14) (.tmp 20) rfl rfl (base := B) rfl (own_below HO1.out (below_new wr _)) (by have := HW.out; simp; omega) rfl (fun e => by cases e) (bs := [y]) rfl (bytes_one wr _ y rfl) HD.out ?_; intro w5 v5 h5 g5)
        go_roundw
        case rel =>
          refine ⟨4, d ++ [y], by omega, rfl, ?_, ?_, HB1.out.trans (own_grow HO1.out ((below_new wr _).mono HW.out) g5.out.1 HW.out)⟩
          · have := h5.out; rw [← List.length_singleton (a := y), ← List.length_append, List.append_assoc] at this; exact this
          · show _ = _; rw [← HE.out, List.append_assoc, ← hy]; rfl
        case measure => simp [intOf]
      · have hx2 : (n : Int) / 1099511627776 % 256 = ub y := by exact hx
        have hx3 : IntKind.u8.wrap ((n : Int) / 1099511627776) = ub y := by rw [IntKind.wrap_u8']; exact hx2
        have hj0 : (((5 + 1 : Nat) : Int) - 1) = 5 := by omega
        rw [hj0]
        clear hx hj0
        go_wp2_with (at_builtin; refine wpAppendA (.tmp 14) (.tmp 20) rfl rfl (base := B) rfl (own_below HO1.out (below_new wr _)) (by have := HW.out; simp; omega) rfl (fun e => by cases e) (bs := [y]) rfl (bytes_one wr _ y rfl) HD.out ?_; intro w5 v5 h5 g5)
        go_roundw
        case rel =>
          refine ⟨5, d ++ [y], by omega, rfl, ?_, ?_, HB1.out.trans (own_grow HO1.out ((below_new wr _).mono HW.out) g5.out.1 HW.out)⟩
          · have := h5.out; rw [← List.length_singleton (a := y), ← List.length_append, List.append_assoc] at this; exact this
          · show _ = _; rw [← HE.out, List.append_assoc, ← hy]; rfl
        case measure => simp [intOf]
      · have hx2 : (n : Int) / 281474976710656 % 256 = ub y := by exact hx
        have hx3 : IntKind.u8.wrap ((n : Int) / 281474976710656) = ub y := by rw [IntKind.wrap_u8']; exact hx2
        have hj0 : (((6 + 1 : Nat) : Int) - 1) = 6 := by omega
        rw [hj0]
        clear hx hj0
        go_wp2_with (at_builtin; refine wpAppendA (.tmp 14) (.tmp 20) rfl rfl (base := B) rfl (own_below HO1.out (below_new wr _)) (by have := HW.out; simp; omega) rfl (fun e => by cases e) (bs := [y]) rfl (bytes_one wr _ y rfl) HD.out ?_; intro w5 v5 h5 g5)
        go_roundw
        case rel =>
          refine ⟨6, d ++ [y], by omega, rfl, ?_, ?_, HB1.out.trans (own_grow HO1.out ((below_new wr _).mono HW.out) g5.out.1 HW.out)⟩
          · have := h5.out; rw [← List.length_singleton (a := y), ← List.length_append, List.append_assoc] at this; exact this
          · show _ = _; rw [← HE.out, List.append_assoc, ← hy]; rfl
        case measure => simp [intOf]
      · have hx2 : (n : Int) / 72057594037927936 % 256 = ub y := by exact hx
        have hx3 : IntKind.u8.wrap ((n : Int) / 72057594037927936) = ub y := by rw [IntKind.wrap_u8']; exact hx2
        have hj0 : (((7 + 1 : Nat) : Int) - 1) = 7 := by omega
        rw [hj0]
        clear hx hj0
        go_wp2_with (at_builtin; refine wpAppendA (.tmp 14) (.tmp 20) rfl rfl (base := B) rfl (own_below HO1.out (below_new wr _)) (by have := HW.out; simp; omega) rfl (fun e => by cases e) (bs := [y]) rfl (bytes_one wr _ y rfl) HD.out ?_; intro w5 v5 h5 g5)
        go_roundw
        case rel =>
          refine ⟨7, d ++ [y], by omega, rfl, ?_, ?_, HB1.out.trans (own_grow HO1.out ((below_new wr _).mono HW.out) g5.out.1 HW.out)⟩
          · have := h5.out; rw [← List.length_singleton (a := y), ← List.length_append, List.append_assoc] at this; exact this
          · show _ = _; rw [← HE.out, List.append_assoc, ← hy]; rfl
        case measure => simp [intOf]
    · obtain rfl : j = 0 := by omega
      have HX := hid (show OwnBy wr B u0 (l ++ be n k) from by have := HO1.out; rw [← HE.out]; rw [be, List.append_nil]; exact this)
      go_wp2
      go_ret
      exact ⟨_, rfl, HX.out, HB1.out⟩
end Go.Proofs.YtfhjiggaacgncaaDoor
