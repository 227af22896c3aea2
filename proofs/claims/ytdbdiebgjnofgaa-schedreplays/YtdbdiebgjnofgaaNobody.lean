import Derived.Test.YtdbdiebgjnofgaaSd9
namespace Go.Proofs.Ytdbdiebgjnofgaa
open Go.RowKit Go.Maps Go.Sort
set_option maxRecDepth 100000

theorem eg68 : ∀ args w, (callFunc 68 args).run Try.prog w = .ok (.enter 68 args) w := enters_of Try.func68 (by kernel_rfl) rfl
theorem eg69 : ∀ args w, (callFunc 69 args).run Try.prog w = .ok (.enter 69 args) w := enters_of Try.func69 (by kernel_rfl) rfl
theorem left4_any {w : World} {s r B : Nat} {ps : List Pk} {a : Option Addr} {c : Nat} (h : RpAt w r B ps a c) (hs : Row w s [.iface 66 (.pointer (some ⟨r, 0, none⟩))] 33) : Calls Try.prog 10 #[.pointer (some ⟨s, 0, none⟩)] w fun e w' => e = .returned (.int .i64 ps.length) ∧ Below w.heap.size w w' :=
  left_by (T := 66) (f := 68) (hs.cell 0 _ rfl) (fun _ => by rfl) eg68 (rpleft_any h)
theorem next_nil (w : World) (V : Vw) : Calls Try.prog 11 #[.pointer none, V.val] w fun e w' => e = .returned (.tuple #[.agg #[.int .i64 0, .int .u64 0, .int .i64 0], .bool false]) ∧ Below w.heap.size w w' := by
  go_enter Try.func11, Try.ntmps11
  go_wp2
  refine bodyPost_ret (Row.result2 (c := pk0) (t := 36) (Row.new' _ _ _ _ _ (by simp) rfl) Try.results11 _ rfl _ Try.underlying36 rfl i36) rfl ⟨rfl, ?_⟩
  exact ((Below.refl _ _).alloc (Nat.le_refl _) _).alloc (by simp) _
theorem next_plain {w : World} {s : Nat} (hs : w.cell? ⟨s, 0, none⟩ = some .nilIface) (V : Vw) : Calls Try.prog 11 #[.pointer (some ⟨s, 0, none⟩), V.val] w fun e w' => e = .returned (.tuple #[.agg #[.int .i64 0, .int .u64 0, .int .i64 0], .bool false]) ∧ Below w.heap.size w w' := by
  have hb : Below w.heap.size w ((w.alloc (.cells V.cells.toArray 28)).alloc (.cells #[.int .i64 0, .int .u64 0, .int .i64 0] 36)) := ((Below.refl _ _).alloc (Nat.le_refl _) _).alloc (by simp) _
  have c0 := cell_kept hb hs
  have hl := World.block_lt_of_cell? w _ hs
  clear hs
  go_enter Try.func11, Try.ntmps11
  go_wp2
  refine bodyPost_ret (Row.result2 (c := pk0) (t := 36) (Row.new' _ _ _ _ _ (by simp) rfl) Try.results11 _ rfl _ Try.underlying36 rfl i36) rfl ⟨rfl, hb⟩
theorem left_nil (w : World) : Calls Try.prog 10 #[.pointer none] w fun e w' => e = .returned (.int .i64 0) ∧ w' = w := by
  go_enter Try.func10, Try.ntmps10
  go_wp2
  go_ret
  exact ⟨rfl, rfl⟩
theorem left_plain {w : World} {s : Nat} (hs : w.cell? ⟨s, 0, none⟩ = some .nilIface) : Calls Try.prog 10 #[.pointer (some ⟨s, 0, none⟩)] w fun e w' => e = .returned (.int .i64 0) ∧ w' = w := by
  go_enter Try.func10, Try.ntmps10
  go_wp2
  go_ret
  exact ⟨rfl, rfl⟩
set_option maxHeartbeats 2000000 in
theorem nobody_any (w : World) (b : Bool) (V : Vw) : Calls Try.prog 3 #[.bool b, V.val] w fun e w' => e = .returned (.bool true) ∧ Below w.heap.size w w' := by
  obtain ⟨a, cap, L, has, want, edge, mss⟩ := V
  have HNN := hid (fun w => next_nil w ⟨a, cap, L, has, want, edge, mss⟩)
  have HNP := hid (fun w s hs => next_plain (w := w) (s := s) hs ⟨a, cap, L, has, want, edge, mss⟩)
  simp only [Vw.val, Vw.cells] at HNN HNP ⊢
  cases b with
  | false =>
    go_enter Try.func3, Try.ntmps3
    go_upto_region 4 with fail
    refine wp_world fun W HW => ?_
    have HB0 : Hid (Below w.heap.size w W) := by show Below _ _ _; rw [HW.out]; exact (Below.refl _ _).alloc (Nat.le_refl _) _
    have HX : Hid (Row W w.heap.size [.slice a L.length cap, .bool has, .int .u64 want.off, .int .i64 want.len, .bool want.fin, .slice want.on.a want.on.n want.on.c, .bool want.held, .int .u64 edge, .int .i64 mss] 28) := by show Row _ _ _ _; rw [HW.out]; exact Row.new _ _ _
    clear HW
    have HN4 : Hid _ := hid (new4_any (w := W.alloc (.cells #[.int .i64 1, .int .u64 2, .int .i64 3] 36)) (ps := [⟨1, 2, 3⟩]) (a2 := some ⟨W.heap.size, 0, none⟩) (c2 := 1) ⟨by decide, rfl, .inr ⟨_, 1, rfl, fun j u hj => by rw [Addr.add_lit, Nat.zero_add]; exact (Row.new W [.int .i64 1, .int .u64 2, .int .i64 3] 36).cell j u hj⟩⟩ (by decide) none 0 0)
    have HB1 : Hid (Below W.heap.size W (W.alloc (.cells #[.int .i64 1, .int .u64 2, .int .i64 3] 36))) := (Below.refl _ _).alloc (Nat.le_refl _) _
    go_wp2_with (first
      | (go_at_call 9; refine HN4.out.mono ?_; rintro e w1 ⟨hb, s, r, rfl, hs, hr, hrr, hne, a', c', hp⟩; have HL4 := hid (left4_any hp hr); replace HB1 := hid (HB1.out.trans (hb.mono HB1.out.size)); clear HN4 hb hs hr hrr hne hp)
      | (go_at_call 10; refine HL4.out.mono ?_; rintro e w2 ⟨rfl, hb⟩; replace HB1 := hid (HB1.out.trans (hb.mono HB1.out.size)); have RX := HX.out.kept HB1.out HX.out.lt; have b0 := RX.cell 0 _ rfl; have b1 := RX.cell 1 _ rfl; have b2 := RX.cell 2 _ rfl; have b3 := RX.cell 3 _ rfl; have b4 := RX.cell 4 _ rfl; have b5 := RX.cell 5 _ rfl; have b6 := RX.cell 6 _ rfl; have b7 := RX.cell 7 _ rfl; have b8 := RX.cell 8 _ rfl; have HNX := hid (HNN.out w2); clear hb HL4 RX)
      | (go_at_call 11; refine HNX.out.mono ?_; rintro e w3 ⟨rfl, hb⟩; replace HB1 := hid (HB1.out.trans (hb.mono HB1.out.size)); have HLX := hid (left_nil (w3.alloc (.cells #[.int .i64 0, .int .u64 0, .int .i64 0] 36))); clear hb HNX b0 b1 b2 b3 b4 b5 b6 b7 b8)
      | (go_at_call 10; refine HLX.out.mono ?_; rintro e w4 ⟨rfl, rfl⟩; clear HLX))
    go_ret
    have hbb := HB0.out.trans (HB1.out.mono HB0.out.size)
    exact ⟨rfl, hbb.alloc hbb.size _⟩
  | true =>
    go_enter Try.func3, Try.ntmps3
    go_upto_region 4 with fail
    refine wp_world fun W HW => ?_
    have HB0 : Hid (Below w.heap.size w W) := by show Below _ _ _; rw [HW.out]; exact ((Below.refl _ _).alloc (Nat.le_refl _) _).alloc (by simp) _
    have HX : Hid (Row W w.heap.size [.slice a L.length cap, .bool has, .int .u64 want.off, .int .i64 want.len, .bool want.fin, .slice want.on.a want.on.n want.on.c, .bool want.held, .int .u64 edge, .int .i64 mss] 28) := by show Row _ _ _ _; rw [HW.out]; exact (Row.new _ _ _).alloc _
    have HP0 : Hid (Row W (w.heap.size + 1) [.nilIface] 33) := by show Row _ _ _ _; rw [HW.out]; exact Row.new' _ _ _ _ _ (by simp) rfl
    clear HW
    have HN4 : Hid _ := hid (new4_any (w := W.alloc (.cells #[.int .i64 1, .int .u64 2, .int .i64 3] 36)) (ps := [⟨1, 2, 3⟩]) (a2 := some ⟨W.heap.size, 0, none⟩) (c2 := 1) ⟨by decide, rfl, .inr ⟨_, 1, rfl, fun j u hj => by rw [Addr.add_lit, Nat.zero_add]; exact (Row.new W [.int .i64 1, .int .u64 2, .int .i64 3] 36).cell j u hj⟩⟩ (by decide) none 0 0)
    have HB1 : Hid (Below W.heap.size W (W.alloc (.cells #[.int .i64 1, .int .u64 2, .int .i64 3] 36))) := (Below.refl _ _).alloc (Nat.le_refl _) _
    go_wp2_with (first
      | (go_at_call 9; refine HN4.out.mono ?_; rintro e w1 ⟨hb, s, r, rfl, hs, hr, hrr, hne, a', c', hp⟩; have HL4 := hid (left4_any hp hr); replace HB1 := hid (HB1.out.trans (hb.mono HB1.out.size)); clear HN4 hb hs hr hrr hne hp)
      | (go_at_call 10; refine HL4.out.mono ?_; rintro e w2 ⟨rfl, hb⟩; replace HB1 := hid (HB1.out.trans (hb.mono HB1.out.size)); have RX := HX.out.kept HB1.out HX.out.lt; have b0 := RX.cell 0 _ rfl; have b1 := RX.cell 1 _ rfl; have b2 := RX.cell 2 _ rfl; have b3 := RX.cell 3 _ rfl; have b4 := RX.cell 4 _ rfl; have b5 := RX.cell 5 _ rfl; have b6 := RX.cell 6 _ rfl; have b7 := RX.cell 7 _ rfl; have b8 := RX.cell 8 _ rfl; have HNX := hid (HNP.out w2 (w.heap.size + 1) ((HP0.out.kept HB1.out HP0.out.lt).cell 0 _ rfl)); clear hb HL4 RX)
      | (go_at_call 11; refine HNX.out.mono ?_; rintro e w3 ⟨rfl, hb⟩; replace HB1 := hid (HB1.out.trans (hb.mono HB1.out.size)); have HLX := hid (left_plain (((HP0.out.kept HB1.out HP0.out.lt).alloc (.cells #[.int .i64 0, .int .u64 0, .int .i64 0] 36)).cell 0 _ rfl)); clear hb HNX b0 b1 b2 b3 b4 b5 b6 b7 b8)
      | (go_at_call 10; refine HLX.out.mono ?_; rintro e w4 ⟨rfl, rfl⟩; clear HLX))
    go_ret
    have hbb := HB0.out.trans (HB1.out.mono HB0.out.size)
    exact ⟨rfl, hbb.alloc hbb.size _⟩
end Go.Proofs.Ytdbdiebgjnofgaa
