import Derived.Test.YtikeodogmnmneaaGreatDoorCn0
namespace Go.Proofs.YtikeodogmnmneaaGreatDoor
open Go.RowKit Go.Maps Go.Sort
set_option maxRecDepth 100000

theorem build58 (w : World) : (Instr.build 58 #[]).run Tryz.prog w = .ok (.agg #[.pointer none]) w := by kernel_rfl
theorem build45 (w : World) : (Instr.build 45 #[]).run Tryz.prog w = .ok (.agg stZ.toArray) w := by kernel_rfl
set_option maxHeartbeats 8000000 in
theorem nobody_any {w : World} (pl : Bool) (v0 v1 : Value) (pa n : Int) (on : Bool) (b f0 f1 f2 f3 f4 f5 f6 f7 f8 f9 f10 f11 v18 v19 : Value) :
    Calls Tryz.prog 4 #[.bool pl, .agg #[v0, v1, .int .i64 pa, .int .i64 n, .bool on, b, f0, f1, f2, f3, f4, f5, f6, f7, f8, f9, f10, f11, v18, v19]] w fun e w' => e = .returned (.bool true) ∧ Below w.heap.size w w' := by
  have hb58 := build58
  have hb45 := build45
  have HSM := hid same_z
  cases pl with
  | true =>
    go_enter Tryz.func4, Tryz.ntmps4
    go_upto_region 4 with fail
    refine wp_world fun W HW => ?_
    have HR : Hid (Row W w.heap.size [v0, v1, .int .i64 pa, .int .i64 n, .bool on, b, f0, f1, f2, f3, f4, f5, f6, f7, f8, f9, f10, f11, v18, v19] 55) := by show Row _ _ _ _; rw [HW.out]; exact (Row.new' _ _ _ _ _ rfl rfl).alloc _
    have HBW : Hid (Below w.heap.size w W) := by show Below _ _ _; rw [HW.out]; exact ((Below.refl _ _).alloc (Nat.le_refl _) _).alloc (by simp) _
    have HNE : Hid (NoE W (.pointer (some ⟨w.heap.size + 1, 0, none⟩) : Value)) := .inr ⟨w.heap.size + 1, rfl, by rw [HW.out]; exact (Row.new' _ _ [.pointer none] 58 _ (by simp) rfl).cell 0 _ rfl⟩
    clear HW
    generalize (.pointer (some ⟨w.heap.size + 1, 0, none⟩) : Value) = v at *
    obtain ⟨ab, hab⟩ : ∃ ab, ab = w.heap.size := ⟨_, rfl⟩
    rw [← hab] at HR
    rw [← hab]
    clear hab
    have x2 := HR.out.cell 2 _ rfl
    have x3 := HR.out.cell 3 _ rfl
    have x4 := HR.out.cell 4 _ rfl
    have x5 := HR.out.cell 5 _ rfl
    have H1 := hid (write_nb HNE.out b)
    have H2 := hid (read_nb HNE.out (.int .i64 n))
    have H3 := hid (close_nb HNE.out)
    have H4 := hid (abort_nb HNE.out)
    have H5 := hid (receive_nb HNE.out (.int .i64 pa) b)
    have H6 := hid (tick_nb HNE.out (.int .i64 n))
    have H7 := hid (join_nb HNE.out (.int .i64 pa) (.bool on))
    have H8 := hid (prio_nb HNE.out (.int .i64 pa) (.bool on))
    have H9 := hid (leave_nb HNE.out (.int .i64 pa))
    have H10 := hid (out_nb HNE.out)
    have H11 := hid (stat_nb HNE.out)
    clear HR HNE
    go_wp2_with (first
      | (go_at_call 16; refine H1.out.mono ?_; rintro e y1 ⟨rfl, rfl⟩)
      | (go_at_call 17; refine H2.out.mono ?_; rintro e y2 ⟨rfl, rfl⟩)
      | (go_at_call 18; refine H3.out.mono ?_; rintro e y3 ⟨rfl, rfl⟩)
      | (go_at_call 19; refine H4.out.mono ?_; rintro e y4 ⟨rfl, rfl⟩)
      | (go_at_call 20; refine H5.out.mono ?_; rintro e y5 ⟨rfl, rfl⟩)
      | (go_at_call 21; refine H6.out.mono ?_; rintro e y6 ⟨rfl, rfl⟩)
      | (go_at_call 22; refine H7.out.mono ?_; rintro e y7 ⟨rfl, rfl⟩)
      | (go_at_call 23; refine H8.out.mono ?_; rintro e y8 ⟨rfl, rfl⟩)
      | (go_at_call 24; refine H9.out.mono ?_; rintro e y9 ⟨rfl, rfl⟩)
      | (go_at_call 25; refine H10.out.mono ?_; rintro e y10 ⟨rfl, rfl⟩)
      | (go_at_call 13; refine H11.out.mono ?_; rintro e y11 ⟨rfl, hb⟩; have HBX := hid (HBW.out.trans (hb.mono HBW.out.size)); clear hb)
      | (go_at_call 12; refine (HSM.out _).mono ?_; rintro e y12 ⟨rfl, hb⟩; have HBY := hid (HBX.out.trans (hb.mono HBX.out.size)); clear hb))
    go_ret
    exact ⟨rfl, HBY.out⟩
  | false =>
    go_enter Tryz.func4, Tryz.ntmps4
    go_upto_region 4 with fail
    refine wp_world fun W HW => ?_
    have HR : Hid (Row W w.heap.size [v0, v1, .int .i64 pa, .int .i64 n, .bool on, b, f0, f1, f2, f3, f4, f5, f6, f7, f8, f9, f10, f11, v18, v19] 55) := by show Row _ _ _ _; rw [HW.out]; exact Row.new' _ _ _ _ _ rfl rfl
    have HBW : Hid (Below w.heap.size w W) := by show Below _ _ _; rw [HW.out]; exact (Below.refl _ _).alloc (Nat.le_refl _) _
    have HNE : Hid (NoE W (.pointer none : Value)) := .inl rfl
    clear HW
    obtain ⟨ab, hab⟩ : ∃ ab, ab = w.heap.size := ⟨_, rfl⟩
    rw [← hab] at HR
    rw [← hab]
    clear hab
    have x2 := HR.out.cell 2 _ rfl
    have x3 := HR.out.cell 3 _ rfl
    have x4 := HR.out.cell 4 _ rfl
    have x5 := HR.out.cell 5 _ rfl
    have H1 := hid (write_nb HNE.out b)
    have H2 := hid (read_nb HNE.out (.int .i64 n))
    have H3 := hid (close_nb HNE.out)
    have H4 := hid (abort_nb HNE.out)
    have H5 := hid (receive_nb HNE.out (.int .i64 pa) b)
    have H6 := hid (tick_nb HNE.out (.int .i64 n))
    have H7 := hid (join_nb HNE.out (.int .i64 pa) (.bool on))
    have H8 := hid (prio_nb HNE.out (.int .i64 pa) (.bool on))
    have H9 := hid (leave_nb HNE.out (.int .i64 pa))
    have H10 := hid (out_nb HNE.out)
    have H11 := hid (stat_nb HNE.out)
    clear HR HNE
    go_wp2_with (first
      | (go_at_call 16; refine H1.out.mono ?_; rintro e y1 ⟨rfl, rfl⟩)
      | (go_at_call 17; refine H2.out.mono ?_; rintro e y2 ⟨rfl, rfl⟩)
      | (go_at_call 18; refine H3.out.mono ?_; rintro e y3 ⟨rfl, rfl⟩)
      | (go_at_call 19; refine H4.out.mono ?_; rintro e y4 ⟨rfl, rfl⟩)
      | (go_at_call 20; refine H5.out.mono ?_; rintro e y5 ⟨rfl, rfl⟩)
      | (go_at_call 21; refine H6.out.mono ?_; rintro e y6 ⟨rfl, rfl⟩)
      | (go_at_call 22; refine H7.out.mono ?_; rintro e y7 ⟨rfl, rfl⟩)
      | (go_at_call 23; refine H8.out.mono ?_; rintro e y8 ⟨rfl, rfl⟩)
      | (go_at_call 24; refine H9.out.mono ?_; rintro e y9 ⟨rfl, rfl⟩)
      | (go_at_call 25; refine H10.out.mono ?_; rintro e y10 ⟨rfl, rfl⟩)
      | (go_at_call 13; refine H11.out.mono ?_; rintro e y11 ⟨rfl, hb⟩; have HBX := hid (HBW.out.trans (hb.mono HBW.out.size)); clear hb)
      | (go_at_call 12; refine (HSM.out _).mono ?_; rintro e y12 ⟨rfl, hb⟩; have HBY := hid (HBX.out.trans (hb.mono HBX.out.size)); clear hb))
    go_ret
    exact ⟨rfl, HBY.out⟩
end Go.Proofs.YtikeodogmnmneaaGreatDoor
