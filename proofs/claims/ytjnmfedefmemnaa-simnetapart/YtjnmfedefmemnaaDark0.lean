import Derived.Test.YtjnmfedefmemnaaRowB
namespace Go.Proofs.Ytjnmfedefmemnaa
open Go.RowKit
set_option maxRecDepth 100000

theorem make2 (w : World) : (Instr.makeSlice 50 (.int .i64 2) (.int .i64 2)).run Try.prog w = .ok (.slice (some ⟨w.heap.size, 0, none⟩) 2 2) (w.alloc (.cells (roadz ++ roadz).toArray 67)) := by kernel_rfl
set_option maxHeartbeats 1000000 in
theorem new_two {w : World} {g : Nat} {c : Int} (h0 : 1 ≤ c) (h1 : c ≤ 1073741824) (hc : w.cell? ⟨g, 0, none⟩ = some (.int .i64 c)) (hcc : w.cell? ⟨g, 1, none⟩ = some (.int .i64 c)) :
    Calls Try.prog 9 #[.slice (some ⟨g, 0, none⟩) 2 2] w fun e w' => ∃ p q, e = .returned (.tuple #[.pointer (some ⟨p, 0, none⟩), .int .i64 0]) ∧ w.heap.size ≤ q ∧ q < p ∧ Row w' q (roadv c ++ roadv c) 67 ∧ Row w' p [.slice (some ⟨q, 0, none⟩) 2 2] 52 ∧ Below w.heap.size w w' := by
  have hm := make2 w
  have hb := below_grow (below_grow (Below.refl w.heap.size w) (.cells (roadz ++ roadz).toArray 67)) (.cells #[.slice (some ⟨w.heap.size, 0, none⟩) 2 2] 52)
  have hr : Row ((w.alloc (.cells (roadz ++ roadz).toArray 67)).alloc (.cells #[.slice (some ⟨w.heap.size, 0, none⟩) 2 2] 52)) w.heap.size (roadz ++ roadz) 67 := (Row.new w (roadz ++ roadz) 67).alloc _
  have hn : Row ((w.alloc (.cells (roadz ++ roadz).toArray 67)).alloc (.cells #[.slice (some ⟨w.heap.size, 0, none⟩) 2 2] 52)) (w.heap.size + 1) [.slice (some ⟨w.heap.size, 0, none⟩) 2 2] 52 := Row.new' _ _ _ _ _ (by simp) rfl
  have c2 := cell_kept hb hc
  have c3 := cell_kept hb hcc
  have HB := hid hb
  have HR := hid hr
  have HN := hid hn
  clear hb hr hn
  go_enter Try.func9, Try.ntmps9
  go_upto_region 4 with (fail)
  generalize ((w.alloc (.cells (roadz ++ roadz).toArray 67)).alloc (.cells #[.slice (some ⟨w.heap.size, 0, none⟩) 2 2] 52)) = wa at *
  have HCC := hid hcc
  clear hm hc hcc
  have hn := HN.out.cell 0 _ rfl
  go_wp2
  refine wp_loop_rounds 3 ?_
  rw [rounds_succ]
  go_wp2
  refine wp_region_still_tail 12 (by kernel_rfl) (by kernel_rfl) ?_
  replace c2 := cell_drawn (wa.drawn + 1) c2
  replace c3 := cell_drawn (wa.drawn + 1) c3
  replace hn := cell_drawn (wa.drawn + 1) hn
  replace HR : Hid _ := HR.out.drawn (wa.drawn + 1)
  replace HN : Hid _ := HN.out.drawn (wa.drawn + 1)
  replace HB : Hid _ := below_drawn HB.out (wa.drawn + 1)
  generalize ({ wa with drawn := wa.drawn + 1 } : World) = wq at *
  simp only [List.take_succ_cons, List.take_zero, List.drop_succ_cons, List.drop_zero]
  iterate 12 still_step
  refine wpStill_nil ?_
  refine wpList_store_mid rfl 41 _ _ rfl w.heap.size 0 ((roadv c).take 14).toArray rfl rfl (HR.out.there 0 14 (by decide)) i41 (all_oneCell_toArray (by simp [roadv, Value.oneCell'])) ?_
  have hr : Row (wq.setCells w.heap.size 0 ((roadv c).take 14)) w.heap.size (roadv c ++ roadz) 67 := HR.out.setCells _ _ (by simp [roadv, roadz])
  have hnn := HN.out.cellsOther (g' := w.heap.size) (by omega) ((roadv c).take 14) 0
  have hbb : Below w.heap.size w (wq.setCells w.heap.size 0 ((roadv c).take 14)) := Below.setCells (Nat.le_refl _) _ _ HB.out
  have hcz : (wq.setCells w.heap.size 0 ((roadv c).take 14)).cell? ⟨g, 1, none⟩ = some (.int .i64 c) := cell_kept hbb HCC.out
  clear HR HN HB hn c2 c3
  have e : ((roadv c).take 14).toArray.toList = (roadv c).take 14 := rfl
  rw [e]
  generalize wq.setCells w.heap.size 0 ((roadv c).take 14) = wz at *
  clear e
  have HR : Hid _ := hr
  have HN : Hid _ := hnn
  have HB : Hid _ := hbb
  have hn := HN.out.cell 0 _ rfl
  clear hr hnn hbb
  go_wp2
  rw [rounds_succ]
  go_wp2
  refine wp_region_still_tail 12 (by kernel_rfl) (by kernel_rfl) ?_
  replace hcz := cell_drawn (wz.drawn + 1) hcz
  replace hn := cell_drawn (wz.drawn + 1) hn
  replace HR : Hid _ := HR.out.drawn (wz.drawn + 1)
  replace HN : Hid _ := HN.out.drawn (wz.drawn + 1)
  replace HB : Hid _ := below_drawn HB.out (wz.drawn + 1)
  generalize ({ wz with drawn := wz.drawn + 1 } : World) = wq2 at *
  simp only [List.take_succ_cons, List.take_zero, List.drop_succ_cons, List.drop_zero]
  iterate 12 still_step
  refine wpStill_nil ?_
  refine wpList_store_mid rfl 41 _ _ rfl w.heap.size 16 ((roadv c).take 14).toArray rfl rfl (HR.out.there 16 14 (by simp [roadv, roadz])) i41 (all_oneCell_toArray (by simp [roadv, Value.oneCell'])) ?_
  have hr : Row (wq2.setCells w.heap.size 16 ((roadv c).take 14)) w.heap.size (roadv c ++ roadv c) 67 := HR.out.setCells _ _ (by simp [roadv, roadz])
  have hnn := HN.out.cellsOther (g' := w.heap.size) (by omega) ((roadv c).take 14) 16
  have hbb : Below w.heap.size w (wq2.setCells w.heap.size 16 ((roadv c).take 14)) := Below.setCells (Nat.le_refl _) _ _ HB.out
  clear HR HN HB hn hcz
  have e : ((roadv c).take 14).toArray.toList = (roadv c).take 14 := rfl
  rw [e]
  generalize wq2.setCells w.heap.size 16 ((roadv c).take 14) = wy at *
  clear e
  have HR : Hid _ := hr
  have HN : Hid _ := hnn
  have HB : Hid _ := hbb
  clear hr hnn hbb
  go_wp2
  rw [rounds_succ]
  go_wp2
  go_ret2
  exact ⟨_, _, rfl, Nat.le_refl _, Nat.lt_succ_self _, HR.out, HN.out, HB.out⟩
set_option maxHeartbeats 1000000 in
/-- A path that is down: whoever wants it up is told so. -/
theorem find_down {w : World} {p n g k d : Nat} {c : List Value} (j : Int) (f : Value) (HN : Row w p [.slice (some ⟨g, 0, none⟩) n n] 52) (R : Row w g c 67) (hk : k < n) (hd : d < 2) (hup : c[k * 16]? = some (.bool false)) :
    Calls Try.prog 27 #[.pointer (some ⟨p, 0, none⟩), .int .i64 k, .int .i64 d, .int .i64 j, .bool true, f] w fun e w' => e = .returned (.int .i64 44) ∧ w' = w := by
  have HBI := hid (bag_in (HN.cell 0 _ rfl) hk hd)
  have c0 := R.cell _ _ hup
  clear R hup HN hk hd
  go_enter Try.func27, Try.ntmps27
  go_wp2_with (go_at_call 23; refine Calls.mono HBI.out ?_; rintro e w' ⟨rfl, rfl⟩)
  go_ret
  exact ⟨rfl, rfl⟩
set_option maxHeartbeats 1000000 in
/-- A bag without frames. -/
theorem find_none {w : World} {p n g k d : Nat} {c : List Value} {v : Value} (f : Value) (HN : Row w p [.slice (some ⟨g, 0, none⟩) n n] 52) (R : Row w g c 67) (hk : k < n) (hd : d < 2) (hup : c[k * 16]? = some (.bool true)) (hv : c[k * 16 + 14 + d]? = some v) (hB : BagAt w v []) :
    Calls Try.prog 27 #[.pointer (some ⟨p, 0, none⟩), .int .i64 k, .int .i64 d, .int .i64 0, .bool true, f] w fun e w' => e = .returned (.int .i64 45) ∧ w' = w := by
  have HBI := hid (bag_in (HN.cell 0 _ rfl) hk hd)
  have c0 := R.cell _ _ hup
  have c1 := R.cell _ _ hv
  obtain ⟨a, cap, rfl⟩ := hB.shape
  have c1' : w.cell? ⟨g, k * 16 + 14 + d, none⟩ = some (.slice a 0 cap) := c1
  have k1 : (0 : Int) ≤ (d : Int) := by omega
  have k2 : (d : Int) < 2 := by omega
  clear R hup HN hk hv hB c1
  go_enter Try.func27, Try.ntmps27
  go_wp2_with (go_at_call 23; refine Calls.mono HBI.out ?_; rintro e w' ⟨rfl, rfl⟩)
  go_ret
  exact ⟨rfl, rfl⟩
set_option maxHeartbeats 1000000 in
theorem take_err {w : World} {p k d : Nat} (j er : Int) (HF : ∀ w' f, Below w.heap.size w w' → Calls Try.prog 27 #[.pointer (some ⟨p, 0, none⟩), .int .i64 k, .int .i64 d, .int .i64 j, .bool true, f] w' fun e w'' => e = .returned (.int .i64 er) ∧ w'' = w') :
    Calls Try.prog 13 #[.pointer (some ⟨p, 0, none⟩), .int .i64 k, .int .i64 d, .int .i64 j] w fun e w' => e = .returned (.tuple #[.agg #[.slice none 0 0, .bool false], .int .i64 er]) ∧ Below w.heap.size w w' := by
  have H := hid HF
  clear HF
  go_enter Try.func13, Try.ntmps13
  go_wp2_with fail
  have hb := below_grow (below_grow (below_grow (below_grow (Below.refl w.heap.size w) (.cells #[.int .i64 d] 3)) (.cells #[.int .i64 j] 3)) (.cells #[.slice none 0 0, .bool false] 32)) (.cells #[.slice none 0 0, .bool false] 32)
  refine (H.out _ _ hb).mono ?_
  rintro e w' ⟨rfl, rfl⟩
  have HB : Hid _ := hb
  clear hb
  go_wp2
  have R : Row ((((w.alloc (.cells #[.int .i64 d] 3)).alloc (.cells #[.int .i64 j] 3)).alloc (.cells #[.slice none 0 0, .bool false] 32)).alloc (.cells #[.slice none 0 0, .bool false] 32)) (w.heap.size + 1 + 1) [.slice none 0 0, .bool false] 32 := (Row.new' _ _ _ _ _ (by simp) rfl).alloc _
  exact bodyPost_ret (v := .tuple #[.agg #[.slice none 0 0, .bool false], .int .i64 er]) (R.result2 Try.results13 _ rfl rfl _ Try.underlying32 rfl i32) rfl ⟨rfl, HB.out⟩
set_option maxHeartbeats 1000000 in
theorem double_err {w : World} {p k d : Nat} (j er : Int) (HF : ∀ w' f, Below w.heap.size w w' → Calls Try.prog 27 #[.pointer (some ⟨p, 0, none⟩), .int .i64 k, .int .i64 d, .int .i64 j, .bool true, f] w' fun e w'' => e = .returned (.int .i64 er) ∧ w'' = w') :
    Calls Try.prog 11 #[.pointer (some ⟨p, 0, none⟩), .int .i64 k, .int .i64 d, .int .i64 j] w fun e w' => e = .returned (.tuple #[.bool false, .int .i64 er]) ∧ Below w.heap.size w w' := by
  have H := hid HF
  clear HF
  go_enter Try.func11, Try.ntmps11
  go_wp2_with fail
  have hb := below_grow (below_grow (Below.refl w.heap.size w) (.cells #[.int .i64 d] 3)) (.cells #[.bool false] 4)
  refine (H.out _ _ hb).mono ?_
  rintro e w' ⟨rfl, rfl⟩
  have HB : Hid _ := hb
  clear hb
  go_wp2
  go_ret2
  exact ⟨rfl, HB.out⟩
set_option maxHeartbeats 1000000 in
theorem set_in {w : World} {p n g k : Nat} {c : List Value} {up : Bool} (nu : Bool) (HN : Row w p [.slice (some ⟨g, 0, none⟩) n n] 52) (R : Row w g c 67) (hk : k < n) (hup : c[k * 16]? = some (.bool up)) :
    Calls Try.prog 18 #[.pointer (some ⟨p, 0, none⟩), .int .i64 k, .bool nu] w fun e w' => e = .returned (.int .i64 0) ∧ Row w' g (c.set (k * 16) (.bool nu)) 67 ∧ Only [g] w w' := by
  have HBI := hid (road_in (HN.cell 0 _ rfl) hk)
  have c0 := R.cell _ _ hup
  have f0 := R.frozen (k * 16)
  have HR := hid R
  clear R hup HN hk
  go_enter Try.func18, Try.ntmps18
  go_upto_region 5 with (go_at_call 34; refine Calls.mono HBI.out ?_; rintro e w' ⟨rfl, rfl⟩)
  refine wp_world fun w2 HW => ?_
  have HR2 : Hid (Row w2 g (c.set (k * 16) (.bool nu)) 67 ∧ Only [g] w' w2) := by
    show _ ∧ _
    rw [HW.out]
    exact ⟨HR.out.set _ _, (Only.refl [g] w').setCell g _ _ (.inl (by simp))⟩
  clear HW HR c0 f0
  go_wp2
  go_ret
  exact ⟨rfl, HR2.out.1, HR2.out.2⟩
end Go.Proofs.Ytjnmfedefmemnaa
