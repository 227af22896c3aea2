import Derived.Test.YtjnmfedefmemnaaNo1
import Derived.StillTailTactics
namespace Go.Proofs.Ytjnmfedefmemnaa
open Go.RowKit
set_option maxRecDepth 100000

/-- The cells of a path as New gives it. -/
def roadv (c : Int) : List Value := [.bool true, .int .i64 c, .int .i64 0, .int .i64 0, .int .u64 0, .int .u64 0, .int .u64 0, .int .u64 0, .int .u64 0, .int .u64 0, .int .u64 0, .int .u64 0, .int .u64 0, .int .u64 0, .slice none 0 0, .slice none 0 0]
def roadz : List Value := [.bool false, .int .i64 0, .int .i64 0, .int .i64 0, .int .u64 0, .int .u64 0, .int .u64 0, .int .u64 0, .int .u64 0, .int .u64 0, .int .u64 0, .int .u64 0, .int .u64 0, .int .u64 0, .slice none 0 0, .slice none 0 0]
theorem make1 (w : World) : (Instr.makeSlice 50 (.int .i64 1) (.int .i64 1)).run Try.prog w = .ok (.slice (some ⟨w.heap.size, 0, none⟩) 1 1) (w.alloc (.cells roadz.toArray 67)) := by kernel_rfl
set_option maxHeartbeats 400000 in
theorem new_one {w : World} {g : Nat} {c : Int} (h0 : 1 ≤ c) (h1 : c ≤ 1073741824) (hc : w.cell? ⟨g, 0, none⟩ = some (.int .i64 c)) :
    Calls Try.prog 9 #[.slice (some ⟨g, 0, none⟩) 1 1] w fun e w' => ∃ p q, e = .returned (.tuple #[.pointer (some ⟨p, 0, none⟩), .int .i64 0]) ∧ w.heap.size ≤ q ∧ q < p ∧ Row w' q (roadv c) 67 ∧ Row w' p [.slice (some ⟨q, 0, none⟩) 1 1] 52 ∧ Below w.heap.size w w' := by
  have hm := make1 w
  have hb := below_grow (below_grow (Below.refl w.heap.size w) (.cells roadz.toArray 67)) (.cells #[.slice (some ⟨w.heap.size, 0, none⟩) 1 1] 52)
  have hr : Row ((w.alloc (.cells roadz.toArray 67)).alloc (.cells #[.slice (some ⟨w.heap.size, 0, none⟩) 1 1] 52)) w.heap.size roadz 67 := (Row.new w roadz 67).alloc _
  have hn : Row ((w.alloc (.cells roadz.toArray 67)).alloc (.cells #[.slice (some ⟨w.heap.size, 0, none⟩) 1 1] 52)) (w.heap.size + 1) [.slice (some ⟨w.heap.size, 0, none⟩) 1 1] 52 := Row.new' _ _ _ _ _ (by simp) rfl
  have c2 := cell_kept hb hc
  have HB : Hid _ := hb
  have HR : Hid _ := hr
  have HN : Hid _ := hn
  clear hb hr hn
  go_enter Try.func9, Try.ntmps9
  go_upto_region 4 with (fail)
  generalize ((w.alloc (.cells roadz.toArray 67)).alloc (.cells #[.slice (some ⟨w.heap.size, 0, none⟩) 1 1] 52)) = wa at *
  clear hm
  have hn := HN.out.cell 0 _ rfl
  go_wp2
  refine wp_loop_rounds 2 ?_
  rw [rounds_succ]
  go_wp2
  refine wp_region_still_tail 12 (by kernel_rfl) (by kernel_rfl) ?_
  replace c2 := cell_drawn (wa.drawn + 1) c2
  replace hn := cell_drawn (wa.drawn + 1) hn
  replace HR : Hid _ := HR.out.drawn (wa.drawn + 1)
  replace HN : Hid _ := HN.out.drawn (wa.drawn + 1)
  replace HB : Hid _ := below_drawn HB.out (wa.drawn + 1)
  generalize ({ wa with drawn := wa.drawn + 1 } : World) = wq at *
  simp only [List.take_succ_cons, List.take_zero, List.drop_succ_cons, List.drop_zero]
  iterate 12 still_step
  refine wpStill_nil ?_
  refine wpList_store_mid rfl 41 _ _ rfl w.heap.size 0 ((roadv c).take 14).toArray rfl rfl (HR.out.there 0 14 (by decide)) i41 (all_oneCell_toArray (by simp [roadv, Value.oneCell'])) ?_
  have hr : Row (wq.setCells w.heap.size 0 ((roadv c).take 14)) w.heap.size (roadv c) 67 := HR.out.setCells _ _ (by simp [roadv, roadz])
  have hnn := HN.out.cellsOther (g' := w.heap.size) (by omega) ((roadv c).take 14) 0
  have hbb : Below w.heap.size w (wq.setCells w.heap.size 0 ((roadv c).take 14)) := Below.setCells (Nat.le_refl _) _ _ HB.out
  clear HR HN HB hn c2
  have e : ((roadv c).take 14).toArray.toList = (roadv c).take 14 := rfl
  rw [e]
  generalize wq.setCells w.heap.size 0 ((roadv c).take 14) = wz at *
  clear e
  have HR : Hid _ := hr
  have HN : Hid _ := hnn
  have HB : Hid _ := hbb
  clear hr hnn hbb
  go_wp2
  rw [rounds_succ]
  go_wp2
  go_ret2
  exact ⟨_, _, rfl, Nat.le_refl _, Nat.lt_succ_self _, HR.out, HN.out, HB.out⟩
end Go.Proofs.Ytjnmfedefmemnaa
