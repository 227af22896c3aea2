import Derived.Test.YtjnmfedefmemnaaPut
import Derived.Laws.IdiomRangeMap
namespace Go.Proofs.Ytjnmfedefmemnaa
open Go.RowKit
set_option maxRecDepth 100000

theorem u82 : Try.prog.underlying 82 = some (.map 3 5) := by kernel_rfl
set_option maxHeartbeats 1000000 in
theorem tell_any {w : World} {q : Nat} {bs : List (BitVec 8)} (h : PAt w q bs) (hm : bs.length ≤ 140737488355328) :
    Calls Try.prog 31 #[.pointer (some ⟨q, 0, none⟩)] w fun e w' => ∃ g', e = .returned (.agg #[.slice (some ⟨g', 0, none⟩) bs.length bs.length, .bool false]) ∧ w.heap.size ≤ g' ∧ Row w' g' (bcells bs) 5 ∧ Below w.heap.size w w' := by
  obtain ⟨gq, R1, R2⟩ := h
  have hb0 := below_grow (Below.refl w.heap.size w) (.cells #[.slice none 0 0, .bool false] 32)
  have HC := hid (clone_any (cap := bs.length) (R2.kept hb0 R2.lt).bytes rfl hm)
  have HR := hid (R1.kept hb0 R1.lt)
  have HZ : Hid (Row (w.alloc (.cells #[.slice none 0 0, .bool false] 32)) w.heap.size [.slice none 0 0, .bool false] 32) := Row.new w [.slice none 0 0, .bool false] 32
  have c0 := HR.out.cell 0 _ rfl
  have HB0 := hid hb0
  clear R1 R2 hb0 hm
  generalize hn : bs.length = n at *
  have HNN := hid hn
  clear hn
  go_enter Try.func31, Try.ntmps31
  go_upto_region 2 with (go_at_call 39; refine Calls.mono HC.out ?_; rintro e w1 ⟨g, rfl, hg, hr, hb⟩; have HG := hid hg; have HRB := hid hr; have HB1 := hid hb; clear hg hr hb)
  have HR1 := hid (HR.out.kept HB1.out HR.out.lt)
  have HZ1 := hid (HZ.out.kept HB1.out HZ.out.lt)
  have c1 := HR1.out.cell 1 _ rfl
  have z0 := HZ1.out.cell 0 _ rfl
  have z1 := HZ1.out.cell 1 _ rfl
  have f0 := HZ1.out.frozen 0
  have f1 := HZ1.out.frozen 1
  have hrg := run_range_nilMap (P := Try.prog) w1 82 3 5 u82
  have hnx : ∀ ty, (Instr.next (.pointer (some ⟨w1.heap.size, 0, none⟩)) false ty).run Try.prog (w1.alloc (.mapIter none 0 #[] 0)) = _ := fun ty => run_next_nilMap w1 ty 0 0 #[]
  have HBG := hid (HB0.out.trans (HB1.out.mono HB0.out.size))
  have HGG : Hid (w.heap.size ≤ g) := Nat.le_trans HB0.out.size HG.out
  clear c0 HC z0 z1 f0 f1 HB0 HB1 HR HZ HG
  go_upto_region 3 with (fail)
  refine wp_loop_rounds 1 ?_
  rw [rounds_succ]
  go_upto_region 6 with (fail)
  have HR2 := hid (HR1.out.alloc (.mapIter none 0 #[] 0))
  have HZ2 := hid (HZ1.out.alloc (.mapIter none 0 #[] 0))
  have HRB2 := hid (HRB.out.alloc (.mapIter none 0 #[] 0))
  have HBG2 := hid (HBG.out.alloc HBG.out.size (.mapIter none 0 #[] 0))
  clear HR1 HZ1 HRB HBG hrg hnx c1
  generalize w1.alloc (.mapIter none 0 #[] 0) = w2 at *
  have c1 := HR2.out.cell 1 _ rfl
  go_wp2_with (show wpList _ _ _ (Oper.mk none (.store 32 (.tmp 2) (.tmp 35)) _ _ _ _ :: _) _ _; refine HZ2.out.wpStore' 32 (.tmp 2) (.tmp 35) [.slice (some ⟨g, 0, none⟩) n n, .bool false] rfl rfl rfl rfl rfl (by simp [Value.oneCell']) i32 ?_; intro wz HZ)
  have R : Row wz w.heap.size [.slice (some ⟨g, 0, none⟩) n n, .bool false] 32 := by rw [HZ.out]; exact HZ2.out.row _
  have hRB : Row wz g (bcells bs) 5 := by rw [HZ.out]; exact HRB2.out.rowOther (HRB2.out.ne HZ2.out (by decide)) _
  have hBz : Below w.heap.size w wz := by rw [HZ.out]; exact below_setRow HBG2.out (Nat.le_refl _) _
  exact bodyPost_ret (v := .agg #[.slice (some ⟨g, 0, none⟩) n n, .bool false]) (R.result Try.results31 _ rfl _ Try.underlying32 rfl i32) rfl ⟨g, rfl, HGG.out, hRB, hBz⟩
end Go.Proofs.Ytjnmfedefmemnaa
