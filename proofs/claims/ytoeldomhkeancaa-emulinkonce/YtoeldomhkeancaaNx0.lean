import Derived.Test.YtoeldomhkeancaaPt0
namespace Go.Proofs.Ytoeldomhkeancaa
open Go.RowKit Go.Maps
set_option maxRecDepth 100000

set_option maxHeartbeats 2000000 in
/-- When the next one comes. -/
theorem next_nil {w : World} {p : Nat} {K : Lk} (h : LkAt w p K) (hq : 1 ≤ K.queue) (hf : K.Fl = []) : Calls Try.prog 10 #[pt p 0] w fun e w' => e = .returned (.tuple #[.int .u64 0, .bool false]) ∧ w' = w := by
  have HN := hid (none_any h hq)
  obtain ⟨a, cap, hv, -⟩ := h.hf.slice
  have c14 := h.hf.cell
  rw [hv, hf] at c14
  have h0 : ((([] : List (It Value)).length : Nat) : Int) = 0 := rfl
  clear h hv hf
  go_enter Try.func10, Try.ntmps10
  go_wp2_with (go_at_call 19; refine HN.out.mono ?_; rintro e w1 ⟨rfl, rfl⟩)
  go_ret2
  exact ⟨rfl, rfl⟩
set_option maxHeartbeats 2000000 in
theorem next_some {w : World} {p : Nat} {K : Lk} (h : LkAt w p K) (hq : 1 ≤ K.queue) {x : It Value} (hx : K.Fl[0]? = some x) (hl : K.Fl.length ≤ 2932031007402) : Calls Try.prog 10 #[pt p 0] w fun e w' => e = .returned (.tuple #[.int .u64 x.at_, .bool true]) ∧ w' = w := by
  have HN := hid (none_any h hq)
  obtain ⟨a, cap, hv, h1, h2, -, h4⟩ := h.hf.slice
  obtain ⟨g, rfl, -⟩ := h4 0 x hx
  have c14 := h.hf.cell
  have e0 : w.cell? ⟨g, 0, none⟩ = some (.int .u64 x.at_) := by
    have := (h.hf.cells3 hv hx).1
    simpa using this
  rw [hv] at c14
  have hpos := (List.getElem?_eq_some_iff.1 hx).1
  have hz : ¬ ((K.Fl.length : Nat) : Int) = 0 := by omega
  have hz2 : (0 : Int) < ((K.Fl.length : Nat) : Int) := by omega
  generalize K.Fl.length = n at *
  clear h hv hx h1 h2 h4 hpos hl
  go_enter Try.func10, Try.ntmps10
  go_wp2_with (go_at_call 19; refine HN.out.mono ?_; rintro e w1 ⟨rfl, rfl⟩)
  go_ret2
  exact ⟨rfl, rfl⟩
/-- What a look at a link tells. -/
def statC (K : Lk) : List Value := [.int .u64 K.now, .int .u64 K.busy, .int .u64 K.put, .int .u64 K.lost, .int .u64 K.full, .int .u64 K.come, .int .i64 K.wait, .int .i64 K.Fl.length]
def stat0 : List Value := [.int .u64 0, .int .u64 0, .int .u64 0, .int .u64 0, .int .u64 0, .int .u64 0, .int .i64 0, .int .i64 0]
theorem info_30 : (Try.prog.info? 30).map (·.size) = some 8 := by kernel_rfl
theorem statC_one (K : Lk) : ∀ u ∈ statC K, u.oneCell' = true := by
  intro u hu
  simp only [statC, List.mem_cons, List.not_mem_nil, or_false] at hu
  rcases hu with rfl | rfl | rfl | rfl | rfl | rfl | rfl | rfl <;> rfl
set_option maxHeartbeats 4000000 in
/-- A look. -/
theorem stat_any {w : World} {p : Nat} {K : Lk} (h : LkAt w p K) (hq : 1 ≤ K.queue) : Calls Try.prog 12 #[pt p 0] w fun e w' => e = .returned (.agg (statC K).toArray) ∧ Below w.heap.size w w' := by
  have hb1 := below_new w (.cells #[.int .u64 0, .int .u64 0, .int .u64 0, .int .u64 0, .int .u64 0, .int .u64 0, .int .i64 0, .int .i64 0] 30)
  have R2 := Row.new w stat0 30
  have h1 := h.below hb1
  have HN := hid (none_any h1 hq)
  have hpl := h.row.lt
  obtain ⟨a, cap, hv, -⟩ := h1.hf.slice
  clear h
  go_enter Try.func12, Try.ntmps12
  go_upto_region 1 with fail
  change Row (w.alloc (.cells #[.int .u64 0, .int .u64 0, .int .u64 0, .int .u64 0, .int .u64 0, .int .u64 0, .int .i64 0, .int .i64 0] 30)) w.heap.size stat0 30 at R2
  revert hb1 R2 h1 HN
  generalize w.alloc (.cells #[.int .u64 0, .int .u64 0, .int .u64 0, .int .u64 0, .int .u64 0, .int .u64 0, .int .i64 0, .int .i64 0] 30) = w1
  intro hb1 h1 HN R2
  obtain ⟨b, hb⟩ : ∃ b, w.heap.size = b := ⟨_, rfl⟩
  rw [hb] at R2 hpl ⊢
  obtain ⟨B, hB⟩ : ∃ B, w1.heap.size = B := ⟨_, rfl⟩
  have hbB : b < B := by have := R2.lt; omega
  have c5 := h1.row.cell 5 _ rfl
  have c6 := h1.row.cell 6 _ rfl
  have c7 := h1.row.cell 7 _ rfl
  have c8 := h1.row.cell 8 _ rfl
  have c9 := h1.row.cell 9 _ rfl
  have c10 := h1.row.cell 10 _ rfl
  have c11 := h1.row.cell 11 _ rfl
  have c12 := h1.row.cell 12 _ rfl
  have hb2 := below_new w1 (.cells (stat0).toArray 30)
  have R3 : Row (w1.alloc (.cells stat0.toArray 30)) B stat0 30 := by rw [← hB]; exact Row.new w1 stat0 30
  have c14 : (w1.alloc (.cells stat0.toArray 30)).cell? ⟨p, 14, none⟩ = some (.slice a K.Fl.length cap) := by
    have := (h1.below hb2).hf.cell
    rw [hv] at this
    exact this
  have HR3 := hid R3
  have HR2 := hid R2
  have HB1 := hid hb1
  have HS0 := hid (show (stat0.set 0 (.int .u64 K.now)).length = 8 from rfl)
  have hpB : p ≠ B := by have := h1.row.lt; omega
  let C0 : List Value := [.int .u64 K.now, .int .u64 K.busy, .int .u64 K.put, .int .u64 K.lost, .int .u64 K.full, .int .u64 K.come, .int .i64 K.wait, .int .i64 0]
  have HC1 : ∀ u ∈ C0, u.oneCell' = true := by
    intro u hu
    simp only [C0, List.mem_cons, List.not_mem_nil, or_false] at hu
    rcases hu with rfl | rfl | rfl | rfl | rfl | rfl | rfl | rfl <;> rfl
  clear R3 R2 h1 hb1 hv HS0
  go_upto_region 4 with (first
    | (go_at_call 19; refine HN.out.mono ?_; rintro e w1 ⟨rfl, rfl⟩)
    | (show wpList _ _ _ (Oper.mk none (.store 30 (.tmp 3) (.tmp 10)) _ _ _ _ :: _) _ _; refine HR3.out.wpStore' 30 (.tmp 3) (.tmp 10) C0 rfl rfl rfl rfl rfl HC1 info_30 ?_; intro w8 HW8))
  simp only [Act.put]
  have R8 : Row w8 B C0 30 := by rw [HW8.out]; exact HR3.out.row _
  have R2b : Row w8 b stat0 30 := by rw [HW8.out]; exact (HR2.out.alloc _).rowOther (by omega) _
  have hFw : Fr (fun j => j = B) (w1.alloc (.cells stat0.toArray 30)) w8 := by rw [HW8.out]; exact fr_row _ _ _
  have c14b := hFw.cell c14 hpB
  have hB8 : Below w.heap.size w w8 := below_two HB1.out ((hb2.trans (hFw.below (fun x e => by omega) hb2.size))) (Nat.le_refl _)
  have e7 := R8.cell 7 _ rfl
  have f7 := R8.frozen 7
  have HR9 : Hid (Row (w8.setCell ⟨B, 7, none⟩ (.int .i64 K.Fl.length)) B (statC K) 30) := R8.set 7 (.int .i64 K.Fl.length)
  have HR2c := hid (R2b.setOther ⟨B, 7, none⟩ (show b ≠ B by omega) (.int .i64 K.Fl.length))
  have HB9 : Hid (Below w.heap.size w (w8.setCell ⟨B, 7, none⟩ (.int .i64 K.Fl.length))) := hB8.setCell (show w.heap.size ≤ B by omega) _
  have hso := statC_one K
  clear HN HR3 HR2 HB1 HW8 R8 R2b hFw hB8 c14 hb2 c5 c6 c7 c8 c9 c10 c11 c12 HC1
  go_wp2_with (first
    | (show wpList _ _ _ (Oper.mk _ (.load 30 (.tmp 3)) _ _ _ _ :: _) _ _; refine HR9.out.wpLoad 30 (.tmp 3) rfl rfl rfl _ Try.underlying30 rfl info_30 ?_)
    | (show wpList _ _ _ (Oper.mk none (.store 30 (.tmp 2) (.tmp 18)) _ _ _ _ :: _) _ _; refine HR2c.out.wpStore' 30 (.tmp 2) (.tmp 18) (statC K) rfl rfl rfl rfl rfl hso info_30 ?_; intro w9 HW9))
  have R9 : Row w9 b (statC K) 30 := by rw [HW9.out]; exact HR2c.out.row _
  have hB9 : Below w.heap.size w w9 := by rw [HW9.out]; exact below_setRow HB9.out (by omega) _
  exact bodyPost_ret (v := .agg (statC K).toArray) (R9.result Try.results12 _ rfl _ Try.underlying30 rfl info_30) rfl ⟨rfl, hB9⟩
end Go.Proofs.Ytoeldomhkeancaa
