import Derived.Test.YtoeldomhkeancaaHm0
namespace Go.Proofs.Ytoeldomhkeancaa
open Go.RowKit Go.Maps
set_option maxRecDepth 100000

set_option maxHeartbeats 1000000 in
/-- Does the one leave a heap sooner? -/
theorem ahead_i (w : World) (x y : It Value) (hx : x.what.oneCell' = true) (hy : y.what.oneCell' = true) : Calls Try.prog 43 #[.agg (icells x).toArray, .agg (icells y).toArray] w fun e w' => e = .returned (.bool (decide (Ah x.key y.key))) ∧ Below w.heap.size w w' := by
  obtain ⟨xa, xn, xw⟩ := x
  obtain ⟨ya, yn, yw⟩ := y
  have HV : Hid (∃ d, decide (Ah (It.key ⟨xa, xn, xw⟩) (It.key ⟨ya, yn, yw⟩)) = d ∧ ((xa < ya ∨ xa = ya ∧ xn < yn) ↔ d = true)) := ⟨_, rfl, Iff.symm (by simp only [decide_eq_true_eq]; exact Iff.rfl)⟩
  obtain ⟨d, hd, he⟩ := HV.out
  rw [hd]
  have HE := hid he
  clear HV hd he
  simp only [icells]
  dsimp only at hx hy
  go_enter Try.func43, Try.ntmps43
  go_upto_region 1 with fail
  refine wp_world fun wa HW => ?_
  have HR : Hid (wa.cell? ⟨w.heap.size, 0, none⟩ = some (.int .u64 xa) ∧ wa.cell? ⟨w.heap.size, 1, none⟩ = some (.int .u64 xn) ∧ wa.cell? ⟨w.heap.size + 1, 0, none⟩ = some (.int .u64 ya) ∧ wa.cell? ⟨w.heap.size + 1, 1, none⟩ = some (.int .u64 yn) ∧ Below w.heap.size w wa) := by
    show _ ∧ _
    rw [HW.out]
    have R1 : Row (w.alloc (.cells #[.int .u64 xa, .int .u64 xn, xw] 87)) w.heap.size [.int .u64 xa, .int .u64 xn, xw] 87 := Row.new' _ _ _ _ _ rfl rfl
    have R2 : Row ((w.alloc (.cells #[.int .u64 xa, .int .u64 xn, xw] 87)).alloc (.cells #[.int .u64 ya, .int .u64 yn, yw] 87)) (w.heap.size + 1) [.int .u64 ya, .int .u64 yn, yw] 87 := Row.new' _ _ _ _ _ (by simp) rfl
    have R3 := R1.alloc (.cells #[.int .u64 ya, .int .u64 yn, yw] 87)
    exact ⟨R3.cell 0 _ rfl, R3.cell 1 _ rfl, R2.cell 0 _ rfl, R2.cell 1 _ rfl, (below_new w _).trans ((below_new _ _).mono (below_new w _).size)⟩
  clear HW
  obtain ⟨c1, c2, c3, c4, hB⟩ := HR.out
  have HB := hid hB
  clear hB HR
  obtain ⟨b, hb⟩ : ∃ b, w.heap.size = b := ⟨_, rfl⟩
  rw [hb] at c1 c2 c3 c4 ⊢
  clear hb
  by_cases h1 : xa < ya
  · have hd : d = true := HE.out.1 (Or.inl h1)
    subst hd
    go_wp2_with fail
    go_ret
    exact ⟨rfl, HB.out⟩
  · by_cases h2 : xa = ya
    · subst h2
      by_cases h3 : xn < yn
      · have hd : d = true := HE.out.1 (Or.inr ⟨rfl, h3⟩)
        subst hd
        clear HE
        go_wp2_with fail
        go_ret
        exact ⟨rfl, HB.out⟩
      · have hd : d = false := by rw [← Bool.not_eq_true]; intro e; have := HE.out.2 e; omega
        subst hd
        clear HE
        go_wp2_with fail
        go_ret
        exact ⟨rfl, HB.out⟩
    · have hd : d = false := by rw [← Bool.not_eq_true]; intro e; have := HE.out.2 e; omega
      subst hd
      go_wp2_with fail
      go_ret
      exact ⟨rfl, HB.out⟩
end Go.Proofs.Ytoeldomhkeancaa
