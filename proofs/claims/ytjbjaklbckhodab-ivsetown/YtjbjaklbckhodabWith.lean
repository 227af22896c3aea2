import Derived.Test.YtjbjaklbckhodabUnion
namespace Go.Proofs.Ytjbjaklbckhodab
open Go.RowKit
set_option maxRecDepth 100000

theorem addL_len {L : List Rg} (F : Fit L) (r : Rg) (hr : r.1 < r.2) : ((addL L r).length : Int) = (L.length : Int) - ((tchB L r : Int) - (tchA L r : Int)) + 1 := by
  have ht := tch_le F r hr
  unfold addL
  rw [if_neg (by omega)]
  simp only [List.length_append, List.length_take, List.length_drop, List.length_cons, List.length_nil]
  omega

set_option maxHeartbeats 1000000 in
theorem with_any {w : World} {p : Nat} {a : Option Addr} {cap : Nat} {L : List Rg} (r : Rg) (V : View w p a cap L) (F : Fit L) :
    Calls Try.prog 40 #[.pointer (some ⟨p, 0, none⟩), .agg #[.int .u64 r.1, .int .u64 r.2]] w fun e w' => e = .returned (.int .i64 (addL L r).length) ∧ Below w.heap.size w w' := by
  have hlen := addL_len F r
  have HN : Hid (r.2 ≤ r.1 → addL L r = L) := fun h => by unfold addL; rw [if_pos h]
  have htl := tch_le F r
  have hbox := box_cells w (.int .u64 r.1) (.int .u64 r.2)
  have hb1 : Below w.heap.size w (w.alloc (.cells #[.int .u64 r.1, .int .u64 r.2] 25)) := below_box _ _
  have hb2 := below_box (w.alloc (.cells #[.int .u64 r.1, .int .u64 r.2] 25)) (.cells #[.int .u64 r.1, .int .u64 r.2] 25)
  have hfew := V.few
  have hd := V.head
  have HT : Hid _ := touched_any r ((V.kept hb1).kept hb2) F
  obtain ⟨rl, rh⟩ := r
  simp only at hbox hlen htl HN
  have HB : Hid _ := hb1.trans (hb2.mono hb1.size)
  have c0 := fun o => cell_kept (below_box _ o) hbox.1
  have c1 := fun o => cell_kept (below_box _ o) hbox.2
  have hd1 := fun o o' => cell_kept (below_box _ o') (cell_kept (below_box w o) hd)
  have HHD : Hid _ := cell_kept hb2 (cell_kept hb1 hd)
  have HLE : Hid _ := hlen
  have HTL : Hid _ := htl
  clear V F hb1 hb2 hbox hd hlen htl
  go_enter Try.func40, Try.ntmps40
  go_wp2_with fail
  refine (empty_any rl rh _).mono ?_
  rintro e w2 ⟨rfl, rfl⟩
  by_cases hr : rh ≤ rl
  · have hc : decide (rh ≤ rl) = true := by simp; omega
    go_wp2
    go_ret
    exact ⟨by rw [HN.out hr]; rfl, HB.out⟩
  · have hc : decide (rh ≤ rl) = false := by simp; omega
    have hle := HLE.out (by omega)
    have ht := HTL.out (by omega)
    have HLX : Hid _ := hle
    clear HN hle
    generalize tchA L (rl, rh) = A at *
    generalize tchB L (rl, rh) = B at *
    go_wp2_with fail
    refine Calls.mono HT.out ?_
    rintro e w3 ⟨rfl, hb3⟩
    have d := cell_kept hb3 HHD.out
    have HB3 : Hid _ := HB.out.trans (hb3.mono HB.out.size)
    clear hb3 HHD HT
    go_wp2
    go_ret
    exact ⟨by rw [HLX.out]; rfl, HB3.out⟩

end Go.Proofs.Ytjbjaklbckhodab
