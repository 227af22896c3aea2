import Derived.Test.YtnflgkobedbemaaGreatDoorBf1
import Derived.Test.YtnflgkobedbemaaGreatDoorIvReplace
import Derived.Test.YtnflgkobedbemaaGreatDoorRtBase
import Derived.RangeFuncNested
import Derived.RangeFuncBound
import Derived.RangeFuncCalls
import Derived.RangeFuncLeaves
import Derived.RangeFuncFrom
import Derived.Shelf.Abstract
import Derived.Shelf.RegionOpen
import Derived.WalkKit
import Derived.OwnWalkIn
import Derived.TacticsInMore
import Derived.LoopNIn
import Derived.LoopIn
namespace Go.Proofs.YtnflgkobedbemaaGreatDoor
open Go.RowKit Go.Maps Go.Sort
set_option maxRecDepth 100000

def Bf.next (F : Bf) : Int := if F.done = true then F.fin + 1 else F.gap
set_option maxHeartbeats 2000000 in
theorem next_any {w : World} {p b : Nat} {v : Value} {F : Bf} (h : BufR w p v b F) :
    Calls Tryz.prog 84 #[.pointer (some ⟨p, 0, none⟩)] w fun e w' => e = .returned (.int .u64 F.next) ∧ Below w.heap.size w w' := by
  have HN := hid (none_no h)
  have HD := hid (done_any h)
  have H := hid h
  have f0 := h.ok.fin0
  have f1 : F.fin ≤ 9223372038000000000 := by have := h.ok.fin1; have := h.ok.rm; have := h.ok.r1; omega
  clear h
  unfold Bf.next
  cases hd : F.done with
  | true =>
    rw [hd] at HD
    clear hd
    go_enter Tryz.func84, Tryz.ntmps84
    go_upto_region 4 with (first | (go_at_call 113; refine HN.out.mono ?_; rintro e w1 ⟨rfl, rfl⟩) | (go_at_call 116; refine HD.out.mono ?_; rintro e w2 ⟨rfl, hb⟩; have HB := hid hb; clear hb))
    have c6 := (H.out.kept HB.out).row.cell 6 _ rfl
    go_wp2_with fail
    go_ret
    exact ⟨rfl, HB.out⟩
  | false =>
    rw [hd] at HD
    clear hd
    go_enter Tryz.func84, Tryz.ntmps84
    go_upto_region 5 with (first | (go_at_call 113; refine HN.out.mono ?_; rintro e w1 ⟨rfl, rfl⟩) | (go_at_call 116; refine HD.out.mono ?_; rintro e w2 ⟨rfl, hb⟩; have HB := hid hb; clear hb))
    have K1 := hid (H.out.kept HB.out).gapK
    have v5 := cell_regrown ((H.out.kept HB.out).row.cell 5 _ rfl)
    refine wp_region_quiet_below (by kernel_rfl) (by decide +kernel) ?_
    repeat (quiet_step (first | (go_at_call 114; exact K1.out _ _)))
    refine wpQuiet_nil ?_
    intro w3 hw'
    have hb3 : Below w2.heap.size w2 w3 := by obtain ⟨⟨dq, osq⟩, rfl⟩ := hw'; exact below_regrown w2 dq osq
    have HB3 := hid (HB.out.trans (hb3.mono HB.out.size))
    clear hw' K1 v5 hb3
    go_wp2_with fail
    go_ret
    exact ⟨rfl, HB3.out⟩
end Go.Proofs.YtnflgkobedbemaaGreatDoor
