import Derived.Test.YtgkfnbbgohdalaaDoorEnc1
namespace Go.Proofs.YtgkfnbbgohdalaaDoor
open Go.RowKit
set_option maxRecDepth 100000

def pf : Fr := { Fr.zero with kind := 3, path := 2, num := 258 }
theorem pf_fit : fit pf := by
  refine ⟨by decide, by decide, by decide, ?_, ?_⟩
  · simp [bounded, pf, Fr.zero]
  · simp [blank, strip, pf, Fr.zero]
theorem pf_at (w : World) : FrAt w (fcells pf (.slice none 0 0) (.slice none 0 0) (.slice none 0 0)) pf none 0 none 0 none 0 :=
  { cells := rfl, data := BytesAt_nil _ _, ranges := RangesAt_nil _ _, mac := BytesAt_nil _ _, num := by decide, off := by decide, edge := by decide, rlt := (fun r h => by cases h), token := by decide, nonce := by decide, dlen := by decide, rlen := by decide, mlen := by decide }
theorem pf_body : bodyB pf = [3#8, 2#8, 0#8, 0#8, 0#8, 0#8, 0#8, 0#8, 1#8, 2#8] := by decide
theorem pf_len : (enc pf).length = 14 := by unfold enc; rw [pf_body, List.length_append, be_len]; rfl

set_option maxHeartbeats 1000000 in
theorem probe_any {w : World} (hT : CrcTab w) (hS : SizesTab w) (h2 : 2 ≤ w.heap.size) : Calls Tryd.prog 9 #[] w fun e w' => e = .returned (.bool true) ∧ Below w.heap.size w w' := by
  have HE : Hid _ := enc_ok (pf_at w) pf_fit hT hS h2
  clear hT hS h2
  go_enter Tryd.func9, Tryd.ntmps9
  go_upto_region 2 with (go_at_call 10; refine Calls.mono HE.out ?_; rintro e w1 ⟨g, rfl, hg, hR, hb⟩; have HB1 : Hid _ := hb; have HR : Hid _ := hR; clear hg hR hb; rw [pf_len])
  have c0 : w1.cell? ⟨g, 0, none⟩ = some (.int .u8 3) := HR.out.cell 0 _ (by unfold enc; rw [pf_body]; rfl)
  have c1 : w1.cell? ⟨g, 1, none⟩ = some (.int .u8 2) := HR.out.cell 1 _ (by unfold enc; rw [pf_body]; rfl)
  have c8 : w1.cell? ⟨g, 8, none⟩ = some (.int .u8 1) := HR.out.cell 8 _ (by unfold enc; rw [pf_body]; rfl)
  have c9 : w1.cell? ⟨g, 9, none⟩ = some (.int .u8 2) := HR.out.cell 9 _ (by unfold enc; rw [pf_body]; rfl)
  clear HR
  go_wp2
  go_ret
  exact ⟨rfl, HB1.out⟩
end Go.Proofs.YtgkfnbbgohdalaaDoor
