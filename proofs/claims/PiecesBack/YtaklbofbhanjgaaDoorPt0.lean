import Derived.Test.YtaklbofbhanjgaaDoorKnown
namespace Go.Proofs.YtaklbofbhanjgaaDoor
open Go.RowKit
set_option maxRecDepth 100000

theorem below_new (w : World) (o : Obj) : Below w.heap.size w (w.alloc o) := (Below.refl _ _).alloc (Nat.le_refl _) _
theorem hid {p : Prop} (h : p) : Hid p := h
theorem bsl22 (w : World) (x : Int) : (Instr.buildSlice 22 1 #[(0, .int .u8 x)]).run Tryd.prog w = .ok (.slice (some ⟨w.heap.size, 0, none⟩) 1 1) (w.alloc (.cells #[.int .u8 x] 5)) := by kernel_rfl
theorem bsl102 (w : World) (a b : Option Addr) (n m c d : Nat) : (Instr.buildSlice 102 2 #[(0, .slice a n c), (1, .slice b m d)]).run Tryd.prog w = .ok (.slice (some ⟨w.heap.size, 0, none⟩) 2 2) (w.alloc (.cells #[.slice a n c, .slice b m d] 22)) := by kernel_rfl
/-- A leaf's digest, and a node's. -/
def leafS (bs : List (BitVec 8)) : List (BitVec 8) := sha (0#8 :: bs)
def nodeS (x y : List (BitVec 8)) : List (BitVec 8) := sha (1#8 :: (x ++ y))
theorem parts_two {w : World} {g : Nat} {ad bd : Option Addr} {c d : Nat} {x y : List (BitVec 8)} (hr : Row w g [.slice ad x.length c, .slice bd y.length d] 22) (hx : BytesAt w ad x) (hy : BytesAt w bd y) (h1 : x.length ≤ c) (h2 : c ≤ 9223372036854775807) (h3 : y.length ≤ d) (h4 : d ≤ 9223372036854775807) : PartsC w (some ⟨g, 0, none⟩) [x, y] := fun k hk => by
  have hk2 : k = 0 ∨ k = 1 := by simp at hk; omega
  rcases hk2 with rfl | rfl
  · exact ⟨g, 0, ad, c, rfl, hr.cell 0 _ rfl, hx, h1, h2⟩
  · exact ⟨g, 0, bd, d, rfl, hr.cell 1 _ rfl, hy, h3, h4⟩
set_option maxHeartbeats 800000 in
theorem leaf_any {w : World} {a : Option Addr} {n c : Nat} {bs : List (BitVec 8)} (hB : BytesAt w a bs) (hn : bs.length = n) (hc : n ≤ c) (hcm : c ≤ 9223372036854775807) (hK : KTab w) (h2 : 2 ≤ w.heap.size) :
    Calls Tryd.prog 8 #[.slice a n c] w fun e w' => e = .returned (.agg (bcells (leafS bs)).toArray) ∧ Below w.heap.size w w' := by
  have HK := hid hK
  have H2 := hid h2
  have HB := hid hB
  have HN := hid hn
  have HC := hid (And.intro hc hcm)
  have I73 := hid i44
  have hb1 := bsl22
  have hb2 := bsl102
  clear hK h2 hB hn hc hcm
  go_enter Tryd.func8, Tryd.ntmps8
  go_upto_region 1 with (fail)
  refine wp_world fun wa HW => ?_
  have HRr : Hid (Row wa w.heap.size (bcells z32) 25) := by show Row _ _ _ _; rw [HW.out]; exact Row.new' _ _ _ _ _ rfl rfl
  have HBa : Hid (Below w.heap.size w wa) := by show Below _ _ _; rw [HW.out]; exact (Below.refl _ _).alloc (Nat.le_refl _) _
  clear HW
  have b1 := below_new wa (.cells #[.int .u8 0] 5)
  have b2 := below_new (wa.alloc (.cells #[.int .u8 0] 5)) (.cells #[.slice (some ⟨wa.heap.size, 0, none⟩) 1 1, .slice a n c] 22)
  have b3 : Below wa.heap.size wa ((wa.alloc (.cells #[.int .u8 0] 5)).alloc (.cells #[.slice (some ⟨wa.heap.size, 0, none⟩) 1 1, .slice a n c] 22)) := b1.trans (b2.mono b1.size)
  have HO : Hid (Calls Tryd.prog 37 #[.slice (some ⟨wa.heap.size + 1, 0, none⟩) 2 2] ((wa.alloc (.cells #[.int .u8 0] 5)).alloc (.cells #[.slice (some ⟨wa.heap.size, 0, none⟩) 1 1, .slice a n c] 22)) fun e w' => e = .returned (.agg (bcells (leafS bs)).toArray) ∧ Below wa.heap.size wa w') := by
    have r1 := (Row.new wa (bcells [0#8]) 5).kept b2 (Row.new wa (bcells [0#8]) 5).lt
    have r2 := Row.new (wa.alloc (.cells #[.int .u8 0] 5)) [.slice (some ⟨wa.heap.size, 0, none⟩) 1 1, .slice a n c] 22
    rw [show (wa.alloc (.cells #[.int .u8 0] 5)).heap.size = wa.heap.size + 1 by simp] at r2
    have hP := parts_two (x := [0#8]) (y := bs) (by rw [HN.out]; exact r2) r1.bytesAt ((HB.out.kept HBa.out).kept b3) (Nat.le_refl _) (by decide) (by rw [HN.out]; exact HC.out.1) HC.out.2
    refine (of_any hP (by simp) ((HK.out.kept HBa.out).kept b3) (Nat.le_trans (Nat.le_trans H2.out HBa.out.size) b3.size)).mono ?_
    rintro e w' ⟨rfl, hb⟩
    exact ⟨by unfold leafS; simp, b3.trans (hb.mono b3.size)⟩
  have HLS : Hid ((leafS bs).length = 32) := sha_len _
  clear b1 b2 b3
  generalize hE : leafS bs = E at *
  have HEE := hid hE
  clear hE
  go_wp2_with (first
    | (go_at_call 37; refine Calls.mono HO.out ?_; rintro e w4 ⟨rfl, hb4⟩; have HB4 := hid hb4; clear hb4)
    | (show wpList _ _ _ (Oper.mk none (.store 25 (.tmp 2) (.tmp 6)) _ _ _ _ :: _) _ _; refine (HRr.out.kept HB4.out HRr.out.lt).wpStore' 25 (.tmp 2) (.tmp 6) (bcells E) rfl rfl rfl rfl (by rw [bcells_len, bcells_len, HLS.out]; rfl) (bcells_one _) (by rw [bcells_len, HLS.out]; exact I73.out) ?_; intro wz HZ))
  have R : Row wz w.heap.size (bcells E) 25 := by rw [HZ.out]; exact (HRr.out.kept HB4.out HRr.out.lt).row _
  have hB : Below w.heap.size w wz := by rw [HZ.out]; exact Go.below_setRow (HBa.out.trans (HB4.out.mono HBa.out.size)) (Nat.le_refl _) _
  exact bodyPost_ret (v := .agg (bcells E).toArray) (R.result Tryd.results8 _ rfl _ Tryd.underlying25 rfl (by rw [bcells_len, HLS.out]; exact I73.out)) rfl ⟨by rw [HEE.out], hB⟩
end Go.Proofs.YtaklbofbhanjgaaDoor
