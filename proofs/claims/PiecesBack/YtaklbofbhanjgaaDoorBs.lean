import Derived.Test.YtaklbofbhanjgaaDoorPt2
import Derived.Lib.UnsafeStr
namespace Go.Proofs.YtaklbofbhanjgaaDoor
open Go.RowKit
set_option maxRecDepth 100000
def tA : List (BitVec 8) := [97#8, 98#8, 99#8]
def tD : List (BitVec 8) := [100#8, 101#8, 102#8]
def tX : List (BitVec 8) := [100#8, 101#8, 120#8]
def tG : List (BitVec 8) := [103#8]
def tAll : List (BitVec 8) := [97#8, 98#8, 99#8, 100#8, 101#8, 102#8, 103#8]
theorem unlike : nodeS (nodeS (leafS tA) (leafS tX)) (leafS tG) ≠ nodeS (nodeS (leafS tA) (leafS tD)) (leafS tG) := by decide +kernel
end Go.Proofs.YtaklbofbhanjgaaDoor
namespace Go.Proofs.YtaklbofbhanjgaaDoor
open Go.RowKit
set_option maxRecDepth 100000
theorem leavesAll : leavesL tAll 3 = [leafS tA, leafS tD, leafS tG] := rfl
theorem sp2 : splitN 2 = 1 := by decide +kernel
theorem sp3 : splitN 3 = 2 := by decide +kernel
theorem over_one {P : List (List (BitVec 8))} {k : Nat} : overL P k (k + 1) = P.getD k z32 := by
  rw [overL_some (by omega) (by omega), show k + 1 - k = 1 by omega]
  unfold upS
  rw [if_pos rfl]
theorem rootAll : rootF tAll 3 = nodeS (nodeS (leafS tA) (leafS tD)) (leafS tG) := by
  unfold rootF
  rw [leavesAll]
  generalize leafS tA = a
  generalize leafS tD = d
  generalize leafS tG = g
  show overL [a, d, g] 0 3 = _
  rw [overL_some (by omega) (by omega)]
  simp only [upS, Nat.sub_zero, Nat.zero_add, sp3, sp2, Nat.reduceEqDiff, if_false, if_true, Nat.reduceLT, over_one (P := [a, d, g]) (k := 2), over_one (P := [a, d, g]) (k := 1)]
  rfl
theorem leads_tree (root a x g : List (BitVec 8)) : leadsB root 3 1 x [a, g] = decide (nodeS (nodeS a x) g = root) := by
  unfold leadsB
  simp [upS, sp3, sp2, pthAns, List.getD]
theorem list32 {α : Type} (l : List α) (h : l.length = 32) : ∃ x0 x1 x2 x3 x4 x5 x6 x7 x8 x9 x10 x11 x12 x13 x14 x15 x16 x17 x18 x19 x20 x21 x22 x23 x24 x25 x26 x27 x28 x29 x30 x31, l = [x0, x1, x2, x3, x4, x5, x6, x7, x8, x9, x10, x11, x12, x13, x14, x15, x16, x17, x18, x19, x20, x21, x22, x23, x24, x25, x26, x27, x28, x29, x30, x31] := by
  rcases l with _ | ⟨x0, l⟩
  · simp at h
  rcases l with _ | ⟨x1, l⟩
  · simp at h
  rcases l with _ | ⟨x2, l⟩
  · simp at h
  rcases l with _ | ⟨x3, l⟩
  · simp at h
  rcases l with _ | ⟨x4, l⟩
  · simp at h
  rcases l with _ | ⟨x5, l⟩
  · simp at h
  rcases l with _ | ⟨x6, l⟩
  · simp at h
  rcases l with _ | ⟨x7, l⟩
  · simp at h
  rcases l with _ | ⟨x8, l⟩
  · simp at h
  rcases l with _ | ⟨x9, l⟩
  · simp at h
  rcases l with _ | ⟨x10, l⟩
  · simp at h
  rcases l with _ | ⟨x11, l⟩
  · simp at h
  rcases l with _ | ⟨x12, l⟩
  · simp at h
  rcases l with _ | ⟨x13, l⟩
  · simp at h
  rcases l with _ | ⟨x14, l⟩
  · simp at h
  rcases l with _ | ⟨x15, l⟩
  · simp at h
  rcases l with _ | ⟨x16, l⟩
  · simp at h
  rcases l with _ | ⟨x17, l⟩
  · simp at h
  rcases l with _ | ⟨x18, l⟩
  · simp at h
  rcases l with _ | ⟨x19, l⟩
  · simp at h
  rcases l with _ | ⟨x20, l⟩
  · simp at h
  rcases l with _ | ⟨x21, l⟩
  · simp at h
  rcases l with _ | ⟨x22, l⟩
  · simp at h
  rcases l with _ | ⟨x23, l⟩
  · simp at h
  rcases l with _ | ⟨x24, l⟩
  · simp at h
  rcases l with _ | ⟨x25, l⟩
  · simp at h
  rcases l with _ | ⟨x26, l⟩
  · simp at h
  rcases l with _ | ⟨x27, l⟩
  · simp at h
  rcases l with _ | ⟨x28, l⟩
  · simp at h
  rcases l with _ | ⟨x29, l⟩
  · simp at h
  rcases l with _ | ⟨x30, l⟩
  · simp at h
  rcases l with _ | ⟨x31, l⟩
  · simp at h
  rcases l with _ | ⟨x, l⟩
  · exact ⟨x0, x1, x2, x3, x4, x5, x6, x7, x8, x9, x10, x11, x12, x13, x14, x15, x16, x17, x18, x19, x20, x21, x22, x23, x24, x25, x26, x27, x28, x29, x30, x31, rfl⟩
  · simp at h
theorem bs23v (x0 x1 x2 x3 x4 x5 x6 x7 x8 x9 x10 x11 x12 x13 x14 x15 x16 x17 x18 x19 x20 x21 x22 x23 x24 x25 x26 x27 x28 x29 x30 x31 y0 y1 y2 y3 y4 y5 y6 y7 y8 y9 y10 y11 y12 y13 y14 y15 y16 y17 y18 y19 y20 y21 y22 y23 y24 y25 y26 y27 y28 y29 y30 y31 : Value) (w : World) : (Instr.buildSlice 23 2 #[(0, .agg #[x0, x1, x2, x3, x4, x5, x6, x7, x8, x9, x10, x11, x12, x13, x14, x15, x16, x17, x18, x19, x20, x21, x22, x23, x24, x25, x26, x27, x28, x29, x30, x31]), (1, .agg #[y0, y1, y2, y3, y4, y5, y6, y7, y8, y9, y10, y11, y12, y13, y14, y15, y16, y17, y18, y19, y20, y21, y22, y23, y24, y25, y26, y27, y28, y29, y30, y31])]).run Tryd.prog w = .ok (.slice (some ⟨w.heap.size, 0, none⟩) 2 2) (w.alloc (.cells #[x0, x1, x2, x3, x4, x5, x6, x7, x8, x9, x10, x11, x12, x13, x14, x15, x16, x17, x18, x19, x20, x21, x22, x23, x24, x25, x26, x27, x28, x29, x30, x31, y0, y1, y2, y3, y4, y5, y6, y7, y8, y9, y10, y11, y12, y13, y14, y15, y16, y17, y18, y19, y20, y21, y22, y23, y24, y25, y26, y27, y28, y29, y30, y31] 25)) := by kernel_rfl
theorem bs23 {X Y : List Value} (hx : X.length = 32) (hy : Y.length = 32) (w : World) : (Instr.buildSlice 23 2 #[(0, .agg X.toArray), (1, .agg Y.toArray)]).run Tryd.prog w = .ok (.slice (some ⟨w.heap.size, 0, none⟩) 2 2) (w.alloc (.cells (X ++ Y).toArray 25)) := by
  obtain ⟨x0, x1, x2, x3, x4, x5, x6, x7, x8, x9, x10, x11, x12, x13, x14, x15, x16, x17, x18, x19, x20, x21, x22, x23, x24, x25, x26, x27, x28, x29, x30, x31, rfl⟩ := list32 X hx
  obtain ⟨y0, y1, y2, y3, y4, y5, y6, y7, y8, y9, y10, y11, y12, y13, y14, y15, y16, y17, y18, y19, y20, y21, y22, y23, y24, y25, y26, y27, y28, y29, y30, y31, rfl⟩ := list32 Y hy
  exact bs23v x0 x1 x2 x3 x4 x5 x6 x7 x8 x9 x10 x11 x12 x13 x14 x15 x16 x17 x18 x19 x20 x21 x22 x23 x24 x25 x26 x27 x28 x29 x30 x31 y0 y1 y2 y3 y4 y5 y6 y7 y8 y9 y10 y11 y12 y13 y14 y15 y16 y17 y18 y19 y20 y21 y22 y23 y24 y25 y26 y27 y28 y29 y30 y31 w
theorem bs7 (w : World) : (Instr.buildSlice 22 7 #[(0, .int .u8 97), (1, .int .u8 98), (2, .int .u8 99), (3, .int .u8 100), (4, .int .u8 101), (5, .int .u8 102), (6, .int .u8 103)]).run Tryd.prog w = .ok (.slice (some ⟨w.heap.size, 0, none⟩) 7 7) (w.alloc (.cells (bcells tAll).toArray 5)) := by kernel_rfl
theorem bsA (w : World) : (Instr.buildSlice 22 3 #[(0, .int .u8 97), (1, .int .u8 98), (2, .int .u8 99)]).run Tryd.prog w = .ok (.slice (some ⟨w.heap.size, 0, none⟩) 3 3) (w.alloc (.cells (bcells tA).toArray 5)) := by kernel_rfl
theorem bsD (w : World) : (Instr.buildSlice 22 3 #[(0, .int .u8 100), (1, .int .u8 101), (2, .int .u8 102)]).run Tryd.prog w = .ok (.slice (some ⟨w.heap.size, 0, none⟩) 3 3) (w.alloc (.cells (bcells tD).toArray 5)) := by kernel_rfl
theorem bsX (w : World) : (Instr.buildSlice 22 3 #[(0, .int .u8 100), (1, .int .u8 101), (2, .int .u8 120)]).run Tryd.prog w = .ok (.slice (some ⟨w.heap.size, 0, none⟩) 3 3) (w.alloc (.cells (bcells tX).toArray 5)) := by kernel_rfl
theorem bsG (w : World) : (Instr.buildSlice 22 1 #[(0, .int .u8 103)]).run Tryd.prog w = .ok (.slice (some ⟨w.heap.size, 0, none⟩) 1 1) (w.alloc (.cells (bcells tG).toArray 5)) := by kernel_rfl
theorem fitX {rt : List (BitVec 8)} : fitE ⟨⟨#[120]⟩, 7, 3, rt⟩ = 0 := by
  have h : namedB ⟨#[120]⟩ = true := by decide +kernel
  unfold fitE
  rw [h]
  simp
theorem cntX {rt : List (BitVec 8)} : cntI ⟨⟨#[120]⟩, 7, 3, rt⟩ = 3 := by
  unfold cntI
  rw [if_pos fitX]
  dsimp only
  decide
theorem refX {rt : List (BitVec 8)} : refI ⟨⟨#[120]⟩, 7, 3, rt⟩ 1 3 = 0 := by
  unfold refI sizI
  rw [cntX]
  simp
  decide
/-- Two digests, side by side in a block. -/
theorem sums_two {w : World} {g : Nat} {x y : List (BitVec 8)} (h : Row w g (bcells x ++ bcells y) 25) (hx : x.length = 32) : SumsAt w (some ⟨g, 0, none⟩) [x, y] := fun k hk => by
  have hk2 : k = 0 ∨ k = 1 := by simp at hk; omega
  rcases hk2 with rfl | rfl
  · refine ⟨g, 0, rfl, fun j v hv => ?_⟩
    replace hv : (bcells x)[j]? = some v := hv
    have hj := (List.getElem?_eq_some_iff.1 hv).1
    rw [show 0 + 0 * 32 + j = j by omega]
    exact h.cell j v (by rw [List.getElem?_append_left hj]; exact hv)
  · refine ⟨g, 0, rfl, fun j v hv => ?_⟩
    replace hv : (bcells y)[j]? = some v := hv
    rw [show 0 + 1 * 32 + j = 32 + j by omega]
    exact h.cell (32 + j) v (by rw [List.getElem?_append_right (by rw [bcells_len, hx]; omega), bcells_len, hx, show 32 + j - 32 = j by omega]; exact hv)
end Go.Proofs.YtaklbofbhanjgaaDoor
namespace Go.Proofs.YtaklbofbhanjgaaDoor
open Go.RowKit
set_option maxRecDepth 100000
/-! A constant's bytes. -/
theorem conv22 {w : World} {g : Nat} {cs : List Value} (h : Row w g cs 5) (n c : Nat) : (convert 22 22 (.slice (some ⟨g, 0, none⟩) n c)).run Tryd.prog w = .ok (.slice (some ⟨g, 0, none⟩) n c) (w.freeze ⟨g, cs.length, none⟩ 1) := by
  have hs : w.shape? g = some (5, cs.length) := by simp [World.shape?, h.at_]
  simp [convert, markStringish, run_underlying Tryd.underlying22, run_underlying Tryd.underlying5, hs]
theorem freeze_cells {w : World} {g k : Nat} {cs : List Value} (h : Row w g cs 5) (a : Addr) : (w.freeze ⟨g, k, none⟩ 1).cell? a = w.cell? a := by
  unfold World.freeze World.cell?
  rw [if_neg (by decide)]
  dsimp only
  by_cases e : a.block = g
  · rw [e, Array.getElem?_modify, if_pos rfl, h.at_]
    rfl
  · rw [Array.getElem?_modify, if_neg (fun h => e h.symm)]
theorem bytes_freeze {w : World} {g k : Nat} {cs : List Value} {a : Option Addr} {bs : List (BitVec 8)} (h : Row w g cs 5) (hb : BytesAt w a bs) : BytesAt (w.freeze ⟨g, k, none⟩ 1) a bs := fun j hj => by
  obtain ⟨g', o', e, hc⟩ := hb j hj
  exact ⟨g', o', e, (freeze_cells h _).trans hc⟩
/-- A constant's bytes are laid down. -/
theorem const_bytes (w : World) (bs : List (BitVec 8)) (k : Nat) : BytesAt ((w.alloc (.cells (bcells bs).toArray 5)).freeze ⟨w.heap.size, k, none⟩ 1) (some ⟨w.heap.size, 0, none⟩) bs ∧ Below w.heap.size w ((w.alloc (.cells (bcells bs).toArray 5)).freeze ⟨w.heap.size, k, none⟩ 1) :=
  ⟨bytes_freeze (Row.new w (bcells bs) 5) (Row.new w (bcells bs) 5).bytesAt, Go.Lib.below_freeze (below_new w _) (Nat.le_refl _) 1⟩
theorem cv7 (w : World) : (convert 22 22 (.slice (some ⟨w.heap.size, 0, none⟩) 7 7)).run Tryd.prog (w.alloc (.cells #[.int .u8 97, .int .u8 98, .int .u8 99, .int .u8 100, .int .u8 101, .int .u8 102, .int .u8 103] 5)) = .ok (.slice (some ⟨w.heap.size, 0, none⟩) 7 7) ((w.alloc (.cells (bcells tAll).toArray 5)).freeze ⟨w.heap.size, 7, none⟩ 1) := conv22 (Row.new w (bcells tAll) 5) 7 7
theorem cvA (w : World) : (convert 22 22 (.slice (some ⟨w.heap.size, 0, none⟩) 3 3)).run Tryd.prog (w.alloc (.cells #[.int .u8 97, .int .u8 98, .int .u8 99] 5)) = .ok (.slice (some ⟨w.heap.size, 0, none⟩) 3 3) ((w.alloc (.cells (bcells tA).toArray 5)).freeze ⟨w.heap.size, 3, none⟩ 1) := conv22 (Row.new w (bcells tA) 5) 3 3
theorem cvD (w : World) : (convert 22 22 (.slice (some ⟨w.heap.size, 0, none⟩) 3 3)).run Tryd.prog (w.alloc (.cells #[.int .u8 100, .int .u8 101, .int .u8 102] 5)) = .ok (.slice (some ⟨w.heap.size, 0, none⟩) 3 3) ((w.alloc (.cells (bcells tD).toArray 5)).freeze ⟨w.heap.size, 3, none⟩ 1) := conv22 (Row.new w (bcells tD) 5) 3 3
theorem cvX (w : World) : (convert 22 22 (.slice (some ⟨w.heap.size, 0, none⟩) 3 3)).run Tryd.prog (w.alloc (.cells #[.int .u8 100, .int .u8 101, .int .u8 120] 5)) = .ok (.slice (some ⟨w.heap.size, 0, none⟩) 3 3) ((w.alloc (.cells (bcells tX).toArray 5)).freeze ⟨w.heap.size, 3, none⟩ 1) := conv22 (Row.new w (bcells tX) 5) 3 3
theorem cvG (w : World) : (convert 22 22 (.slice (some ⟨w.heap.size, 0, none⟩) 1 1)).run Tryd.prog (w.alloc (.cells #[.int .u8 103] 5)) = .ok (.slice (some ⟨w.heap.size, 0, none⟩) 1 1) ((w.alloc (.cells (bcells tG).toArray 5)).freeze ⟨w.heap.size, 1, none⟩ 1) := conv22 (Row.new w (bcells tG) 5) 1 1
end Go.Proofs.YtaklbofbhanjgaaDoor
namespace Go.Proofs.YtaklbofbhanjgaaDoor
open Go.RowKit
set_option maxRecDepth 100000
def rtX : List (BitVec 8) := rootF tAll 3
def mfX : Mf := ⟨⟨#[120]⟩, 7, 3, rtX⟩
/-- What stands while the store is empty. -/
structure AlI (w w' : World) (p mm : Nat) : Prop where
  st : StAt w' p (.slice none 0 0) mfX [.slice none 0 0, .int .i64 3, .map (some mm)] []
  bl : Below w.heap.size w w'
  ge : w.heap.size ≤ p
theorem AlI.kept {w w1 w2 : World} {p mm : Nat} (h : AlI w w1 p mm) (hb : Below w1.heap.size w1 w2) : AlI w w2 p mm := ⟨h.st.kept hb, h.bl.trans (hb.mono h.bl.size), h.ge⟩
theorem fit_nil : Fit [] := ⟨fun _ h => by simp at h, List.Pairwise.nil⟩
theorem fit_12 : Fit [(1, 2)] := ⟨fun r h => by simp at h; subst h; decide, by simp⟩
theorem add_12 : addL [] ((1 : Int), (1 : Int) + 1) = [(1, 2)] := rfl
theorem lf_two : ∀ x ∈ [leafS tA, leafS tG], x.length = 32 := fun x hx => by
  simp only [List.mem_cons, List.not_mem_nil, or_false] at hx
  rcases hx with rfl | rfl <;> exact sha_len _
/-- The first piece comes. -/
theorem al_put {w wz : World} {p mm gd gs : Nat} (h : AlI w wz p mm) (hK : KTab w) (h2 : 2 ≤ w.heap.size) (hd : BytesAt wz (some ⟨gd, 0, none⟩) tD) (hgd : gd ≠ p) (hs : SumsAt wz (some ⟨gs, 0, none⟩) [leafS tA, leafS tG]) :
    Calls Tryd.prog 32 #[.pointer (some ⟨p, 0, none⟩), .int .i64 1, .slice (some ⟨gd, 0, none⟩) 3 3, .slice (some ⟨gs, 0, none⟩) 2 2] wz fun e w' => e = .returned (.tuple #[.bool true, .int .i64 0]) ∧ (∃ v Y, StAt w' p v mfX Y [(1, 2)]) ∧ Below w.heap.size w w' ∧ Fr (fun k => k = p) wz w' := by
  have hp := put_any (pc := 2) (i := 1) (V := 3) (c := 3) (G := fun b w' => b = true ∧ (∃ v Y, StAt w' p v mfX Y [(1, 2)]) ∧ Below w.heap.size w w' ∧ Fr (fun k => k = p) wz w') h.st refX cntX hd rfl (Nat.le_refl _) (by decide) hs (by decide) lf_two (by decide) (by decide) (hK.kept h.bl) (Nat.le_trans h2 h.bl.size) fun _ w' hb => by
    have hk := keep_new (P := 3) (N := 7) (i := 1) (c := 3) (h.st.kept hb) rfl rfl fit_nil (by decide) rfl (hd.kept hb) (by decide) rfl hgd
    refine hk.mono ?_
    rintro e w2 ⟨rfl, v', g, hs', -, -, -, -, ht⟩
    refine ⟨true, rfl, rfl, ⟨v', _, hs'⟩, ?_⟩
    have hge := h.ge
    have hbl := h.bl.trans (hb.mono h.bl.size)
    have hf : Fr (fun k => k = p) w' w2 := ⟨ht.os, ht.tape, ht.output, ht.size, fun k hk hs => ht.block k hk hs (by simp [Value.ownBlock])⟩
    exact ⟨⟨ht.os.trans hbl.os, ht.tape.trans hbl.tape, ht.output.trans hbl.output, Nat.le_trans hbl.size ht.size, fun k hk => (ht.block k (Nat.lt_of_lt_of_le hk hbl.size) (by omega) (by simp [Value.ownBlock])).trans (hbl.block k hk)⟩, (Fr.of_below hb (Nat.le_refl _)).trans hf fun x hx => .inl hx⟩
  refine hp.mono ?_
  rintro e w' (⟨h1, -⟩ | ⟨-, b, rfl, rfl, h3⟩)
  · exfalso
    rw [show ((([leafS tA, leafS tG] : List (List (BitVec 8))))) = [leafS tA, leafS tG] from rfl, leads_tree] at h1
    have h4 : mfX.rt = nodeS (nodeS (leafS tA) (leafS tD)) (leafS tG) := rootAll
    rw [h4] at h1
    simp at h1
  · exact ⟨rfl, h3⟩
/-- Other bytes do not. -/
theorem al_bad {w wz : World} {p gd gs : Nat} {v : Value} {Y : List Value} (h : StAt wz p v mfX Y [(1, 2)]) (hb : Below w.heap.size w wz) (hK : KTab w) (h2 : 2 ≤ w.heap.size) (hd : BytesAt wz (some ⟨gd, 0, none⟩) tX) (hs : SumsAt wz (some ⟨gs, 0, none⟩) [leafS tA, leafS tG]) :
    Calls Tryd.prog 32 #[.pointer (some ⟨p, 0, none⟩), .int .i64 1, .slice (some ⟨gd, 0, none⟩) 3 3, .slice (some ⟨gs, 0, none⟩) 2 2] wz fun e w' => e = .returned (.tuple #[.bool false, .int .i64 226]) ∧ Below wz.heap.size wz w' := by
  have h1 : leadsB mfX.rt 3 1 (leafS tX) [leafS tA, leafS tG] = false := by
    rw [leads_tree]
    have h4 : mfX.rt = nodeS (nodeS (leafS tA) (leafS tD)) (leafS tG) := rootAll
    rw [h4]
    exact decide_eq_false unlike
  have hp := put_any (pc := 2) (i := 1) (V := 3) (c := 3) (G := fun _ _ => False) (PL := [leafS tA, leafS tG]) h refX cntX hd rfl (Nat.le_refl _) (by decide) hs (by decide) lf_two (by decide) (by decide) (hK.kept hb) (Nat.le_trans h2 hb.size) (fun e => absurd (h1.symm.trans e) (by decide))
  refine hp.mono ?_
  rintro e w' (⟨-, rfl, h3⟩ | ⟨h5, -⟩)
  · exact ⟨rfl, h3⟩
  · rw [h1] at h5; cases h5
end Go.Proofs.YtaklbofbhanjgaaDoor
namespace Go.Proofs.YtaklbofbhanjgaaDoor
open Go.RowKit
set_option maxRecDepth 100000
theorem exec_bslice {P : Program} {o : Oper} {a : Act} {w w' : World} {t : TypeId} {n : Nat} {parts : Array (Nat × Operand)} {parts' : Array (Nat × Value)} {v : Value} (ho : o.op = .buildSlice t n parts) (he : (parts.map fun (i, x) => (i, a.eval x)) = parts') (hb : (Instr.buildSlice t n parts').run P w = .ok v w') : (execOp a.eval o).run P w = .ok (.value v) w' := by
  unfold execOp
  rw [ho]
  simp only [he, Sem.run_bind, hb, Result.andThen_ok, Sem.run_pure]
theorem wpList_bslice {P : Program} {ops : Array Oper} {rest : List Oper} {o : Oper} {a : Act} {w w' : World} {Q : Exit → Act → World → Prop} {t : TypeId} {n : Nat} {parts : Array (Nat × Operand)} {parts' : Array (Nat × Value)} {v : Value} (hgd : o.guard = none) (ho : o.op = .buildSlice t n parts) (he : (parts.map fun (i, x) => (i, a.eval x)) = parts') (hb : (Instr.buildSlice t n parts').run P w = .ok v w') (k : wpList P ops Q rest (a.put o.dst v) w') : wpList P ops Q (o :: rest) a w :=
  wpList_plain hgd fun _ hK => step_val (exec_bslice ho he hb) (hK _ _ k)
end Go.Proofs.YtaklbofbhanjgaaDoor
