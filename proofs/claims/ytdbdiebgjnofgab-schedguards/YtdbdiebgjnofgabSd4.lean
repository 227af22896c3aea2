import Derived.Test.YtdbdiebgjnofgabSd3
namespace Go.Proofs.Ytdbdiebgjnofgab
open Go.RowKit Go.Maps Go.Sort
set_option maxRecDepth 100000

/-- What a scheduler sees. -/
structure Vw where
  a : Option Addr
  cap : Nat
  L : List Pv
  has : Bool
  want : Cu
  edge : Int
  mss : Int
abbrev Vw.cells (V : Vw) : List Value := [.slice V.a V.L.length V.cap, .bool V.has, .int .u64 V.want.off, .int .i64 V.want.len, .bool V.want.fin, .slice V.want.on.a V.want.on.n V.want.on.c, .bool V.want.held, .int .u64 V.edge, .int .i64 V.mss]
abbrev Vw.val (V : Vw) : Value := .agg V.cells.toArray
structure VwAt (w : World) (V : Vw) : Prop where
  at_ : PathsAt w V.a V.L
  few : V.L.length ≤ 1466015503701
theorem VwAt.kept {w w' : World} {V : Vw} (h : VwAt w V) (hb : Below w.heap.size w w') : VwAt w' V := ⟨h.at_.kept hb, h.few⟩
/-- A kind of scheduler: what its Next answers, if it does nothing but make memory. -/
def IsN (w : World) (f : Nat) (r : Value) (V : Vw) (x : Option Pk) : Prop := ∀ w', Below w.heap.size w w' → Calls Try.prog f #[r, V.val] w' fun e w'' => e = .returned (pkv x) ∧ Below w'.heap.size w' w''
/-- What a Next of a kind keeps while it runs: the view's box, the result's box, the paths. -/
structure St (w : World) (x y : Nat) (cs : List Value) (a : Option Addr) (L : List Pv) (wc : World) : Prop where
  b : Below w.heap.size w wc
  v : Row wc x cs 28
  p : Row wc y pk0 32
  at_ : PathsAt wc a L
theorem St.kept {w : World} {x y : Nat} {cs : List Value} {a : Option Addr} {L : List Pv} {w1 w2 : World} (h : St w x y cs a L w1) (hb : Below w1.heap.size w1 w2) : St w x y cs a L w2 :=
  ⟨h.b.trans (hb.mono h.b.size), h.v.kept hb h.v.lt, h.p.kept hb h.p.lt, h.at_.kept hb⟩
theorem St.drawn {w : World} {x y : Nat} {cs : List Value} {a : Option Addr} {L : List Pv} {w1 : World} (h : St w x y cs a L w1) (k : Nat) : St w x y cs a L { w1 with drawn := k } := h.kept (below_drawn (Below.refl _ _) k)
theorem St.cells {w : World} {x y : Nat} {c0 c1 c2 c3 c4 c5 c6 c7 c8 : Value} {a : Option Addr} {L : List Pv} {w1 : World} (h : St w x y [c0, c1, c2, c3, c4, c5, c6, c7, c8] a L w1) :
    w1.cell? ⟨x, 0, none⟩ = some c0 ∧ w1.cell? ⟨x, 1, none⟩ = some c1 ∧ w1.cell? ⟨x, 2, none⟩ = some c2 ∧ w1.cell? ⟨x, 3, none⟩ = some c3 ∧ w1.cell? ⟨x, 4, none⟩ = some c4 ∧ w1.cell? ⟨x, 5, none⟩ = some c5 ∧ w1.cell? ⟨x, 6, none⟩ = some c6 ∧ w1.cell? ⟨x, 7, none⟩ = some c7 ∧ w1.cell? ⟨x, 8, none⟩ = some c8 :=
  ⟨h.v.cell 0 _ rfl, h.v.cell 1 _ rfl, h.v.cell 2 _ rfl, h.v.cell 3 _ rfl, h.v.cell 4 _ rfl, h.v.cell 5 _ rfl, h.v.cell 6 _ rfl, h.v.cell 7 _ rfl, h.v.cell 8 _ rfl⟩
theorem St.res {w : World} {x y : Nat} {cs : List Value} {a : Option Addr} {L : List Pv} {w1 : World} (h : St w x y cs a L w1) :
    (w1.cell? ⟨y, 0, none⟩ = some (.int .i64 0) ∧ w1.cell? ⟨y, 1, none⟩ = some (.int .u64 0) ∧ w1.cell? ⟨y, 2, none⟩ = some (.int .i64 0)) ∧ w1.frozen? ⟨y, 0, none⟩ = false ∧ w1.frozen? ⟨y, 1, none⟩ = false ∧ w1.frozen? ⟨y, 2, none⟩ = false :=
  ⟨⟨h.p.cell 0 _ rfl, h.p.cell 1 _ rfl, h.p.cell 2 _ rfl⟩, h.p.frozen 0, h.p.frozen 1, h.p.frozen 2⟩
def sendO (x : Int) (c : Cu) : Option Pk := if x < 0 then none else some ⟨x, c.off, c.len⟩
def Vw.fastest (V : Vw) : Int := bst (rdy V.L) Pv.time V.L V.L.length
def minO (V : Vw) : Option Pk := if V.has = true then sendO V.fastest V.want else none
set_option maxHeartbeats 4000000 in
theorem min_any {w : World} {V : Vw} (h : VwAt w V) : Calls Try.prog 96 #[.agg #[], V.val] w fun e w' => e = .returned (pkv (minO V)) ∧ Below w.heap.size w w' := by
  obtain ⟨a, cap, L, has, want, edge, mss⟩ := V
  obtain ⟨h1, h2⟩ := h
  simp only [Vw.val, Vw.cells, minO, Vw.fastest] at h1 h2 ⊢
  cases has with
  | false =>
    rw [if_neg (by decide)]
    go_enter Try.func96, Try.ntmps96
    go_wp2
    refine bodyPost_ret (Row.result2 (c := pk0) (t := 32) (Row.new' _ _ _ _ _ (by simp) rfl) Try.results96 _ rfl _ Try.underlying32 rfl i36) rfl ⟨rfl, ?_⟩
    exact (((Below.refl _ _).alloc (Nat.le_refl _) _).alloc (by simp) _).alloc (by simp; omega) _
  | true =>
    rw [if_pos rfl]
    obtain ⟨n, hn⟩ : ∃ n, L.length = n := ⟨_, rfl⟩
    rw [hn] at h2 ⊢
    have HA := hid h1
    have HN := hid hn
    have HF := hid h2
    generalize hB : bst (rdy L) Pv.time L n = B
    have HBE := hid hB
    clear h1 h2 hn hB
    go_enter Try.func96, Try.ntmps96
    go_upto_region 3 with fail
    refine wp_world fun W HW => ?_
    obtain ⟨x, hx⟩ : ∃ x, x = w.heap.size + 1 := ⟨_, rfl⟩
    obtain ⟨y, hy⟩ : ∃ y, y = w.heap.size + 1 + 1 := ⟨_, rfl⟩
    have HY : Hid (w.heap.size ≤ y) := by show _ ≤ _; omega
    have ne1 : ¬ x = y := by omega
    have ne2 : ¬ y = x := by omega
    have HS : Hid (St w x y [.slice a n cap, .bool true, .int .u64 want.off, .int .i64 want.len, .bool want.fin, .slice want.on.a want.on.n want.on.c, .bool want.held, .int .u64 edge, .int .i64 mss] a L W) := by
      have hb : Below w.heap.size w W := by rw [HW.out]; exact (((Below.refl _ _).alloc (Nat.le_refl _) _).alloc (by simp) _).alloc (by simp; omega) _
      refine ⟨hb, ?_, ?_, HA.out.kept hb⟩
      · rw [HW.out, hx]; exact (Row.new' _ _ _ _ _ (by simp) rfl).alloc _
      · rw [HW.out, hy]; exact Row.new' _ _ _ _ _ (by simp) rfl
    rw [← hy, ← hx]
    clear HW hx hy HA
    obtain ⟨b0, b1, b2, b3, b4, b5, b6, b7, b8⟩ := HS.out.cells
    replace HS := hid (HS.out.drawn (W.drawn + 1))
    by_cases hB : B < 0
    · have HSN := hid (fun w => send_no w want B hB)
      simp only [Cu.val, Cu.cells] at HSN
      have HSO : Hid (sendO B want = none) := if_pos hB
      clear hB
      go_region_held3 (fun w' => w'.cell? ⟨x, 0, none⟩ = some (.slice a n cap) ∧ w'.cell? ⟨x, 2, none⟩ = some (.int .u64 want.off) ∧ w'.cell? ⟨x, 3, none⟩ = some (.int .i64 want.len) ∧ w'.cell? ⟨x, 4, none⟩ = some (.bool want.fin) ∧ w'.cell? ⟨x, 5, none⟩ = some (.slice want.on.a want.on.n want.on.c) ∧ w'.cell? ⟨x, 6, none⟩ = some (.bool want.held)) (go_keep)
        (first
          | (go_at_call 99; refine (ready_any HS.out.at_ n cap HN.out (by have := HF.out; omega)).mono ?_; rintro e w2 ⟨hb2, c2, rfl, hT⟩; have HT := hid hT; replace HS := hid (HS.out.kept hb2); clear hT hb2 b0 b1 b2 b3 b4 b5 b6 b7 b8; obtain ⟨b0, b1, b2, b3, b4, b5, b6, b7, b8⟩ := HS.out.cells)
          | (go_at_call 98; refine (quick_any HS.out.at_ n cap HN.out (by have := HF.out; omega) HT.out eg51).mono ?_; rintro e w3 ⟨rfl, hb3⟩; rw [HBE.out]; replace HS := hid (HS.out.kept hb3); clear hb3 HT b0 b1 b2 b3 b4 b5 b6 b7 b8; obtain ⟨b0, b1, b2, b3, b4, b5, b6, b7, b8⟩ := HS.out.cells)
          | (go_at_call 97; refine (HSN.out _).mono ?_; rintro e w4 ⟨rfl, hb4⟩; replace HS := hid (HS.out.kept hb4); clear hb4 b0 b1 b2 b3 b4 b5 b6 b7 b8; obtain ⟨b0, b1, b2, b3, b4, b5, b6, b7, b8⟩ := HS.out.cells; obtain ⟨⟨y0, y1, y2⟩, z0, z1, z2⟩ := HS.out.res))
      go_wp2
      refine bodyPost_ret (Row.result2 (c := [.int .i64 0, .int .u64 0, .int .i64 0]) (((HS.out.p.set 0 (.int .i64 0)).set 1 (.int .u64 0)).set 2 (.int .i64 0)) Try.results96 _ rfl _ Try.underlying32 rfl i36) rfl ⟨by rw [HSO.out]; rfl, ?_⟩
      exact ((HS.out.b.setCell (p := ⟨y, 0, none⟩) HY.out _).setCell (p := ⟨y, 1, none⟩) HY.out _).setCell (p := ⟨y, 2, none⟩) HY.out _
    · have HSN := hid (fun w => send_yes w want B hB)
      simp only [Cu.val, Cu.cells] at HSN
      have HSO : Hid (sendO B want = some ⟨B, want.off, want.len⟩) := if_neg hB
      clear hB
      go_region_held3 (fun w' => w'.cell? ⟨x, 0, none⟩ = some (.slice a n cap) ∧ w'.cell? ⟨x, 2, none⟩ = some (.int .u64 want.off) ∧ w'.cell? ⟨x, 3, none⟩ = some (.int .i64 want.len) ∧ w'.cell? ⟨x, 4, none⟩ = some (.bool want.fin) ∧ w'.cell? ⟨x, 5, none⟩ = some (.slice want.on.a want.on.n want.on.c) ∧ w'.cell? ⟨x, 6, none⟩ = some (.bool want.held)) (go_keep)
        (first
          | (go_at_call 99; refine (ready_any HS.out.at_ n cap HN.out (by have := HF.out; omega)).mono ?_; rintro e w2 ⟨hb2, c2, rfl, hT⟩; have HT := hid hT; replace HS := hid (HS.out.kept hb2); clear hT hb2 b0 b1 b2 b3 b4 b5 b6 b7 b8; obtain ⟨b0, b1, b2, b3, b4, b5, b6, b7, b8⟩ := HS.out.cells)
          | (go_at_call 98; refine (quick_any HS.out.at_ n cap HN.out (by have := HF.out; omega) HT.out eg51).mono ?_; rintro e w3 ⟨rfl, hb3⟩; rw [HBE.out]; replace HS := hid (HS.out.kept hb3); clear hb3 HT b0 b1 b2 b3 b4 b5 b6 b7 b8; obtain ⟨b0, b1, b2, b3, b4, b5, b6, b7, b8⟩ := HS.out.cells)
          | (go_at_call 97; refine (HSN.out _).mono ?_; rintro e w4 ⟨rfl, hb4⟩; replace HS := hid (HS.out.kept hb4); clear hb4 b0 b1 b2 b3 b4 b5 b6 b7 b8; obtain ⟨b0, b1, b2, b3, b4, b5, b6, b7, b8⟩ := HS.out.cells; obtain ⟨⟨y0, y1, y2⟩, z0, z1, z2⟩ := HS.out.res))
      go_wp2
      refine bodyPost_ret (Row.result2 (c := [.int .i64 B, .int .u64 want.off, .int .i64 want.len]) (((HS.out.p.set 0 (.int .i64 B)).set 1 (.int .u64 want.off)).set 2 (.int .i64 want.len)) Try.results96 _ rfl _ Try.underlying32 rfl i36) rfl ⟨by rw [HSO.out]; rfl, ?_⟩
      exact ((HS.out.b.setCell (p := ⟨y, 0, none⟩) HY.out _).setCell (p := ⟨y, 1, none⟩) HY.out _).setCell (p := ⟨y, 2, none⟩) HY.out _
end Go.Proofs.Ytdbdiebgjnofgab
