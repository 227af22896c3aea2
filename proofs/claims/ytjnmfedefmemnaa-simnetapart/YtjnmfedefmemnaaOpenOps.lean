import Derived.Test.YtjnmfedefmemnaaOpen1
namespace Go.Proofs.Ytjnmfedefmemnaa
open Go.ChangeShapes Go.WideShapes Go.ChangeAt Go.RowKit Go.Deep
set_option maxRecDepth 100000

/-- One call of a script, as it lies. -/
structure OpV where
  kind : Int
  second : Bool
  path : Int
  dir : Int
  k : Int
  n : Int
  mask : BitVec 8
  up : Bool
  frame : List (BitVec 8)
  fa : Option Addr
  fcap : Nat
instance : Inhabited OpV := ⟨⟨0, false, 0, 0, 0, 0, 0, false, [], none, 0⟩⟩
def OpV.cells (o : OpV) : List Value := [.int .i64 o.kind, .bool o.second, .int .i64 o.path, .int .i64 o.dir, .int .i64 o.k, .int .i64 o.n, .int .u8 (ub o.mask), .bool o.up, .slice o.fa o.frame.length o.fcap]
/-- A script that lies from an address on. -/
def OpsAt (w : World) (a : Option Addr) (ops : List OpV) : Prop := ∀ i (h : i < ops.length), ∃ g o, a = some ⟨g, o, none⟩ ∧ (∀ j v, ops[i].cells[j]? = some v → w.cell? ⟨g, o + i * 9 + j, none⟩ = some v) ∧ BytesAt w ops[i].fa ops[i].frame
theorem OpsAt.kept {w w' : World} {a : Option Addr} {ops : List OpV} (h : OpsAt w a ops) (hb : Below w.heap.size w w') : OpsAt w' a ops := fun i hi => by
  obtain ⟨g, o, e, h1, h2⟩ := h i hi
  exact ⟨g, o, e, fun j v hv => cell_kept hb (h1 j v hv), h2.kept hb⟩
theorem cells4 : Try.prog.cellsOf 4 = 1 := by kernel_rfl
theorem cells60 : Try.prog.cellsOf 60 = 9 := by kernel_rfl
section
variable {H : Type} {enc : TypeId × Value → H} {W : World}
theorem open_op {n : Nat} {sp : Nat → Bool} {held : Bool} {cs : List Value} {y : DataW H × List MemPlace} (h : DataW.trod enc Try.prog W 0 sp held n 60 cs = some y) :
    ∃ o : OpV, cs = o.cells ∧ BytesAt W o.fa o.frame ∧ o.frame.length ≤ Rows.uptoBulk y.1 := by
  obtain ⟨xs, k, _, hy, hl, hxl, hf⟩ := DataW.trod_struct Try.underlying60 h
  rw [cells60] at hl
  match cs, hl with
  | [v0, v1, v2, v3, v4, v5, v6, v7, v8], _ =>
    have hx : xs.length = 9 := hxl
    match xs, hx with
    | [y0, y1, y2, y3, y4, y5, y6, y7, y8], _ =>
      have g0 := hf 0 _ rfl
      have g1 := hf 1 _ rfl
      have g2 := hf 2 _ rfl
      have g3 := hf 3 _ rfl
      have g4 := hf 4 _ rfl
      have g5 := hf 5 _ rfl
      have g6 := hf 6 _ rfl
      have g7 := hf 7 _ rfl
      have g8 := hf 8 _ rfl
      simp [cells3, cells4, cells5, cells22] at g0 g1 g2 g3 g4 g5 g6 g7 g8
      obtain ⟨x0, e0, _, _⟩ := DataW.trod_int Try.underlying3 g0
      obtain ⟨x1, e1, _⟩ := DataW.trod_bool Try.underlying4 g1
      obtain ⟨x2, e2, _, _⟩ := DataW.trod_int Try.underlying3 g2
      obtain ⟨x3, e3, _, _⟩ := DataW.trod_int Try.underlying3 g3
      obtain ⟨x4, e4, _, _⟩ := DataW.trod_int Try.underlying3 g4
      obtain ⟨x5, e5, _, _⟩ := DataW.trod_int Try.underlying3 g5
      obtain ⟨x6, e6, _, w6⟩ := DataW.trod_int Try.underlying5 g6
      obtain ⟨x7, e7, _⟩ := DataW.trod_bool Try.underlying4 g7
      obtain ⟨a8, l8, c8, e8⟩ := cell_slice g8
      simp at e0 e1 e2 e3 e4 e5 e6 e7
      subst e0 e1 e2 e3 e4 e5 e6 e7 e8
      obtain ⟨bs, rfl, hB, _, hsl⟩ := open_bytes g8
      have b6 := bounds_u8 w6
      refine ⟨⟨x0, x1, x2, x3, x4, x5, BitVec.ofNat 8 x6.toNat, x7, bs, a8, c8⟩, ?_, hB, ?_⟩
      · show _ = [_, _, _, _, _, _, _, _, _]
        rw [← ub_of x6 b6.1 (by omega)]
      · have h1 := bulk_slice hsl
        rw [hy]
        simp only [Rows.uptoBulk, List.map_cons, List.map_nil, Rows.uptoBulkAll]
        omega
theorem open_ops {sp : Nat → Bool} {held : Bool} {fuel len cap : Nat} {a : Option Addr} {x : DataW H × List MemPlace} (h : DataW.trod enc Try.prog W 0 sp held fuel 57 [.slice a len cap] = some x) :
    ∃ ops : List OpV, ops.length = len ∧ OpsAt W a ops ∧ (∀ o ∈ ops, o.frame.length ≤ Rows.uptoBulk x.1) ∧ len ≤ Rows.uptoBulk x.1 := by
  rcases open_slice Try.underlying57 h with ⟨hcs, _⟩ | ⟨ad, l, c, m, n, D, Pl, hcs, _, hl, hm, hmm, hx, hel⟩
  · simp at hcs
    obtain ⟨rfl, rfl, rfl⟩ := hcs
    exact ⟨[], rfl, fun i h => by simp at h, (fun f hf => by cases hf), Nat.zero_le _⟩
  · simp at hcs
    obtain ⟨rfl, rfl, rfl⟩ := hcs
    have hlm : len ≤ m := by rw [hmm]; split <;> omega
    have each : ∀ i, i < m → ∃ o : OpV, (∀ j v, o.cells[j]? = some v → W.cell? (ad.add (i * 9 + j)) = some v) ∧ BytesAt W o.fa o.frame ∧ o.frame.length ≤ Rows.uptoBulk (D i) := by
      intro i hi
      obtain ⟨cs', h1, h2⟩ := hel i hi
      rw [cells60] at h1
      obtain ⟨_, hlen, hcell⟩ := World.cells?_some h1
      obtain ⟨o, rfl, hB, hb⟩ := open_op h2
      refine ⟨o, fun j v hv => ?_, hB, hb⟩
      have hj : j < 9 := by have := (List.getElem?_eq_some_iff.1 hv).1; simpa [OpV.cells] using this
      have := hcell j (by omega)
      rw [add_add, hv] at this
      exact this
    obtain ⟨f, hf⟩ := choose_lt each
    refine ⟨(List.range len).map f, by simp, fun i h => ?_, fun o ho => ?_, bulk_slice (.inr ⟨_, _, by rw [hx], by simp⟩)⟩
    · have hi : i < len := by simpa using h
      have h0 := (hf 0 (by omega)).1 0 _ rfl
      have hs : ad.spot = none := World.cell?_spot (a := ad) (v := .int .i64 (f 0).kind) (by simpa [Addr.add] using h0)
      have hh := hf i (by omega)
      refine ⟨ad.block, ad.off, ?_, fun j v hv => ?_, ?_⟩
      · cases ad; simp only at hs; subst hs; rfl
      · have h1 := hh.1 j v (by simpa using hv)
        rw [addr_off hs] at h1
        rw [Nat.add_assoc]
        exact h1
      · simpa using hh.2.1
    · obtain ⟨j, hj, rfl⟩ := List.mem_map.1 ho
      have hj' : j < len := by simpa using hj
      have h1 := (hf j (by omega)).2.2
      have h2 : D j ∈ (List.range len).map D := List.mem_map.2 ⟨j, by simpa using hj', rfl⟩
      have h3 := bulk_mem h2
      rw [hx]
      simp only [Rows.uptoBulk]
      omega
end
end Go.Proofs.Ytjnmfedefmemnaa
