import Derived.Test.YtimiokbnhneggaaRows
import Derived.Test.YtimiokbnhneggaaBy0
import Derived.JoinedCond
import Derived.ProofKit
import Derived.OpenShut
import Derived.SizedLaws
import Derived.Deep.Slices
import Derived.Test.YtimiokbnhneggaaS2b
namespace Go.Proofs.Ytimiokbnhneggaa
open Go.ChangeShapes Go.WideShapes Go.ChangeAt Go.RowKit Go.Deep

theorem own : ownKnob Try.prog.godebug = none := by kernel_rfl
theorem laidOut : laidOutB Try.prog = true := by kernel_rfl
section
variable {H : Type} {enc : TypeId × Value → H} {P : Program} {w : World} {base : Nat} {spare : Nat → Bool} {held : Bool}
theorem trodAll_five {t t' t'' t3 t4 : TypeId} {args : Array Value} {ds : List (DataW H)} {ps : List MemPlace} (h : DataW.TrodAll enc P w base spare held [t, t', t'', t3, t4] args.toList ds ps) :
    ∃ v v' v'' v3 v4 d d' d'' d3 d4 p p' p'' p3 p4, args = #[v, v', v'', v3, v4] ∧ ds = [d, d', d'', d3, d4] ∧ ps = p ++ p' ++ p'' ++ p3 ++ p4 ∧ DataW.Trod enc P w base spare held t v d p ∧ DataW.Trod enc P w base spare held t' v' d' p' ∧ DataW.Trod enc P w base spare held t'' v'' d'' p'' ∧ DataW.Trod enc P w base spare held t3 v3 d3 p3 ∧ DataW.Trod enc P w base spare held t4 v4 d4 p4 := by
  obtain ⟨v, vs, d, ds', p, q, hargs, rfl, rfl, hd, hrest⟩ := trodAll_cons h
  obtain ⟨v', vs', d', ds'', p', q', rfl, rfl, rfl, hd', hrest'⟩ := trodAll_cons hrest
  obtain ⟨v'', vs'', d'', ds''', p'', q'', rfl, rfl, rfl, hd'', hrest''⟩ := trodAll_cons hrest'
  obtain ⟨v3, vs3, d3, ds3, p3, q3, rfl, rfl, rfl, hd3, hrest3⟩ := trodAll_cons hrest''
  obtain ⟨v4, vs4, d4, ds4, p4, q4, rfl, rfl, rfl, hd4, hrest4⟩ := trodAll_cons hrest3
  obtain ⟨rfl, rfl, rfl⟩ := trodAll_nil hrest4
  exact ⟨v, v', v'', v3, v4, d, d', d'', d3, d4, p, p', p'', p3, p4, by cases args; simp_all, rfl, by simp, hd, hd', hd'', hd3, hd4⟩
theorem trodAll_four' {t t' t'' t3 : TypeId} {args : Array Value} {ds : List (DataW H)} {ps : List MemPlace} (h : DataW.TrodAll enc P w base spare held [t, t', t'', t3] args.toList ds ps) :
    ∃ v v' v'' v3 d d' d'' d3 p p' p'' p3, args = #[v, v', v'', v3] ∧ ds = [d, d', d'', d3] ∧ ps = p ++ p' ++ p'' ++ p3 ∧ DataW.Trod enc P w base spare held t v d p ∧ DataW.Trod enc P w base spare held t' v' d' p' ∧ DataW.Trod enc P w base spare held t'' v'' d'' p'' ∧ DataW.Trod enc P w base spare held t3 v3 d3 p3 := by
  obtain ⟨v, vs, d, dsa, p, q, hargs, rfl, rfl, hd, hrest⟩ := trodAll_cons h
  obtain ⟨v', vs', d', dsb, p', q', rfl, rfl, rfl, hd', hrest'⟩ := trodAll_cons hrest
  obtain ⟨v'', vs'', d'', dsc, p'', q'', rfl, rfl, rfl, hd'', hrest''⟩ := trodAll_cons hrest'
  obtain ⟨v3, vs3, d3, ds3, p3, q3, rfl, rfl, rfl, hd3, hrest3⟩ := trodAll_cons hrest''
  obtain ⟨rfl, rfl, rfl⟩ := trodAll_nil hrest3
  exact ⟨v, v', v'', v3, d, d', d'', d3, p, p', p'', p3, by cases args; simp_all, rfl, by simp, hd, hd', hd'', hd3⟩
end
theorem cells5 : Try.prog.cellsOf 5 = 1 := by kernel_rfl
theorem cells22 : Try.prog.cellsOf 22 = 1 := by kernel_rfl
theorem cells3 : Try.prog.cellsOf 3 = 1 := by kernel_rfl
theorem bytes5 : Try.prog.bytesOf 5 = 1 := by kernel_rfl
theorem addr_off {a : Addr} (h : a.spot = none) (i : Nat) : a.add i = ⟨a.block, a.off + i, none⟩ := by
  obtain ⟨b, o, s⟩ := a
  simp only at h
  subst h
  exact Addr.add_lit b o i
section
variable {H : Type} {enc : TypeId × Value → H} {W : World}
/-- The bytes of a slice: what they weigh. -/
theorem open_bytes {sp : Nat → Bool} {held : Bool} {fuel len cap : Nat} {a : Option Addr} {x : DataW H × List MemPlace} (h : DataW.trod enc Try.prog W 0 sp held fuel 22 [.slice a len cap] = some x) :
    ∃ bs : List (BitVec 8), bs.length = len ∧ BytesAt W a bs ∧ len ≤ cap ∧ (len = 0 ∨ ∃ elems rest, x.1 = .slice elems rest ∧ elems.length = len) := by
  rcases open_slice Try.underlying22 h with ⟨hcs, _⟩ | ⟨ad, l, c, m, n, D, Pl, hcs, _, hl, hm, hmm, hx, hel⟩
  · simp at hcs
    obtain ⟨rfl, rfl, rfl⟩ := hcs
    exact ⟨[], rfl, fun i h => by simp at h, Nat.le_refl _, .inl rfl⟩
  · simp at hcs
    obtain ⟨rfl, rfl, rfl⟩ := hcs
    have hlm : len ≤ m := by rw [hmm]; split <;> omega
    have each : ∀ i, i < m → ∃ b : BitVec 8, W.cell? (ad.add i) = some (.int .u8 (ub b)) := by
      intro i hi
      obtain ⟨cs', h1, h2⟩ := hel i hi
      rw [cells5] at h1
      obtain ⟨_, hlen, hcell⟩ := World.cells?_some h1
      obtain ⟨z, e, _, wz⟩ := DataW.trod_int Try.underlying5 h2
      have := hcell 0 (by omega)
      rw [add_add, e] at this
      have bd := bounds_u8 wz
      refine ⟨BitVec.ofNat 8 z.toNat, ?_⟩
      rw [← ub_of z bd.1 (by omega)]
      simpa using this
    obtain ⟨f, hf⟩ := choose_lt each
    refine ⟨(List.range len).map f, by simp, fun i h => ?_, hl, .inr ⟨_, _, by rw [hx], by simp⟩⟩
    have hi : i < len := by simpa using h
    have h0 := hf 0 (by omega)
    have hs : ad.spot = none := World.cell?_spot (a := ad) (v := .int .u8 (ub (f 0))) (by simpa [Addr.add] using h0)
    have hh := hf i (by omega)
    refine ⟨ad.block, ad.off, ?_, ?_⟩
    · cases ad; simp only at hs; subst hs; rfl
    · rw [addr_off hs] at hh; simpa using hh
end
end Go.Proofs.Ytimiokbnhneggaa
namespace Go.Proofs.Ytimiokbnhneggaa
open Go.ChangeShapes Go.WideShapes Go.ChangeAt Go.RowKit Go.Deep
set_option maxRecDepth 100000

theorem cells4 : Try.prog.cellsOf 4 = 1 := by kernel_rfl
theorem cells31 : Try.prog.cellsOf 31 = 4 := by kernel_rfl
theorem bytes31 : Try.prog.bytesOf 31 = 32 := by kernel_rfl
section
variable {H : Type} {enc : TypeId × Value → H} {W : World}
theorem open_bytes_sized {held : Bool} {fuel len cap : Nat} {a : Option Addr} {x : DataW H × List MemPlace} (h : DataW.trod enc Try.prog W 0 (fun _ => true) held fuel 22 [.slice a len cap] = some x) (hw : ∀ k ∈ x.1.weights Try.prog 22, k ≤ reachBytes) :
    ∃ bs : List (BitVec 8), bs.length = len ∧ BytesAt W a bs ∧ len ≤ cap ∧ cap ≤ maxLen ∧ len ≤ 140737488351232 ∧ (len ≠ 0 → ∀ g o, a = some ⟨g, o, none⟩ → g < W.heap.size) := by
  obtain ⟨bs, h1, h2, h3, h4⟩ := open_bytes h
  have hcm : cap ≤ maxLen := by
    rcases open_slice Try.underlying22 h with ⟨hcs, _⟩ | ⟨ad, l, c, m, n, D, Pl, hcs, _, hl, hm, _⟩
    · simp at hcs
      obtain ⟨rfl, rfl, rfl⟩ := hcs
      exact Nat.zero_le _
    · simp at hcs
      obtain ⟨rfl, rfl, rfl⟩ := hcs
      exact hm
  refine ⟨bs, h1, h2, h3, hcm, ?_, fun hne g o e => ?_⟩
  · rcases h4 with h4 | ⟨elems, rest, h4, h5⟩
    · omega
    · have := hw ((elems.length + _) * Try.prog.bytesOf 5) (by
        rw [h4]
        simp only [DataW.weights, Try.underlying22]
        exact List.mem_cons_self)
      rw [bytes5, h5] at this
      simp only [reachBytes] at this
      omega
  · obtain ⟨g', o', e', c⟩ := h2 0 (by omega)
    rw [e] at e'
    cases e'
    exact World.block_lt_of_cell? W _ c
theorem open_pc {n : Nat} {sp : Nat → Bool} {held : Bool} {cs : List Value} {y : DataW H × List MemPlace} (h : DataW.trod enc Try.prog W 0 sp held n 31 cs = some y) :
    ∃ o : Pc, cs = o.cells ∧ o.n ≤ 9223372036854775807 := by
  obtain ⟨xs, k, _, _, hl, hxl, hf⟩ := DataW.trod_struct Try.underlying31 h
  rw [cells31] at hl
  match cs, hl with
  | [v0, v1, v2, v3], _ =>
    have g0 := hf 0 _ rfl
    have g1 := hf 1 _ rfl
    have g2 := hf 2 _ rfl
    have g3 := hf 3 _ rfl
    have hx : xs.length = 4 := hxl
    match xs, hx with
    | [y0, y1, y2, y3], _ =>
      simp [cells3, cells4] at g0 g1 g2 g3
      obtain ⟨z0, e0, _, w0⟩ := DataW.trod_int Try.underlying3 g0
      obtain ⟨z1, e1, _, w1⟩ := DataW.trod_int Try.underlying3 g1
      obtain ⟨z2, e2, _⟩ := DataW.trod_bool Try.underlying4 g2
      obtain ⟨z3, e3, _, w3⟩ := DataW.trod_int Try.underlying3 g3
      simp at e0 e1 e2 e3
      subst e0 e1 e2 e3
      exact ⟨⟨z0, z1, z2, z3⟩, rfl, (bounds_i64 w3).2⟩
theorem open_pcs {sp : Nat → Bool} {held : Bool} {fuel len cap : Nat} {a : Option Addr} {x : DataW H × List MemPlace} (h : DataW.trod enc Try.prog W 0 sp held fuel 23 [.slice a len cap] = some x) (hw : ∀ k ∈ x.1.weights Try.prog 23, k ≤ reachBytes) :
    ∃ P : List Pc, P.length = len ∧ PcsAt W a P ∧ (∀ o ∈ P, o.n ≤ 9223372036854775807) ∧ len ≤ 140737488351232 := by
  rcases open_slice Try.underlying23 h with ⟨hcs, _⟩ | ⟨ad, l, c, m, n, D, Pl, hcs, _, hl, hm, hmm, hx, hel⟩
  · simp at hcs
    obtain ⟨rfl, rfl, rfl⟩ := hcs
    exact ⟨[], rfl, fun i h => by simp at h, (fun f hf => by cases hf), Nat.zero_le _⟩
  · simp at hcs
    obtain ⟨rfl, rfl, rfl⟩ := hcs
    have hlm : len ≤ m := by rw [hmm]; split <;> omega
    have each : ∀ i, i < len → ∃ o : Pc, (∀ j v, o.cells[j]? = some v → W.cell? (ad.add (i * 4 + j)) = some v) ∧ o.n ≤ 9223372036854775807 := by
      intro i hi
      obtain ⟨cs', h1, h2⟩ := hel i (by omega)
      rw [cells31] at h1
      obtain ⟨_, hlen, hcell⟩ := World.cells?_some h1
      obtain ⟨o, rfl, hb⟩ := open_pc h2
      refine ⟨o, fun j v hv => ?_, hb⟩
      have hj : j < 4 := by have := (List.getElem?_eq_some_iff.1 hv).1; simpa [Pc.cells] using this
      have := hcell j (by omega)
      rw [add_add, hv] at this
      exact this
    obtain ⟨f, hf⟩ := choose_lt each
    refine ⟨(List.range len).map f, by simp, fun i h => ?_, fun o ho => ?_, ?_⟩
    · have hi : i < len := by simpa using h
      have h0 := (hf 0 (by omega)).1 0 _ rfl
      have hs : ad.spot = none := World.cell?_spot (a := ad) (v := .int .i64 (f 0).x) (by simpa [Addr.add] using h0)
      have hh := hf i (by omega)
      refine ⟨ad.block, ad.off, ?_, fun j v hv => ?_⟩
      · cases ad; simp only at hs; subst hs; rfl
      · have h1 := hh.1 j v (by simpa using hv)
        rw [addr_off hs] at h1
        rw [Nat.add_assoc]
        exact h1
    · obtain ⟨j, hj, rfl⟩ := List.mem_map.1 ho
      exact (hf j (by simpa using hj)).2
    · have h1 := hw ((((List.range len).map D).length + _) * Try.prog.bytesOf 31) (by
        rw [hx]
        simp only [DataW.weights, Try.underlying23]
        exact List.mem_cons_self)
      rw [bytes31] at h1
      simp only [reachBytes, List.length_map, List.length_range] at h1
      omega
end
end Go.Proofs.Ytimiokbnhneggaa
namespace Go.Proofs.Ytimiokbnhneggaa
open Go.ChangeShapes Go.WideShapes Go.ChangeAt Go.RowKit Go.Deep
set_option maxRecDepth 100000

/-- A call of the script: Kind, Second, Off, Data, N. -/
structure Opr where
  kind : Int
  sec : Bool
  off : Int
  d : List (BitVec 8)
  da : Option Addr
  dc : Nat
  n : Int
def Opr.cells (o : Opr) : List Value := [.int .i64 o.kind, .bool o.sec, .int .u64 o.off, .slice o.da o.d.length o.dc, .int .i64 o.n]
structure Opr.Ok (W : World) (o : Opr) : Prop where
  byt : BytesAt W o.da o.d
  o0 : 0 ≤ o.off
  o1 : o.off ≤ 18446744073709551615
  lc : o.d.length ≤ o.dc
  cm : o.dc ≤ maxLen
  lt : o.d.length ≠ 0 → ∀ g q, o.da = some ⟨g, q, none⟩ → g < W.heap.size
  n1 : o.n ≤ 9223372036854775807
  dl : o.d.length ≤ 1048576
def OprsAt (w : World) (a : Option Addr) (S : List Opr) : Prop := ∀ k (h : k < S.length), ∃ g o, a = some ⟨g, o, none⟩ ∧ ∀ j v, S[k].cells[j]? = some v → w.cell? ⟨g, o + k * 5 + j, none⟩ = some v
theorem OprsAt.kept {w w' : World} {a : Option Addr} {S : List Opr} (h : OprsAt w a S) (hb : Below w.heap.size w w') : OprsAt w' a S := fun i hi => by
  obtain ⟨g, o, e, h1⟩ := h i hi
  exact ⟨g, o, e, fun j v hv => cell_kept hb (h1 j v hv)⟩
theorem cells67 : Try.prog.cellsOf 67 = 5 := by kernel_rfl
theorem cells28 : Try.prog.cellsOf 28 = 1 := by kernel_rfl
theorem bulk_members {H : Type} : ∀ l : List (DataW H), l.length ≤ Rows.uptoBulkAll l
  | [] => Nat.zero_le _
  | d :: r => by
    have h1 : 1 ≤ Rows.uptoBulk d := by
      match d with
      | .lit l => cases l <;> simp [Rows.uptoBulk]
      | .nil | .ptr _ | .slice _ _ | .agg _ | .iface _ _ | .map _ | .held _ => simp [Rows.uptoBulk]
    have h2 := bulk_members r
    simp only [Rows.uptoBulkAll, List.length_cons]
    omega
theorem bulk_mem {H : Type} {d : DataW H} : ∀ {l : List (DataW H)}, d ∈ l → Rows.uptoBulk d ≤ Rows.uptoBulkAll l
  | x :: r, h => by
    simp only [Rows.uptoBulkAll]
    rcases List.mem_cons.1 h with rfl | h
    · omega
    · have := bulk_mem h; omega
theorem bulk_slice {H : Type} {n : Nat} {d : DataW H} (h : n = 0 ∨ ∃ elems sp, d = .slice elems sp ∧ elems.length = n) : n ≤ Rows.uptoBulk d := by
  rcases h with rfl | ⟨elems, sp, rfl, rfl⟩
  · exact Nat.zero_le _
  · have := bulk_members elems
    simp only [Rows.uptoBulk]
    omega
section
variable {H : Type} {enc : TypeId × Value → H} {W : World}
theorem open_cap {sp : Nat → Bool} {held : Bool} {fuel len cap : Nat} {a : Option Addr} {x : DataW H × List MemPlace} (h : DataW.trod enc Try.prog W 0 sp held fuel 22 [.slice a len cap] = some x) : cap ≤ maxLen := by
  rcases open_slice Try.underlying22 h with ⟨hcs, _⟩ | ⟨ad, l, c, m, n, D, Pl, hcs, _, hl, hm, _⟩
  · simp at hcs
    obtain ⟨rfl, rfl, rfl⟩ := hcs
    exact Nat.zero_le _
  · simp at hcs
    obtain ⟨rfl, rfl, rfl⟩ := hcs
    exact hm
theorem cell_slice {sp : Nat → Bool} {held : Bool} {fuel : Nat} {v : Value} {x : DataW H × List MemPlace} (h : DataW.trod enc Try.prog W 0 sp held fuel 22 [v] = some x) : ∃ a l c, v = .slice a l c := by
  rcases open_slice Try.underlying22 h with ⟨hcs, _⟩ | ⟨ad, l, c, m, n, D, Pl, hcs, _⟩
  · simp at hcs; exact ⟨_, _, _, hcs⟩
  · simp at hcs; exact ⟨_, _, _, hcs⟩
theorem open_opr {n : Nat} {sp : Nat → Bool} {held : Bool} {cs : List Value} {y : DataW H × List MemPlace} (h : DataW.trod enc Try.prog W 0 sp held n 67 cs = some y) (hw : Rows.uptoBulk y.1 ≤ 1048576) :
    ∃ o : Opr, cs = o.cells ∧ o.Ok W := by
  obtain ⟨xs, k, _, hy, hl, hxl, hf⟩ := DataW.trod_struct Try.underlying67 h
  rw [cells67] at hl
  match cs, hl with
  | [v0, v1, v2, v3, v4], _ =>
    have hx : xs.length = 5 := hxl
    match xs, hx with
    | [y0, y1, y2, y3, y4], _ =>
      have g0 := hf 0 _ rfl
      have g1 := hf 1 _ rfl
      have g2 := hf 2 _ rfl
      have g3 := hf 3 _ rfl
      have g4 := hf 4 _ rfl
      simp [cells3, cells4, cells28, cells22] at g0 g1 g2 g3 g4
      obtain ⟨x0, e0, _, _⟩ := DataW.trod_int Try.underlying3 g0
      obtain ⟨x1, e1, _⟩ := DataW.trod_bool Try.underlying4 g1
      obtain ⟨x2, e2, _, w2⟩ := DataW.trod_int Try.underlying28 g2
      obtain ⟨a3, l3, c3, e3⟩ := cell_slice g3
      obtain ⟨x4, e4, _, w4⟩ := DataW.trod_int Try.underlying3 g4
      simp at e0 e1 e2 e4
      subst e0 e1 e2 e3 e4
      obtain ⟨bs, rfl, hB, hlc, hsl⟩ := open_bytes g3
      have hcm := open_cap g3
      have b2 : 0 ≤ x2 ∧ x2 ≤ 18446744073709551615 := by
        have := w2
        simp [Lit.wf, show IntKind.u64.min = 0 by decide, show IntKind.u64.max = 18446744073709551615 by decide] at this
        omega
      refine ⟨⟨x0, x1, x2, bs, a3, c3, x4⟩, rfl, hB, b2.1, b2.2, hlc, hcm, fun hne g o e => ?_, (bounds_i64 w4).2, ?_⟩
      · obtain ⟨g', o', e', c⟩ := hB 0 (by simp only at hne; omega)
        simp only at e
        rw [e] at e'
        cases e'
        exact World.block_lt_of_cell? W _ c
      · have h1 := bulk_slice hsl
        have h2 : Rows.uptoBulk y3.1 ≤ Rows.uptoBulkAll [y0.1, y1.1, y2.1, y3.1, y4.1] := bulk_mem (by simp)
        rw [hy] at hw
        simp only [List.map_cons, List.map_nil, Rows.uptoBulk] at hw
        show bs.length ≤ _
        omega
theorem open_oprs {sp : Nat → Bool} {held : Bool} {fuel len cap : Nat} {a : Option Addr} {x : DataW H × List MemPlace} (h : DataW.trod enc Try.prog W 0 sp held fuel 65 [.slice a len cap] = some x) (hw : Rows.uptoBulk x.1 ≤ 1048576) :
    ∃ O : List Opr, O.length = len ∧ OprsAt W a O ∧ (∀ o ∈ O, o.Ok W) ∧ len ≤ 1048576 := by
  rcases open_slice Try.underlying65 h with ⟨hcs, _⟩ | ⟨ad, l, c, m, n, D, Pl, hcs, _, hl, hm, hmm, hx, hel⟩
  · simp at hcs
    obtain ⟨rfl, rfl, rfl⟩ := hcs
    exact ⟨[], rfl, fun i h => by simp at h, (fun f hf => by cases hf), Nat.zero_le _⟩
  · simp at hcs
    obtain ⟨rfl, rfl, rfl⟩ := hcs
    have hlm : len ≤ m := by rw [hmm]; split <;> omega
    have hbk : Rows.uptoBulkAll ((List.range len).map D) ≤ 1048576 := by
      rw [hx] at hw
      simp only [Rows.uptoBulk] at hw
      omega
    have each : ∀ i, i < len → ∃ o : Opr, (∀ j v, o.cells[j]? = some v → W.cell? (ad.add (i * 5 + j)) = some v) ∧ o.Ok W := by
      intro i hi
      obtain ⟨cs', h1, h2⟩ := hel i (by omega)
      rw [cells67] at h1
      obtain ⟨_, hlen, hcell⟩ := World.cells?_some h1
      obtain ⟨o, rfl, hb⟩ := open_opr h2 (Nat.le_trans (bulk_mem (List.mem_map.2 ⟨i, by simpa using hi, rfl⟩)) hbk)
      refine ⟨o, fun j v hv => ?_, hb⟩
      have hj : j < 5 := by have := (List.getElem?_eq_some_iff.1 hv).1; simpa [Opr.cells] using this
      have := hcell j (by omega)
      rw [add_add, hv] at this
      exact this
    have : Inhabited Opr := ⟨⟨0, false, 0, [], none, 0, 0⟩⟩
    obtain ⟨f, hf⟩ := choose_lt each
    refine ⟨(List.range len).map f, by simp, fun i h => ?_, fun o ho => ?_, ?_⟩
    · have hi : i < len := by simpa using h
      have h0 := (hf 0 (by omega)).1 0 _ rfl
      have hs : ad.spot = none := World.cell?_spot (a := ad) (v := .int .i64 (f 0).kind) (by simpa [Addr.add] using h0)
      have hh := hf i (by omega)
      refine ⟨ad.block, ad.off, ?_, fun j v hv => ?_⟩
      · cases ad; simp only at hs; subst hs; rfl
      · have h1 := hh.1 j v (by simpa using hv)
        rw [addr_off hs] at h1
        rw [Nat.add_assoc]
        exact h1
    · obtain ⟨j, hj, rfl⟩ := List.mem_map.1 ho
      exact (hf j (by simpa using hj)).2
    · have := bulk_members ((List.range len).map D)
      simp at this
      omega
end
end Go.Proofs.Ytimiokbnhneggaa
