import Derived.Test.YtimiokbnhneggabOpen
import Derived.Test.YtimiokbnhneggabS2b
namespace Go.Proofs.Ytimiokbnhneggab
open Go.ChangeShapes Go.WideShapes Go.ChangeAt Go.RowKit Go.Deep
set_option maxRecDepth 100000

theorem cells4 : Try.prog.cellsOf 4 = 1 := by kernel_rfl
theorem cells31 : Try.prog.cellsOf 34 = 4 := by kernel_rfl
theorem bytes31 : Try.prog.bytesOf 34 = 32 := by kernel_rfl
section
variable {H : Type} {enc : TypeId × Value → H} {W : World}
theorem open_bytes_sized {held : Bool} {fuel len cap : Nat} {a : Option Addr} {x : DataW H × List MemPlace} (h : DataW.trod enc Try.prog W 0 (fun _ => true) held fuel 22 [.slice a len cap] = some x) (hw : ∀ k ∈ x.1.weights Try.prog 22, k ≤ reachBytes) :
    ∃ bs : List (BitVec 8), bs.length = len ∧ BytesAt W a bs ∧ len ≤ cap ∧ cap ≤ maxLen ∧ len ≤ 140737488351232 ∧ (len ≠ 0 → ∀ g o, a = some ⟨g, o, none⟩ → g < W.heap.size) := by
  obtain ⟨bs, h1, h2, h3, h4⟩ := open_bytes h
  have hcm : cap ≤ maxLen := by
    rcases open_slice Try.underlying22 h with ⟨hcs, _⟩ | ⟨ad, l, c, m, n, D, Pl, hcs, _, hl, hm, _⟩
    · simp at hcs
      obtain ⟨rfl, rfl, rfl⟩ := hcs
      exact Nat.zero_le _
    · simp at hcs
      obtain ⟨rfl, rfl, rfl⟩ := hcs
      exact hm
  refine ⟨bs, h1, h2, h3, hcm, ?_, fun hne g o e => ?_⟩
  · rcases h4 with h4 | ⟨elems, rest, h4, h5⟩
    · omega
    · have := hw ((elems.length + _) * Try.prog.bytesOf 5) (by
        rw [h4]
        simp only [DataW.weights, Try.underlying22]
        exact List.mem_cons_self)
      rw [bytes5, h5] at this
      simp only [reachBytes] at this
      omega
  · obtain ⟨g', o', e', c⟩ := h2 0 (by omega)
    rw [e] at e'
    cases e'
    exact World.block_lt_of_cell? W _ c
theorem open_pc {n : Nat} {sp : Nat → Bool} {held : Bool} {cs : List Value} {y : DataW H × List MemPlace} (h : DataW.trod enc Try.prog W 0 sp held n 34 cs = some y) :
    ∃ o : Pc, cs = o.cells ∧ o.n ≤ 9223372036854775807 := by
  obtain ⟨xs, k, _, _, hl, hxl, hf⟩ := DataW.trod_struct Try.underlying34 h
  rw [cells31] at hl
  match cs, hl with
  | [v0, v1, v2, v3], _ =>
    have g0 := hf 0 _ rfl
    have g1 := hf 1 _ rfl
    have g2 := hf 2 _ rfl
    have g3 := hf 3 _ rfl
    have hx : xs.length = 4 := hxl
    match xs, hx with
    | [y0, y1, y2, y3], _ =>
      simp [cells3, cells4] at g0 g1 g2 g3
      obtain ⟨z0, e0, _, w0⟩ := DataW.trod_int Try.underlying3 g0
      obtain ⟨z1, e1, _, w1⟩ := DataW.trod_int Try.underlying3 g1
      obtain ⟨z2, e2, _⟩ := DataW.trod_bool Try.underlying4 g2
      obtain ⟨z3, e3, _, w3⟩ := DataW.trod_int Try.underlying3 g3
      simp at e0 e1 e2 e3
      subst e0 e1 e2 e3
      exact ⟨⟨z0, z1, z2, z3⟩, rfl, (bounds_i64 w3).2⟩
theorem open_pcs {sp : Nat → Bool} {held : Bool} {fuel len cap : Nat} {a : Option Addr} {x : DataW H × List MemPlace} (h : DataW.trod enc Try.prog W 0 sp held fuel 24 [.slice a len cap] = some x) (hw : ∀ k ∈ x.1.weights Try.prog 24, k ≤ reachBytes) :
    ∃ P : List Pc, P.length = len ∧ PcsAt W a P ∧ (∀ o ∈ P, o.n ≤ 9223372036854775807) ∧ len ≤ 140737488351232 := by
  rcases open_slice Try.underlying24 h with ⟨hcs, _⟩ | ⟨ad, l, c, m, n, D, Pl, hcs, _, hl, hm, hmm, hx, hel⟩
  · simp at hcs
    obtain ⟨rfl, rfl, rfl⟩ := hcs
    exact ⟨[], rfl, fun i h => by simp at h, (fun f hf => by cases hf), Nat.zero_le _⟩
  · simp at hcs
    obtain ⟨rfl, rfl, rfl⟩ := hcs
    have hlm : len ≤ m := by rw [hmm]; split <;> omega
    have each : ∀ i, i < len → ∃ o : Pc, (∀ j v, o.cells[j]? = some v → W.cell? (ad.add (i * 4 + j)) = some v) ∧ o.n ≤ 9223372036854775807 := by
      intro i hi
      obtain ⟨cs', h1, h2⟩ := hel i (by omega)
      rw [cells31] at h1
      obtain ⟨_, hlen, hcell⟩ := World.cells?_some h1
      obtain ⟨o, rfl, hb⟩ := open_pc h2
      refine ⟨o, fun j v hv => ?_, hb⟩
      have hj : j < 4 := by have := (List.getElem?_eq_some_iff.1 hv).1; simpa [Pc.cells] using this
      have := hcell j (by omega)
      rw [add_add, hv] at this
      exact this
    obtain ⟨f, hf⟩ := choose_lt each
    refine ⟨(List.range len).map f, by simp, fun i h => ?_, fun o ho => ?_, ?_⟩
    · have hi : i < len := by simpa using h
      have h0 := (hf 0 (by omega)).1 0 _ rfl
      have hs : ad.spot = none := World.cell?_spot (a := ad) (v := .int .i64 (f 0).x) (by simpa [Addr.add] using h0)
      have hh := hf i (by omega)
      refine ⟨ad.block, ad.off, ?_, fun j v hv => ?_⟩
      · cases ad; simp only at hs; subst hs; rfl
      · have h1 := hh.1 j v (by simpa using hv)
        rw [addr_off hs] at h1
        rw [Nat.add_assoc]
        exact h1
    · obtain ⟨j, hj, rfl⟩ := List.mem_map.1 ho
      exact (hf j (by simpa using hj)).2
    · have h1 := hw ((((List.range len).map D).length + _) * Try.prog.bytesOf 34) (by
        rw [hx]
        simp only [DataW.weights, Try.underlying24]
        exact List.mem_cons_self)
      rw [bytes31] at h1
      simp only [reachBytes, List.length_map, List.length_range] at h1
      omega
end
end Go.Proofs.Ytimiokbnhneggab
