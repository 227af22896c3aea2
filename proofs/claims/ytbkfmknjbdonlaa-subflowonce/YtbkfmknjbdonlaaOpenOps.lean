import Derived.Test.YtbkfmknjbdonlaaOpenU
import Derived.Test.YtbkfmknjbdonlaaOnce0
namespace Go.Proofs.Ytbkfmknjbdonlaa
open Go.ChangeShapes Go.WideShapes Go.ChangeAt Go.RowKit Go.Deep
set_option maxRecDepth 100000

theorem cells4 : Try.prog.cellsOf 4 = 1 := by kernel_rfl
theorem cells28 : Try.prog.cellsOf 28 = 1 := by kernel_rfl
theorem cells58 : Try.prog.cellsOf 58 = 2 := by kernel_rfl
theorem cells67 : Try.prog.cellsOf 67 = 7 := by kernel_rfl
theorem bytes58 : Try.prog.bytesOf 58 = 16 := by kernel_rfl
theorem bytes67 : Try.prog.bytesOf 67 = 72 := by kernel_rfl
theorem weights_mem_all {H : Type} {P : Program} {e : TypeId} {d : DataW H} : ∀ {l : List (DataW H)}, d ∈ l → ∀ n ∈ d.weights P e, n ∈ DataW.weightsAll P e l
  | x :: r, h, n, hn => by
    simp only [DataW.weightsAll]
    rcases List.mem_cons.1 h with rfl | h
    · exact List.mem_append_left _ hn
    · exact List.mem_append_right _ (weights_mem_all h n hn)
section
variable {H : Type} {enc : TypeId × Value → H} {W : World}
theorem open_rg {n : Nat} {sp : Nat → Bool} {held : Bool} {cs : List Value} {y : DataW H × List MemPlace} (h : DataW.trod enc Try.prog W 0 sp held n 58 cs = some y) :
    ∃ r : Rg, cs = [.int .u64 r.1, .int .u64 r.2] ∧ 0 ≤ r.1 ∧ r.2 ≤ 18446744073709551615 := by
  obtain ⟨xs, k, _, _, hl, hxl, hf⟩ := DataW.trod_struct Try.underlying58 h
  rw [cells58] at hl
  match cs, hl with
  | [v0, v1], _ =>
    have g0 := hf 0 _ rfl
    have g1 := hf 1 _ rfl
    have hx : xs.length = 2 := hxl
    match xs, hx with
    | [y0, y1], _ =>
      simp [cells36] at g0 g1
      obtain ⟨lo, e0, _, w0⟩ := DataW.trod_int Try.underlying36 g0
      obtain ⟨hi, e1, _, w1⟩ := DataW.trod_int Try.underlying36 g1
      simp at e0 e1
      subst e0 e1
      exact ⟨(lo, hi), rfl, (bounds_u64 w0).1, (bounds_u64 w1).2⟩
theorem open_rgs {sp : Nat → Bool} {held : Bool} {fuel len cap : Nat} {a : Option Addr} {x : DataW H × List MemPlace} (h : DataW.trod enc Try.prog W 0 sp held fuel 28 [.slice a len cap] = some x) :
    ∃ L : List Rg, L.length = len ∧ RgsAt W a L ∧ (∀ r ∈ L, 0 ≤ r.1 ∧ r.2 ≤ 18446744073709551615) ∧ (len = 0 ∨ ∃ elems rest, x.1 = .slice elems rest ∧ elems.length = len) := by
  rcases open_slice Try.underlying28 h with ⟨hcs, _⟩ | ⟨ad, l, c, m, n, D, Pl, hcs, _, hl, hm, hmm, hx, hel⟩
  · simp at hcs
    obtain ⟨rfl, rfl, rfl⟩ := hcs
    exact ⟨[], rfl, (fun i h => by simp at h), (by simp), .inl rfl⟩
  · simp at hcs
    obtain ⟨rfl, rfl, rfl⟩ := hcs
    have hlm : len ≤ m := by rw [hmm]; split <;> omega
    have each : ∀ i, i < m → ∃ r : Rg, W.cell? (ad.add (i * 2)) = some (.int .u64 r.1) ∧ W.cell? (ad.add (i * 2 + 1)) = some (.int .u64 r.2) ∧ 0 ≤ r.1 ∧ r.2 ≤ 18446744073709551615 := by
      intro i hi
      obtain ⟨cs', h1, h2⟩ := hel i hi
      rw [cells58] at h1
      obtain ⟨_, hlen, hcell⟩ := World.cells?_some h1
      obtain ⟨r, rfl, w0, w1⟩ := open_rg h2
      have k0 := hcell 0 (by decide)
      have k1 := hcell 1 (by decide)
      rw [add_add] at k0 k1
      exact ⟨r, by simpa using k0, by simpa using k1, w0, w1⟩
    have hinst : Inhabited Rg := ⟨(0, 0)⟩
    obtain ⟨f, hf⟩ := choose_lt each
    refine ⟨(List.range len).map f, by simp, fun i h => ?_, fun y hy => ?_, .inr ⟨_, _, by rw [hx], by simp⟩⟩
    · have hi : i < len := by simpa using h
      have h0 := (hf 0 (by omega)).1
      have hs : ad.spot = none := World.cell?_spot (a := ad) (v := .int .u64 (f 0).1) (by simpa [Addr.add] using h0)
      have hh := hf i (by omega)
      refine ⟨ad.block, ad.off, ?_, ?_, ?_⟩
      · cases ad; simp only at hs; subst hs; rfl
      · have := hh.1; rw [addr_off hs] at this; simpa using this
      · have := hh.2.1; rw [addr_off hs] at this; simpa [Nat.add_assoc] using this
    · obtain ⟨i, hi, rfl⟩ := List.mem_map.1 hy
      exact (hf i (by have : i < len := by simpa using hi
                      omega)).2.2
theorem cell_slice28 {sp : Nat → Bool} {held : Bool} {fuel : Nat} {v : Value} {x : DataW H × List MemPlace} (h : DataW.trod enc Try.prog W 0 sp held fuel 28 [v] = some x) : ∃ a len cap, v = .slice a len cap := by
  rcases open_slice Try.underlying28 h with ⟨hcs, _⟩ | ⟨ad, l, c, m, n, D, Pl, hcs, _⟩
  · simp at hcs; exact ⟨none, 0, 0, hcs⟩
  · simp at hcs; exact ⟨_, _, _, hcs⟩
theorem open_op_sized {n : Nat} {sp : Nat → Bool} {held : Bool} {cs : List Value} {y : DataW H × List MemPlace} (h : DataW.trod enc Try.prog W 0 sp held n 67 cs = some y) (hw : ∀ k ∈ y.1.weights Try.prog 67, k ≤ reachBytes) :
    ∃ o : OpV, cs = o.cells ∧ RgsAt W o.a o.L ∧ o.Ok := by
  obtain ⟨xs, k, _, hy, hl, hxl, hf⟩ := DataW.trod_struct Try.underlying67 h
  rw [cells67] at hl
  match cs, hl with
  | [v0, v1, v2, v3, v4, v5, v6], _ =>
    have hx : xs.length = 7 := hxl
    match xs, hx with
    | [y0, y1, y2, y3, y4, y5, y6], _ =>
      have g0 := hf 0 _ rfl
      have g1 := hf 1 _ rfl
      have g2 := hf 2 _ rfl
      have g3 := hf 3 _ rfl
      have g4 := hf 4 _ rfl
      have g5 := hf 5 _ rfl
      have g6 := hf 6 _ rfl
      simp [cells3, cells4, cells36, cells28] at g0 g1 g2 g3 g4 g5 g6
      obtain ⟨x0, e0, _, _⟩ := DataW.trod_int Try.underlying3 g0
      obtain ⟨x1, e1, _⟩ := DataW.trod_bool Try.underlying4 g1
      obtain ⟨x2, e2, _, w2⟩ := DataW.trod_int Try.underlying36 g2
      obtain ⟨x3, e3, _, _⟩ := DataW.trod_int Try.underlying3 g3
      obtain ⟨x4, e4, _, _⟩ := DataW.trod_int Try.underlying36 g4
      obtain ⟨x5, e5, _, _⟩ := DataW.trod_int Try.underlying3 g5
      obtain ⟨a6, l6, c6, e6⟩ := cell_slice28 g6
      simp at e0 e1 e2 e3 e4 e5
      subst e0 e1 e2 e3 e4 e5 e6
      obtain ⟨L, rfl, hR, hrs, hsl⟩ := open_rgs g6
      refine ⟨⟨x0, x1, x2, x3, x4, x5, a6, c6, L⟩, rfl, hR, ⟨(bounds_u64 w2).1, (bounds_u64 w2).2, hrs, ?_⟩⟩
      rcases hsl with h0 | ⟨el, sp2, e, e2⟩
      · show (L.length + 4) * 16 ≤ _
        omega
      · have h1 : (el.length + sp2.length) * Try.prog.bytesOf 58 ∈ y.1.weights Try.prog 67 := by
          rw [hy]
          simp only [DataW.weights, Try.underlying67]
          refine DataW.weights_mem_each (j := 6) (t := 28) (d := y6.1) rfl rfl _ ?_
          rw [e]
          simp [DataW.weights, Try.underlying28]
        have h2 := hw _ h1
        rw [bytes58] at h2
        simp only [reachBytes] at h2
        show (L.length + 4) * 16 ≤ _
        omega
theorem open_ops_sized {sp : Nat → Bool} {held : Bool} {fuel len cap : Nat} {a : Option Addr} {x : DataW H × List MemPlace} (h : DataW.trod enc Try.prog W 0 sp held fuel 65 [.slice a len cap] = some x) (hw : ∀ k ∈ x.1.weights Try.prog 65, k ≤ reachBytes) :
    ∃ ops : List OpV, ops.length = len ∧ OpsAt W a ops ∧ (∀ o ∈ ops, o.Ok) ∧ len ≤ 1954687338268 := by
  rcases open_slice Try.underlying65 h with ⟨hcs, _⟩ | ⟨ad, l, c, m, n, D, Pl, hcs, _, hl, hm, hmm, hx, hel⟩
  · simp at hcs
    obtain ⟨rfl, rfl, rfl⟩ := hcs
    exact ⟨[], rfl, fun i h => by simp at h, (fun f hf => by cases hf), Nat.zero_le _⟩
  · simp at hcs
    obtain ⟨rfl, rfl, rfl⟩ := hcs
    have hlm : len ≤ m := by rw [hmm]; split <;> omega
    have each : ∀ i, i < len → ∃ o : OpV, (∀ j v, o.cells[j]? = some v → W.cell? (ad.add (i * 7 + j)) = some v) ∧ RgsAt W o.a o.L ∧ o.Ok := by
      intro i hi
      obtain ⟨cs', h1, h2⟩ := hel i (by omega)
      rw [cells67] at h1
      obtain ⟨_, hlen, hcell⟩ := World.cells?_some h1
      obtain ⟨o, rfl, hB, hb⟩ := open_op_sized h2 (fun k hk => hw k (by
        rw [hx]
        simp only [DataW.weights, Try.underlying65]
        exact List.mem_cons_of_mem _ (List.mem_append_left _ (weights_mem_all (d := D i) (List.mem_map.2 ⟨i, by simpa using hi, rfl⟩) k hk))))
      refine ⟨o, fun j v hv => ?_, hB, hb⟩
      have hj : j < 7 := by have := (List.getElem?_eq_some_iff.1 hv).1; simpa [OpV.cells] using this
      have := hcell j (by omega)
      rw [add_add, hv] at this
      exact this
    obtain ⟨f, hf⟩ := choose_lt each
    refine ⟨(List.range len).map f, by simp, fun i h => ?_, fun o ho => ?_, ?_⟩
    · have hi : i < len := by simpa using h
      have h0 := (hf 0 (by omega)).1 0 _ rfl
      have hs : ad.spot = none := World.cell?_spot (a := ad) (v := .int .i64 (f 0).kind) (by simpa [Addr.add] using h0)
      have hh := hf i (by omega)
      refine ⟨ad.block, ad.off, ?_, fun j v hv => ?_, ?_⟩
      · cases ad; simp only at hs; subst hs; rfl
      · have h1 := hh.1 j v (by simpa using hv)
        rw [addr_off hs] at h1
        rw [Nat.add_assoc]
        exact h1
      · simpa using hh.2.1
    · obtain ⟨j, hj, rfl⟩ := List.mem_map.1 ho
      exact (hf j (by simpa using hj)).2.2
    · have h1 := hw ((((List.range len).map D).length + _) * Try.prog.bytesOf 67) (by
        rw [hx]
        simp only [DataW.weights, Try.underlying65]
        exact List.mem_cons_self)
      rw [bytes67] at h1
      simp only [reachBytes, List.length_map, List.length_range] at h1
      omega
end
end Go.Proofs.Ytbkfmknjbdonlaa
