import Derived.Test.YtoeldomhkeancaaEOps
namespace Go.Proofs.Ytoeldomhkeancaa
open Go.ChangeShapes Go.WideShapes Go.ChangeAt Go.RowKit Go.Deep
set_option maxRecDepth 100000

section
variable {H : Type} {enc : TypeId × Value → H} {W : World}
theorem open_bools2 {sp : Nat → Bool} {held : Bool} {fuel len cap : Nat} {a : Option Addr} {x : DataW H × List MemPlace} (h : DataW.trod enc Try.prog W 0 sp held fuel 25 [.slice a len cap] = some x) (hw : ∀ k ∈ x.1.weights Try.prog 25, k ≤ reachBytes) :
    ∃ l : List Bool, l.length = len ∧ ElAt W a (l.map Value.bool) ∧ len + 1 ≤ 140737488355328 ∧ (a = none → cap = 0) := by
  rcases open_slice Try.underlying25 h with ⟨hcs, _⟩ | ⟨ad, l, c, m, n, D, Pl, hcs, _, hl, hm, hmm, hx, hel⟩
  · simp at hcs
    obtain ⟨rfl, rfl, rfl⟩ := hcs
    exact ⟨[], rfl, fun i x h => by simp at h, by decide, fun _ => rfl⟩
  · simp at hcs
    obtain ⟨rfl, rfl, rfl⟩ := hcs
    have hlm : len ≤ m := by rw [hmm]; split <;> omega
    have each : ∀ i, i < m → ∃ b : Bool, W.cell? (ad.add i) = some (.bool b) := by
      intro i hi
      obtain ⟨cs', h1, h2⟩ := hel i hi
      rw [cells4] at h1
      obtain ⟨_, hlen, hcell⟩ := World.cells?_some h1
      obtain ⟨z, e, _⟩ := DataW.trod_bool Try.underlying4 h2
      have := hcell 0 (by omega)
      rw [add_add, e] at this
      exact ⟨z, by simpa using this⟩
    obtain ⟨f, hf⟩ := choose_lt each
    refine ⟨(List.range len).map f, by simp, ?_, ?_, fun e => by cases e⟩
    · rw [List.map_map]
      exact el_of (f := Value.bool ∘ f) (fun i hi => hf i (by omega))
    · have h1 := hw ((((List.range len).map D).length + _) * Try.prog.bytesOf 4) (by
        rw [hx]
        simp only [DataW.weights, Try.underlying25]
        exact List.mem_cons_self)
      rw [bytes4] at h1
      simp only [reachBytes, List.length_map, List.length_range] at h1
      omega
theorem open_jits2 {sp : Nat → Bool} {held : Bool} {fuel len cap : Nat} {a : Option Addr} {x : DataW H × List MemPlace} (h : DataW.trod enc Try.prog W 0 sp held fuel 26 [.slice a len cap] = some x) (hw : ∀ k ∈ x.1.weights Try.prog 26, k ≤ reachBytes) :
    ∃ l : List Int, l.length = len ∧ ElAt W a (l.map (Value.int .i64)) ∧ len + 1 ≤ 17592186044416 ∧ (a = none → cap = 0) := by
  rcases open_slice Try.underlying26 h with ⟨hcs, _⟩ | ⟨ad, l, c, m, n, D, Pl, hcs, _, hl, hm, hmm, hx, hel⟩
  · simp at hcs
    obtain ⟨rfl, rfl, rfl⟩ := hcs
    exact ⟨[], rfl, fun i x h => by simp at h, by decide, fun _ => rfl⟩
  · simp at hcs
    obtain ⟨rfl, rfl, rfl⟩ := hcs
    have hlm : len ≤ m := by rw [hmm]; split <;> omega
    have each : ∀ i, i < m → ∃ b : Int, W.cell? (ad.add i) = some (.int .i64 b) := by
      intro i hi
      obtain ⟨cs', h1, h2⟩ := hel i hi
      rw [cells3] at h1
      obtain ⟨_, hlen, hcell⟩ := World.cells?_some h1
      obtain ⟨z, e, _, _⟩ := DataW.trod_int Try.underlying3 h2
      have := hcell 0 (by omega)
      rw [add_add, e] at this
      exact ⟨z, by simpa using this⟩
    obtain ⟨f, hf⟩ := choose_lt each
    refine ⟨(List.range len).map f, by simp, ?_, ?_, fun e => by cases e⟩
    · rw [List.map_map]
      exact el_of (f := Value.int .i64 ∘ f) (fun i hi => hf i (by omega))
    · have h1 := hw ((((List.range len).map D).length + _) * Try.prog.bytesOf 3) (by
        rw [hx]
        simp only [DataW.weights, Try.underlying26]
        exact List.mem_cons_self)
      rw [bytes3] at h1
      simp only [reachBytes, List.length_map, List.length_range] at h1
      omega
/-- A configuration that was handed in. -/
theorem open_conf2 {n : Nat} {sp : Nat → Bool} {held : Bool} {cs : List Value} {y : DataW H × List MemPlace} (h : DataW.trod enc Try.prog W 0 sp held n 28 cs = some y) (hw : ∀ k ∈ y.1.weights Try.prog 28, k ≤ reachBytes) :
    ∃ (r d q : Int) (la ja : Option Addr) (lc jc : Nat) (loss : List Bool) (jit : List Int), cs = confC r d q (.slice la loss.length lc) (.slice ja jit.length jc) ∧ ElAt W la (loss.map Value.bool) ∧ ElAt W ja (jit.map (Value.int .i64)) ∧ loss.length + 1 ≤ 140737488355328 ∧ (la = none → lc = 0) ∧ jit.length + 1 ≤ 17592186044416 ∧ (ja = none → jc = 0) := by
  obtain ⟨xs, k, _, hy, hl, hxl, hf⟩ := DataW.trod_struct Try.underlying28 h
  rw [cells28] at hl
  match cs, hl with
  | [v0, v1, v2, v3, v4], _ =>
    have hx : xs.length = 5 := hxl
    match xs, hx with
    | [y0, y1, y2, y3, y4], _ =>
      have g0 := hf 0 _ rfl
      have g1 := hf 1 _ rfl
      have g2 := hf 2 _ rfl
      have g3 := hf 3 _ rfl
      have g4 := hf 4 _ rfl
      simp [cells3, cells25, cells26] at g0 g1 g2 g3 g4
      obtain ⟨x0, e0, _, _⟩ := DataW.trod_int Try.underlying3 g0
      obtain ⟨x1, e1, _, _⟩ := DataW.trod_int Try.underlying3 g1
      obtain ⟨x2, e2, _, _⟩ := DataW.trod_int Try.underlying3 g2
      obtain ⟨a3, l3, c3, e3⟩ := cell_slice Try.underlying25 g3
      obtain ⟨a4, l4, c4, e4⟩ := cell_slice Try.underlying26 g4
      simp at e0 e1 e2
      subst e0 e1 e2 e3 e4
      obtain ⟨loss, rfl, hB, hl3, hz3⟩ := open_bools2 g3 (fun k hk => hw k (by
        rw [hy]
        simp only [DataW.weights, Try.underlying28]
        exact DataW.weights_mem_each (j := 3) (t := 25) (d := y3.1) rfl rfl _ hk))
      obtain ⟨jit, rfl, hJ, hl4, hz4⟩ := open_jits2 g4 (fun k hk => hw k (by
        rw [hy]
        simp only [DataW.weights, Try.underlying28]
        exact DataW.weights_mem_each (j := 4) (t := 26) (d := y4.1) rfl rfl _ hk))
      exact ⟨x0, x1, x2, a3, a4, c3, c4, loss, jit, rfl, hB, hJ, hl3, hz3, hl4, hz4⟩
theorem open_confArg2 {rc : Reach} {b0 : Nat} {v : Value} {d : DataW H} {ps : List MemPlace} (hval : Value.okWide Try.prog W rc b0 28 v) (hd : DataW.Trod enc Try.prog W 0 (fun _ => true) true 28 v d ps) (hw : ∀ k ∈ d.weights Try.prog 28, k ≤ reachBytes) :
    ∃ (r d q : Int) (la ja : Option Addr) (lc jc : Nat) (loss : List Bool) (jit : List Int), v = .agg (confC r d q (.slice la loss.length lc) (.slice ja jit.length jc)).toArray ∧ ElAt W la (loss.map Value.bool) ∧ ElAt W ja (jit.map (Value.int .i64)) ∧ loss.length + 1 ≤ 140737488355328 ∧ (la = none → lc = 0) ∧ jit.length + 1 ≤ 17592186044416 ∧ (ja = none → jc = 0) := by
  unfold Value.okWide at hval
  rw [Try.underlying28] at hval
  obtain ⟨cs, rfl, _, _⟩ := hval
  obtain ⟨fuel, hf⟩ := hd
  obtain ⟨r, d, q, la, ja, lc, jc, loss, jit, e, h1, h2, h3, h4, h5, h6⟩ := open_conf2 hf hw
  refine ⟨r, d, q, la, ja, lc, jc, loss, jit, ?_, h1, h2, h3, h4, h5, h6⟩
  simp only [Value.cells] at e
  rw [show cs = (confC r d q (.slice la loss.length lc) (.slice ja jit.length jc)).toArray from Array.toList_inj.1 e]
end
end Go.Proofs.Ytoeldomhkeancaa
