import Derived.Test.YtapggdkofdlmlaaRows
import Derived.Test.YtapggdkofdlmlaaDuo
import Derived.ProofKit
import Derived.OpenShut
import Derived.SizedLaws
import Derived.Deep.Slices
namespace Go.Proofs.Ytapggdkofdlmlaa
open Go.ChangeShapes Go.WideShapes Go.ChangeAt Go.RowKit Go.Deep
set_option maxRecDepth 100000

theorem own : ownKnob Try.prog.godebug = none := by kernel_rfl
theorem laidOut : laidOutB Try.prog = true := by kernel_rfl
theorem cells3 : Try.prog.cellsOf 3 = 1 := by kernel_rfl
theorem cells4 : Try.prog.cellsOf 4 = 1 := by kernel_rfl
theorem cells25 : Try.prog.cellsOf 25 = 1 := by kernel_rfl
theorem cells35 : Try.prog.cellsOf 35 = 3 := by kernel_rfl
theorem bytes25 : Try.prog.bytesOf 25 = 8 := by kernel_rfl
theorem bytes35 : Try.prog.bytesOf 35 = 24 := by kernel_rfl
theorem addr_off {a : Addr} (h : a.spot = none) (i : Nat) : a.add i = ⟨a.block, a.off + i, none⟩ := by
  obtain ⟨b, o, s⟩ := a
  simp only at h
  subst h
  exact Addr.add_lit b o i
/-- One call of a script. -/
structure OpV where
  kind : Int
  other : Bool
  ms : Int
def OpV.cells (o : OpV) : List Value := [.int .i64 o.kind, .bool o.other, .int .u64 o.ms]
structure OpsAt (w : World) (a : Option Addr) (S : List OpV) : Prop where
  at_ : ∀ k (h : k < S.length), ∃ g o, a = some ⟨g, o, none⟩ ∧ w.cell? ⟨g, o + k * 3, none⟩ = some (.int .i64 S[k].kind) ∧ w.cell? ⟨g, o + k * 3 + 1, none⟩ = some (.bool S[k].other) ∧ w.cell? ⟨g, o + k * 3 + 2, none⟩ = some (.int .u64 S[k].ms)
  ms0 : ∀ o ∈ S, 0 ≤ o.ms
section
variable {H : Type} {enc : TypeId × Value → H} {W : World}
theorem open_u64s {sp : Nat → Bool} {held : Bool} {fuel len cap : Nat} {a : Option Addr} {x : DataW H × List MemPlace} (h : DataW.trod enc Try.prog W 0 sp held fuel 22 [.slice a len cap] = some x) :
    ∃ xs : List Int, xs.length = len ∧ CellsAt W a (xs.map (Value.int .u64)) ∧ (∀ y ∈ xs, 0 ≤ y) ∧ (len = 0 ∨ ∃ elems rest, x.1 = .slice elems rest ∧ elems.length = len) := by
  rcases open_slice Try.underlying22 h with ⟨hcs, _⟩ | ⟨ad, l, c, m, n, D, Pl, hcs, _, hl, hm, hmm, hx, hel⟩
  · simp at hcs
    obtain ⟨rfl, rfl, rfl⟩ := hcs
    exact ⟨[], rfl, (fun i h => by simp at h), (by simp), .inl rfl⟩
  · simp at hcs
    obtain ⟨rfl, rfl, rfl⟩ := hcs
    have hlm : len ≤ m := by rw [hmm]; split <;> omega
    have each : ∀ i, i < m → ∃ b : Int, W.cell? (ad.add i) = some (.int .u64 b) ∧ 0 ≤ b := by
      intro i hi
      obtain ⟨cs', h1, h2⟩ := hel i hi
      rw [cells25] at h1
      obtain ⟨_, hlen, hcell⟩ := World.cells?_some h1
      obtain ⟨z, e, _, wz⟩ := DataW.trod_int Try.underlying25 h2
      have := hcell 0 (by omega)
      rw [add_add, e] at this
      exact ⟨z, by simpa using this, (bounds_u64 wz).1⟩
    obtain ⟨f, hf⟩ := choose_lt each
    refine ⟨(List.range len).map f, by simp, fun i h => ?_, fun y hy => ?_, .inr ⟨_, _, by rw [hx], by simp⟩⟩
    · have hi : i < len := by simpa using h
      have h0 := (hf 0 (by omega)).1
      have hs : ad.spot = none := World.cell?_spot (a := ad) (v := .int .u64 (f 0)) (by simpa [Addr.add] using h0)
      have hh := (hf i (by omega)).1
      refine ⟨ad.block, ad.off, ?_, ?_⟩
      · cases ad; simp only at hs; subst hs; rfl
      · rw [addr_off hs] at hh; simpa using hh
    · obtain ⟨i, hi, rfl⟩ := List.mem_map.1 hy
      exact (hf i (by have : i < len := by simpa using hi
                      omega)).2
theorem open_op {sp : Nat → Bool} {held : Bool} {n : Nat} {cs : List Value} {y : DataW H × List MemPlace} (h : DataW.trod enc Try.prog W 0 sp held n 35 cs = some y) :
    ∃ o : OpV, cs = o.cells ∧ 0 ≤ o.ms := by
  obtain ⟨xs, k, _, _, hl, hxl, hf⟩ := DataW.trod_struct Try.underlying35 h
  rw [cells35] at hl
  match cs, hl with
  | [v0, v1, v2], _ =>
    have g0 := hf 0 _ rfl
    have g1 := hf 1 _ rfl
    have g2 := hf 2 _ rfl
    have hx : xs.length = 3 := hxl
    match xs, hx with
    | [y0, y1, y2], _ =>
      simp [cells3, cells4, cells25] at g0 g1 g2
      obtain ⟨kd, e0, _, w0⟩ := DataW.trod_int Try.underlying3 g0
      obtain ⟨ot, e1, _⟩ := DataW.trod_bool Try.underlying4 g1
      obtain ⟨x, e3, _, w4⟩ := DataW.trod_int Try.underlying25 g2
      simp at e0 e1 e3
      subst e0 e1 e3
      exact ⟨⟨kd, ot, x⟩, rfl, (bounds_u64 w4).1⟩
theorem open_ops {sp : Nat → Bool} {held : Bool} {fuel len cap : Nat} {a : Option Addr} {x : DataW H × List MemPlace} (h : DataW.trod enc Try.prog W 0 sp held fuel 33 [.slice a len cap] = some x) :
    ∃ S : List OpV, S.length = len ∧ OpsAt W a S ∧ (len = 0 ∨ ∃ elems sp, x.1 = .slice elems sp ∧ elems.length = len) := by
  rcases open_slice Try.underlying33 h with ⟨hcs, _⟩ | ⟨ad, l, c, m, n, D, Pl, hcs, _, hl, hm, hmm, hx, hel⟩
  · simp at hcs
    obtain ⟨rfl, rfl, rfl⟩ := hcs
    exact ⟨[], rfl, ⟨fun i h => by simp at h, by simp⟩, .inl rfl⟩
  · simp at hcs
    obtain ⟨rfl, rfl, rfl⟩ := hcs
    have hlm : len ≤ m := by rw [hmm]; split <;> omega
    have each : ∀ i, i < m → ∃ o : OpV, (∀ j, j < 3 → W.cell? (ad.add (i * 3 + j)) = o.cells[j]?) ∧ 0 ≤ o.ms := by
      intro i hi
      obtain ⟨cs', h1, h2⟩ := hel i hi
      rw [cells35] at h1
      obtain ⟨_, hlen, hcell⟩ := World.cells?_some h1
      obtain ⟨o, rfl, w1⟩ := open_op h2
      refine ⟨o, fun j hj => ?_, w1⟩
      have := hcell j hj
      rwa [add_add] at this
    have hinst : Inhabited OpV := ⟨⟨0, false, 0⟩⟩
    obtain ⟨f, hf⟩ := choose_lt each
    refine ⟨(List.range len).map f, by simp, ⟨fun i h => ?_, fun o ho => ?_⟩, .inr ⟨_, _, by rw [hx], by simp⟩⟩
    · have hi : i < len := by simpa using h
      have h0 := (hf 0 (by omega)).1 0 (by omega)
      have hs : ad.spot = none := World.cell?_spot (a := ad) (v := .int .i64 (f 0).kind) (by simpa [Addr.add, OpV.cells] using h0)
      have hh := (hf i (by omega)).1
      have e : ((List.range len).map f)[i] = f i := by simp
      rw [e]
      refine ⟨ad.block, ad.off, ?_, ?_, ?_, ?_⟩
      · cases ad; simp only at hs; subst hs; rfl
      · have := hh 0 (by omega); rw [addr_off hs] at this; simpa [OpV.cells] using this
      · have := hh 1 (by omega); rw [addr_off hs] at this; simpa [OpV.cells, Nat.add_assoc] using this
      · have := hh 2 (by omega); rw [addr_off hs] at this; simpa [OpV.cells, Nat.add_assoc] using this
    · simp only [List.mem_map, List.mem_range] at ho
      obtain ⟨i, hi, rfl⟩ := ho
      exact (hf i (by omega)).2
end
end Go.Proofs.Ytapggdkofdlmlaa
