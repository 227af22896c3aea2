import Derived.Test.YtkcoabjeaoigdabRows
import Derived.Test.YtkcoabjeaoigdabPlays
import Derived.ProofKit
import Derived.OpenShut
import Derived.SizedLaws
import Derived.Deep.Slices
namespace Go.Proofs.Ytkcoabjeaoigdab
open Go.ChangeShapes Go.WideShapes Go.ChangeAt Go.RowKit Go.Deep
set_option maxRecDepth 100000

theorem own : ownKnob Try.prog.godebug = none := by kernel_rfl
theorem laidOut : laidOutB Try.prog = true := by kernel_rfl
theorem cells3 : Try.prog.cellsOf 3 = 1 := by kernel_rfl
theorem cells4 : Try.prog.cellsOf 4 = 1 := by kernel_rfl
theorem cells27 : Try.prog.cellsOf 27 = 1 := by kernel_rfl
theorem cells29 : Try.prog.cellsOf 29 = 6 := by kernel_rfl
theorem bytes29 : Try.prog.bytesOf 29 = 48 := by kernel_rfl
theorem addr_off {a : Addr} (h : a.spot = none) (i : Nat) : a.add i = ⟨a.block, a.off + i, none⟩ := by
  obtain ⟨b, o, s⟩ := a
  simp only at h
  subst h
  exact Addr.add_lit b o i
section
variable {H : Type} {enc : TypeId × Value → H} {W : World}
theorem open_op {sp : Nat → Bool} {held : Bool} {n : Nat} {cs : List Value} {y : DataW H × List MemPlace} (h : DataW.trod enc Try.prog W 0 sp held n 29 cs = some y) :
    ∃ o : OpV, cs = o.cells ∧ o.Ok := by
  obtain ⟨xs, k, _, _, hl, hxl, hf⟩ := DataW.trod_struct Try.underlying29 h
  rw [cells29] at hl
  match cs, hl with
  | [v0, v1, v2, v3, v4, v5], _ =>
    have g0 := hf 0 _ rfl
    have g1 := hf 1 _ rfl
    have g2 := hf 2 _ rfl
    have g3 := hf 3 _ rfl
    have g4 := hf 4 _ rfl
    have g5 := hf 5 _ rfl
    have hx : xs.length = 6 := hxl
    match xs, hx with
    | [y0, y1, y2, y3, y4, y5], _ =>
      simp [cells3, cells4, cells27] at g0 g1 g2 g3 g4 g5
      obtain ⟨kd, e0, _, w0⟩ := DataW.trod_int Try.underlying3 g0
      obtain ⟨ot, e1, _⟩ := DataW.trod_bool Try.underlying4 g1
      obtain ⟨p, e2, _, w2⟩ := DataW.trod_int Try.underlying3 g2
      obtain ⟨fr, e3, _, w3⟩ := DataW.trod_int Try.underlying3 g3
      obtain ⟨on, e4, _⟩ := DataW.trod_bool Try.underlying4 g4
      obtain ⟨ms, e5, _, w5⟩ := DataW.trod_int Try.underlying27 g5
      simp at e0 e1 e2 e3 e4 e5
      subst e0 e1 e2 e3 e4 e5
      exact ⟨⟨kd, ot, p, fr, on, ms⟩, rfl, (bounds_i64 w3).2, (bounds_u64 w5).1⟩
theorem open_ops {sp : Nat → Bool} {held : Bool} {fuel len cap : Nat} {a : Option Addr} {x : DataW H × List MemPlace} (h : DataW.trod enc Try.prog W 0 sp held fuel 22 [.slice a len cap] = some x) :
    ∃ S : List OpV, S.length = len ∧ OpsAt W a S ∧ (len = 0 ∨ ∃ elems sp, x.1 = .slice elems sp ∧ elems.length = len) := by
  rcases open_slice Try.underlying22 h with ⟨hcs, _⟩ | ⟨ad, l, c, m, n, D, Pl, hcs, _, hl, hm, hmm, hx, hel⟩
  · simp at hcs
    obtain ⟨rfl, rfl, rfl⟩ := hcs
    exact ⟨[], rfl, ⟨fun i h => by simp at h, by simp⟩, .inl rfl⟩
  · simp at hcs
    obtain ⟨rfl, rfl, rfl⟩ := hcs
    have hlm : len ≤ m := by rw [hmm]; split <;> omega
    have each : ∀ i, i < m → ∃ o : OpV, (∀ j, j < 6 → W.cell? (ad.add (i * 6 + j)) = o.cells[j]?) ∧ o.Ok := by
      intro i hi
      obtain ⟨cs', h1, h2⟩ := hel i hi
      rw [cells29] at h1
      obtain ⟨_, hlen, hcell⟩ := World.cells?_some h1
      obtain ⟨o, rfl, w1⟩ := open_op h2
      refine ⟨o, fun j hj => ?_, w1⟩
      have := hcell j hj
      rwa [add_add] at this
    have hinst : Inhabited OpV := ⟨⟨0, false, 0, 0, false, 0⟩⟩
    obtain ⟨f, hf⟩ := choose_lt each
    refine ⟨(List.range len).map f, by simp, ⟨fun i h => ?_, fun o ho => ?_⟩, .inr ⟨_, _, by rw [hx], by simp⟩⟩
    · have hi : i < len := by simpa using h
      have h0 := (hf 0 (by omega)).1 0 (by omega)
      have hs : ad.spot = none := World.cell?_spot (a := ad) (v := .int .i64 (f 0).kind) (by simpa [Addr.add, OpV.cells] using h0)
      have hh := (hf i (by omega)).1
      have e : ((List.range len).map f)[i] = f i := by simp
      rw [e]
      refine ⟨ad.block, ad.off, ?_, ?_, ?_, ?_, ?_, ?_, ?_⟩
      · cases ad; simp only at hs; subst hs; rfl
      · have := hh 0 (by omega); rw [addr_off hs] at this; simpa [OpV.cells] using this
      · have := hh 1 (by omega); rw [addr_off hs] at this; simpa [OpV.cells, Nat.add_assoc] using this
      · have := hh 2 (by omega); rw [addr_off hs] at this; simpa [OpV.cells, Nat.add_assoc] using this
      · have := hh 3 (by omega); rw [addr_off hs] at this; simpa [OpV.cells, Nat.add_assoc] using this
      · have := hh 4 (by omega); rw [addr_off hs] at this; simpa [OpV.cells, Nat.add_assoc] using this
      · have := hh 5 (by omega); rw [addr_off hs] at this; simpa [OpV.cells, Nat.add_assoc] using this
    · simp only [List.mem_map, List.mem_range] at ho
      obtain ⟨i, hi, rfl⟩ := ho
      exact (hf i (by omega)).2
end
end Go.Proofs.Ytkcoabjeaoigdab
