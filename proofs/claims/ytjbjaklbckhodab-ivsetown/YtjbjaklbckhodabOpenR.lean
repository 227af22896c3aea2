import Derived.Test.YtjbjaklbckhodabForm
import Derived.Test.YtjbjaklbckhodabSorted
import Derived.ProofKit
import Derived.OpenShut
import Derived.SizedLaws
import Derived.Deep.Slices
import Derived.ChangeOld
namespace Go.Proofs.Ytjbjaklbckhodab
open Go.ChangeShapes Go.WideShapes Go.ChangeAt Go.RowKit Go.Deep
set_option maxRecDepth 100000

theorem own : ownKnob Try.prog.godebug = none := by kernel_rfl
theorem laidOut : laidOutB Try.prog = true := by kernel_rfl
theorem cells3 : Try.prog.cellsOf 3 = 1 := by kernel_rfl
theorem cells4 : Try.prog.cellsOf 4 = 1 := by kernel_rfl
theorem cells27 : Try.prog.cellsOf 23 = 1 := by kernel_rfl
theorem cells29 : Try.prog.cellsOf 25 = 2 := by kernel_rfl
theorem cells47 : Try.prog.cellsOf 46 = 5 := by kernel_rfl
theorem bytes47 : Try.prog.bytesOf 46 = 40 := by kernel_rfl
theorem bytes29 : Try.prog.bytesOf 25 = 16 := by kernel_rfl

section
variable {H : Type} {enc : TypeId × Value → H} {W : World} {base : Nat} {spare : Nat → Bool} {held : Bool}

theorem wf_u64 {x : Int} (h : (Lit.int .u64 x).wf = true) : 0 ≤ x ∧ x ≤ 18446744073709551615 := bounds_u64 h

theorem open_rg {n : Nat} {cs : List Value} {y : DataW H × List MemPlace} (h : DataW.trod enc Try.prog W base spare held n 25 cs = some y) :
    ∃ lo hi : Int, cs = [.int .u64 lo, .int .u64 hi] ∧ (0 ≤ lo ∧ lo ≤ 18446744073709551615) ∧ (0 ≤ hi ∧ hi ≤ 18446744073709551615) := by
  obtain ⟨xs, k, _, _, hl, hxl, hf⟩ := DataW.trod_struct Try.underlying25 h
  rw [cells29] at hl
  match cs, hl with
  | [v0, v1], _ =>
    have g0 := hf 0 _ rfl
    have g1 := hf 1 _ rfl
    have hx : xs.length = 2 := hxl
    match xs, hx with
    | [y0, y1], _ =>
      simp [cells27] at g0 g1
      obtain ⟨lo, e0, _, w0⟩ := DataW.trod_int Try.underlying23 g0
      obtain ⟨hi, e1, _, w1⟩ := DataW.trod_int Try.underlying23 g1
      simp at e0 e1
      subst e0 e1
      exact ⟨lo, hi, rfl, wf_u64 w0, wf_u64 w1⟩

theorem open_op {n : Nat} {cs : List Value} {y : DataW H × List MemPlace} (h : DataW.trod enc Try.prog W base spare held n 46 cs = some y) :
    ∃ o : OpV, cs = o.cells ∧ (0 ≤ o.r.1 ∧ o.r.1 ≤ 18446744073709551615) ∧ (0 ≤ o.r.2 ∧ o.r.2 ≤ 18446744073709551615) ∧ (0 ≤ o.x ∧ o.x ≤ 18446744073709551615) ∧ (Lit.int .i64 o.kind).wf = true := by
  obtain ⟨xs, k, _, _, hl, hxl, hf⟩ := DataW.trod_struct Try.underlying46 h
  rw [cells47] at hl
  match cs, hl with
  | [v0, v1, v2, v3, v4], _ =>
    have g0 := hf 0 _ rfl
    have g1 := hf 1 _ rfl
    have g2 := hf 2 _ rfl
    have g3 := hf 3 _ rfl
    have hx : xs.length = 4 := hxl
    match xs, hx with
    | [y0, y1, y2, y3], _ =>
      simp [cells3, cells4, cells27, cells29] at g0 g1 g2 g3
      obtain ⟨kd, e0, _, w0⟩ := DataW.trod_int Try.underlying3 g0
      obtain ⟨ot, e1, _⟩ := DataW.trod_bool Try.underlying4 g1
      obtain ⟨lo, hi, e2, w2, w3⟩ := open_rg g2
      obtain ⟨x, e3, _, w4⟩ := DataW.trod_int Try.underlying23 g3
      simp at e0 e1 e2 e3
      obtain ⟨e2, e2'⟩ := e2
      subst e0 e1 e2 e2' e3
      exact ⟨⟨kd, ot, (lo, hi), x⟩, rfl, w2, w3, wf_u64 w4, w0⟩

theorem addr_off {a : Addr} (h : a.spot = none) (i : Nat) : a.add i = ⟨a.block, a.off + i, none⟩ := by
  obtain ⟨b, o, s⟩ := a
  simp only at h
  subst h
  exact Addr.add_lit b o i

theorem open_ops {fuel len cap : Nat} {a : Option Addr} {x : DataW H × List MemPlace} (h : DataW.trod enc Try.prog W 0 (fun _ => true) true fuel 42 [.slice a len cap] = some x) :
    ∃ S : List OpV, S.length = len ∧ OpsAt W a S ∧ (len = 0 ∨ ∃ elems sp, x.1 = .slice elems sp ∧ elems.length = len) := by
  rcases open_slice Try.underlying42 h with ⟨hcs, _⟩ | ⟨ad, l, c, m, n, D, Pl, hcs, _, hl, hm, hmm, hx, hel⟩
  · simp at hcs
    obtain ⟨rfl, rfl, rfl⟩ := hcs
    exact ⟨[], rfl, ⟨fun i h => by simp at h, by simp⟩, .inl rfl⟩
  · simp at hcs
    obtain ⟨rfl, rfl, rfl⟩ := hcs
    simp only [if_true] at hmm
    subst hmm
    have each : ∀ i, i < m → ∃ o : OpV, (∀ j, j < 5 → W.cell? (ad.add (i * 5 + j)) = o.cells[j]?) ∧ 0 ≤ o.r.1 ∧ o.r.2 ≤ 18446744073709551615 := by
      intro i hi
      obtain ⟨cs', h1, h2⟩ := hel i hi
      rw [cells47] at h1
      obtain ⟨_, hlen, hcell⟩ := World.cells?_some h1
      obtain ⟨o, rfl, w1, w2, _⟩ := open_op h2
      refine ⟨o, fun j hj => ?_, w1.1, w2.2⟩
      have := hcell j hj
      rwa [add_add] at this
    have hinst : Inhabited OpV := ⟨⟨0, false, (0, 0), 0⟩⟩
    obtain ⟨f, hf⟩ := choose_lt each
    refine ⟨(List.range len).map f, by simp, ⟨fun i h => ?_, fun o ho => ?_⟩, ?_⟩
    · have hi : i < len := by simpa using h
      have h0 := (hf 0 (by omega)).1 0 (by omega)
      have hs : ad.spot = none := World.cell?_spot (a := ad) (v := .int .i64 (f 0).kind) (by simpa [Addr.add, OpV.cells] using h0)
      have hh := (hf i (by omega)).1
      have e : ((List.range len).map f)[i] = f i := by simp
      rw [e]
      refine ⟨ad.block, ad.off, ?_, ?_, ?_, ?_, ?_, ?_⟩
      · cases ad; simp only at hs; subst hs; rfl
      · have := hh 0 (by omega); rw [addr_off hs] at this; simpa [OpV.cells] using this
      · have := hh 1 (by omega); rw [addr_off hs] at this; simpa [OpV.cells, Nat.add_assoc] using this
      · have := hh 2 (by omega); rw [addr_off hs] at this; simpa [OpV.cells, Nat.add_assoc] using this
      · have := hh 3 (by omega); rw [addr_off hs] at this; simpa [OpV.cells, Nat.add_assoc] using this
      · have := hh 4 (by omega); rw [addr_off hs] at this; simpa [OpV.cells, Nat.add_assoc] using this
    · simp only [List.mem_map, List.mem_range] at ho
      obtain ⟨i, hi, rfl⟩ := ho
      exact (hf i (by omega)).2
    · right
      exact ⟨_, _, by rw [hx], by simp⟩
end

end Go.Proofs.Ytjbjaklbckhodab
namespace Go.Proofs.Ytjbjaklbckhodab
open Go.ChangeShapes Go.WideShapes Go.ChangeAt Go.RowKit Go.Deep
set_option maxRecDepth 100000

section
variable {H : Type} {enc : TypeId × Value → H} {W : World}
theorem open_rgsA {fuel len cap : Nat} {a : Option Addr} {x : DataW H × List MemPlace} (h : DataW.trod enc Try.prog W 0 (fun _ => true) true fuel 22 [.slice a len cap] = some x) :
    ∃ L : List Rg, L.length = len ∧ Cells W a L ∧ (∀ r ∈ L, (0 ≤ r.1 ∧ r.1 ≤ 18446744073709551615) ∧ (0 ≤ r.2 ∧ r.2 ≤ 18446744073709551615)) ∧ (len = 0 ∨ ∃ elems sp, x.1 = .slice elems sp ∧ elems.length = len) := by
  rcases open_slice Try.underlying22 h with ⟨hcs, _⟩ | ⟨ad, l, c, m, n, D, Pl, hcs, _, hl, hm, hmm, hx, hel⟩
  · simp at hcs
    obtain ⟨rfl, rfl, rfl⟩ := hcs
    exact ⟨[], rfl, ⟨fun h => absurd rfl h⟩, by simp, .inl rfl⟩
  · simp at hcs
    obtain ⟨rfl, rfl, rfl⟩ := hcs
    simp only [if_true] at hmm
    subst hmm
    have each : ∀ i, i < m → ∃ r : Rg, W.cell? (ad.add (i * 2)) = some (.int .u64 r.1) ∧ W.cell? (ad.add (i * 2 + 1)) = some (.int .u64 r.2) ∧ (0 ≤ r.1 ∧ r.1 ≤ 18446744073709551615) ∧ (0 ≤ r.2 ∧ r.2 ≤ 18446744073709551615) := by
      intro i hi
      obtain ⟨cs', h1, h2⟩ := hel i hi
      rw [cells29] at h1
      obtain ⟨_, hlen, hcell⟩ := World.cells?_some h1
      obtain ⟨lo, hi', rfl, w1, w2⟩ := open_rg h2
      have e0 := hcell 0 (by omega)
      have e1 := hcell 1 (by omega)
      rw [add_add] at e0 e1
      exact ⟨(lo, hi'), by simpa using e0, by simpa using e1, w1, w2⟩
    obtain ⟨f, hf⟩ := choose_lt each
    refine ⟨(List.range len).map f, by simp, ⟨fun hne => ⟨ad, rfl, fun j v hj => ?_⟩⟩, fun r hr => ?_, ?_⟩
    · have hjl : j < len * 2 := by have := (List.getElem?_eq_some_iff.1 hj).1; rw [length_flat] at this; simpa using this
      have hk : j / 2 < ((List.range len).map f).length := by simp; omega
      have hg := flat_get ((List.range len).map f) (j / 2) hk
      have hh := hf (j / 2) (by omega)
      have e : ((List.range len).map f)[j / 2] = f (j / 2) := by simp
      rw [e] at hg
      by_cases he : j % 2 = 0
      · rw [show j / 2 * 2 = j by omega] at hg hh
        rw [hg.1] at hj
        rw [hh.1, hj]
      · rw [show j / 2 * 2 + 1 = j by omega] at hg hh
        rw [hg.2] at hj
        rw [hh.2.1, hj]
    · simp only [List.mem_map, List.mem_range] at hr
      obtain ⟨i, hi, rfl⟩ := hr
      exact (hf i (by omega)).2.2
    · right
      exact ⟨_, _, by rw [hx], by simp⟩
theorem open_rgArgA {rc : Reach} {b0 : Nat} {v : Value} {d : DataW H} {ps : List MemPlace} (hval : Value.okWide Try.prog W rc b0 25 v) (hd : DataW.Trod enc Try.prog W 0 (fun _ => true) true 25 v d ps) :
    ∃ lo hi : Int, v = .agg #[.int .u64 lo, .int .u64 hi] ∧ (0 ≤ lo ∧ lo ≤ 18446744073709551615) ∧ (0 ≤ hi ∧ hi ≤ 18446744073709551615) := by
  unfold Value.okWide at hval
  rw [Try.underlying25] at hval
  obtain ⟨cs, rfl, _, _⟩ := hval
  obtain ⟨fuel, hf⟩ := hd
  obtain ⟨lo, hi, e, h1, h2⟩ := open_rg hf
  refine ⟨lo, hi, ?_, h1, h2⟩
  simp only [Value.cells] at e
  rw [show cs = #[.int .u64 lo, .int .u64 hi] from Array.toList_inj.1 e]
end
end Go.Proofs.Ytjbjaklbckhodab
