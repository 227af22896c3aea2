import Derived.Test.YtahkbklhngiloaaRows
import Derived.Test.YtahkbklhngiloaaCr2
import Derived.JoinedCond
import Derived.ProofKit
import Derived.OpenShut
import Derived.SizedLaws
import Derived.Deep.Slices
namespace Go.Proofs.Ytahkbklhngiloaa
open Go.ChangeShapes Go.WideShapes Go.ChangeAt Go.RowKit Go.Deep
set_option maxRecDepth 100000

theorem own : ownKnob Try.prog.godebug = none := by kernel_rfl
theorem laidOut : laidOutB Try.prog = true := by kernel_rfl
theorem cells3 : Try.prog.cellsOf 3 = 1 := by kernel_rfl
theorem cells4 : Try.prog.cellsOf 4 = 1 := by kernel_rfl
theorem cells22 : Try.prog.cellsOf 22 = 1 := by kernel_rfl
theorem cells24 : Try.prog.cellsOf 24 = 3 := by kernel_rfl
theorem cells35 : Try.prog.cellsOf 35 = 4 := by kernel_rfl
theorem bytes35 : Try.prog.bytesOf 35 = 32 := by kernel_rfl
theorem addr_off {a : Addr} (h : a.spot = none) (i : Nat) : a.add i = ⟨a.block, a.off + i, none⟩ := by
  obtain ⟨b, o, s⟩ := a
  simp only at h
  subst h
  exact Addr.add_lit b o i
/-- A call of the script. -/
structure OpC where
  kind : Int
  sec : Bool
  id : Int
  n : Int
def OpC.cells (o : OpC) : List Value := [.int .i64 o.kind, .bool o.sec, .int .u64 o.id, .int .u64 o.n]
structure OpC.Ok (o : OpC) : Prop where
  i0 : 0 ≤ o.id
  i1 : o.id ≤ 18446744073709551615
  n0 : 0 ≤ o.n
  n1 : o.n ≤ 18446744073709551615
def OpcAt (w : World) (a : Option Addr) (Os : List OpC) : Prop :=
  ∀ i (h : i < Os.length), ∃ g o, a = some ⟨g, o, none⟩ ∧ (∀ j v, (Os[i]).cells[j]? = some v → w.cell? ⟨g, o + (i * 4 + j), none⟩ = some v) ∧ (Os[i]).Ok
section
variable {H : Type} {enc : TypeId × Value → H} {W : World} {P : Program} {w : World} {base : Nat} {spare : Nat → Bool} {held : Bool}
theorem trodAll_four' {t t' t'' t3 : TypeId} {args : Array Value} {ds : List (DataW H)} {ps : List MemPlace} (h : DataW.TrodAll enc P w base spare held [t, t', t'', t3] args.toList ds ps) :
    ∃ v v' v'' v3 d d' d'' d3 p p' p'' p3, args = #[v, v', v'', v3] ∧ ds = [d, d', d'', d3] ∧ ps = p ++ p' ++ p'' ++ p3 ∧ DataW.Trod enc P w base spare held t v d p ∧ DataW.Trod enc P w base spare held t' v' d' p' ∧ DataW.Trod enc P w base spare held t'' v'' d'' p'' ∧ DataW.Trod enc P w base spare held t3 v3 d3 p3 := by
  obtain ⟨v, vs, d, dsa, p, q, hargs, rfl, rfl, hd, hrest⟩ := trodAll_cons h
  obtain ⟨v', vs', d', dsb, p', q', rfl, rfl, rfl, hd', hrest'⟩ := trodAll_cons hrest
  obtain ⟨v'', vs'', d'', dsc, p'', q'', rfl, rfl, rfl, hd'', hrest''⟩ := trodAll_cons hrest'
  obtain ⟨v3, vs3, d3, ds3, p3, q3, rfl, rfl, rfl, hd3, hrest3⟩ := trodAll_cons hrest''
  obtain ⟨rfl, rfl, rfl⟩ := trodAll_nil hrest3
  exact ⟨v, v', v'', v3, d, d', d'', d3, p, p', p'', p3, by cases args; simp_all, rfl, by simp, hd, hd', hd'', hd3⟩
theorem open_opc {n : Nat} {sp : Nat → Bool} {held : Bool} {cs : List Value} {y : DataW H × List MemPlace} (h : DataW.trod enc Try.prog W 0 sp held n 35 cs = some y) : ∃ o : OpC, cs = o.cells ∧ o.Ok := by
  obtain ⟨xs, k, _, _, hl, hxl, hf⟩ := DataW.trod_struct Try.underlying35 h
  rw [cells35] at hl
  match cs, hl with
  | [v0, v1, v2, v3], _ =>
    have hx : xs.length = 4 := hxl
    match xs, hx with
    | [y0, y1, y2, y3], _ =>
      have g0 := hf 0 _ rfl
      have g1 := hf 1 _ rfl
      have g2 := hf 2 _ rfl
      have g3 := hf 3 _ rfl
      simp [cells3, cells4, cells22] at g0 g1 g2 g3
      obtain ⟨x0, e0, _, _⟩ := DataW.trod_int Try.underlying3 g0
      obtain ⟨x1, e1, _⟩ := DataW.trod_bool Try.underlying4 g1
      obtain ⟨x2, e2, _, w2⟩ := DataW.trod_int Try.underlying22 g2
      obtain ⟨x3, e3, _, w3⟩ := DataW.trod_int Try.underlying22 g3
      simp at e0 e1 e2 e3
      subst e0 e1 e2 e3
      have b2 := bounds_u64 w2
      have b3 := bounds_u64 w3
      exact ⟨⟨x0, x1, x2, x3⟩, rfl, ⟨b2.1, b2.2, b3.1, b3.2⟩⟩
theorem open_opcs {sp : Nat → Bool} {held : Bool} {fuel len cap : Nat} {a : Option Addr} {x : DataW H × List MemPlace} (h : DataW.trod enc Try.prog W 0 sp held fuel 25 [.slice a len cap] = some x) (hw : ∀ k ∈ x.1.weights Try.prog 25, k ≤ reachBytes) :
    ∃ Os : List OpC, Os.length = len ∧ OpcAt W a Os ∧ len ≤ 4398046511104 := by
  rcases open_slice Try.underlying25 h with ⟨hcs, _⟩ | ⟨ad, l, c, m, n, D, Pl, hcs, _, hl, hm, hmm, hx, hel⟩
  · simp at hcs
    obtain ⟨rfl, rfl, rfl⟩ := hcs
    exact ⟨[], rfl, fun i h => by simp at h, Nat.zero_le _⟩
  · simp at hcs
    obtain ⟨rfl, rfl, rfl⟩ := hcs
    have hlm : len ≤ m := by rw [hmm]; split <;> omega
    have each : ∀ i, i < len → ∃ o : OpC, (∀ j v, o.cells[j]? = some v → W.cell? (ad.add (i * 4 + j)) = some v) ∧ o.Ok := by
      intro i hi
      obtain ⟨cs', h1, h2⟩ := hel i (by omega)
      rw [cells35] at h1
      obtain ⟨_, hlen, hcell⟩ := World.cells?_some h1
      obtain ⟨o, rfl, hb⟩ := open_opc h2
      refine ⟨o, fun j v hv => ?_, hb⟩
      have hj : j < 4 := by have := (List.getElem?_eq_some_iff.1 hv).1; simpa [OpC.cells] using this
      have := hcell j (by omega)
      rw [add_add, hv] at this
      exact this
    have hinst : Inhabited OpC := ⟨⟨0, false, 0, 0⟩⟩
    obtain ⟨f, hf⟩ := choose_lt each
    refine ⟨(List.range len).map f, by simp, fun i h => ?_, ?_⟩
    · have hi : i < len := by simpa using h
      have h0 := (hf 0 (by omega)).1 0 _ rfl
      have hs : ad.spot = none := World.cell?_spot (a := ad) (v := .int .i64 (f 0).kind) (by simpa [Addr.add] using h0)
      have hh := hf i (by omega)
      refine ⟨ad.block, ad.off, ?_, fun j v hv => ?_, ?_⟩
      · cases ad; simp only at hs; subst hs; rfl
      · have h1 := hh.1 j v (by simpa using hv)
        rw [addr_off hs] at h1
        exact h1
      · simpa using hh.2
    · have h1 := hw ((((List.range len).map D).length + _) * Try.prog.bytesOf 35) (by
        rw [hx]
        simp only [DataW.weights, Try.underlying25]
        exact List.mem_cons_self)
      rw [bytes35] at h1
      simp only [reachBytes, List.length_map, List.length_range] at h1
      omega
/-- An Op by value. -/
theorem open_opArg {rc : Reach} {b0 : Nat} {v : Value} {d : DataW H} {ps : List MemPlace} (hval : Value.okWide Try.prog W rc b0 35 v) (hd : DataW.Trod enc Try.prog W 0 (fun _ => true) true 35 v d ps) :
    ∃ o : OpC, v = .agg #[.int .i64 o.kind, .bool o.sec, .int .u64 o.id, .int .u64 o.n] ∧ o.Ok := by
  unfold Value.okWide at hval
  rw [Try.underlying35] at hval
  obtain ⟨cs, rfl, _, _⟩ := hval
  obtain ⟨fuel, hf⟩ := hd
  obtain ⟨o, e, h1⟩ := open_opc hf
  refine ⟨o, ?_, h1⟩
  simp only [Value.cells] at e
  rw [show cs = #[.int .i64 o.kind, .bool o.sec, .int .u64 o.id, .int .u64 o.n] from Array.toList_inj.1 e]
/-- Rooms by value. -/
theorem open_rooms {rc : Reach} {b0 : Nat} {v : Value} {d : DataW H} {ps : List MemPlace} (hval : Value.okWide Try.prog W rc b0 24 v) (hd : DataW.Trod enc Try.prog W 0 (fun _ => true) true 24 v d ps) :
    ∃ r : Rm, v = r.val ∧ (0 ≤ r.all ∧ r.all ≤ 18446744073709551615) ∧ (0 ≤ r.each ∧ r.each ≤ 18446744073709551615) ∧ (-9223372036854775808 ≤ r.str ∧ r.str ≤ 9223372036854775807) := by
  unfold Value.okWide at hval
  rw [Try.underlying24] at hval
  obtain ⟨cs, rfl, _, _⟩ := hval
  obtain ⟨fuel, h⟩ := hd
  obtain ⟨xs, k, _, _, hl, hxl, hf⟩ := DataW.trod_struct Try.underlying24 h
  rw [cells24] at hl
  simp only [Value.cells] at hl hf
  have hx : xs.length = 3 := hxl
  match hc : cs.toList, hl with
  | [v0, v1, v2], _ =>
    rw [hc] at hf
    match xs, hx with
    | [y0, y1, y2], _ =>
      have g0 := hf 0 _ rfl
      have g1 := hf 1 _ rfl
      have g2 := hf 2 _ rfl
      simp [cells3, cells22] at g0 g1 g2
      obtain ⟨x0, e0, _, w0⟩ := DataW.trod_int Try.underlying22 g0
      obtain ⟨x1, e1, _, w1⟩ := DataW.trod_int Try.underlying22 g1
      obtain ⟨x2, e2, _, w2⟩ := DataW.trod_int Try.underlying3 g2
      simp at e0 e1 e2
      subst e0 e1 e2
      have b2 : -9223372036854775808 ≤ x2 ∧ x2 ≤ 9223372036854775807 := by
        simp [Lit.wf, show IntKind.i64.min = -9223372036854775808 by decide, show IntKind.i64.max = 9223372036854775807 by decide] at w2
        exact w2
      refine ⟨⟨x0, x1, x2⟩, ?_, bounds_u64 w0, bounds_u64 w1, b2⟩
      rw [show cs = #[.int .u64 x0, .int .u64 x1, .int .i64 x2] from Array.toList_inj.1 hc]
      rfl
end
end Go.Proofs.Ytahkbklhngiloaa
