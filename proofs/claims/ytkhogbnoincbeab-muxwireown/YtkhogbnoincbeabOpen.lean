import Derived.Test.YtkhogbnoincbeabRows
import Derived.Test.YtkhogbnoincbeabChecked
import Derived.Test.YtkhogbnoincbeabMx2
import Derived.JoinedCond
import Derived.ProofKit
import Derived.OpenShut
import Derived.SizedLaws
import Derived.Deep.Slices
namespace Go.Proofs.Ytkhogbnoincbeab
open Go.ChangeShapes Go.WideShapes Go.ChangeAt Go.RowKit Go.Deep
set_option maxRecDepth 100000

theorem own : ownKnob Try.prog.godebug = none := by kernel_rfl
theorem laidOut : laidOutB Try.prog = true := by kernel_rfl
theorem cells5 : Try.prog.cellsOf 5 = 1 := by kernel_rfl
theorem cells23 : Try.prog.cellsOf 27 = 1 := by kernel_rfl
theorem cells3 : Try.prog.cellsOf 3 = 1 := by kernel_rfl
theorem cells22 : Try.prog.cellsOf 39 = 1 := by kernel_rfl
theorem cells25 : Try.prog.cellsOf 41 = 6 := by kernel_rfl
theorem bytes5 : Try.prog.bytesOf 5 = 1 := by kernel_rfl
theorem bytes25 : Try.prog.bytesOf 41 = 64 := by kernel_rfl
theorem addr_off {a : Addr} (h : a.spot = none) (i : Nat) : a.add i = ⟨a.block, a.off + i, none⟩ := by
  obtain ⟨b, o, s⟩ := a
  simp only at h
  subst h
  exact Addr.add_lit b o i
/-- Bytes that were handed in. -/
structure Wt where
  a : Option Addr
  cap : Nat
  bs : List (BitVec 8)
structure Wt.Ok (w : World) (x : Wt) : Prop where
  by_ : BytesAt w x.a x.bs
  lc : x.bs.length ≤ x.cap
  nm : x.bs.length ≤ 140737488351232
  cm : x.cap ≤ maxLen
  z : x.a = none → x.cap = 0
theorem Wt.Ok.kept {w w' : World} {x : Wt} (h : x.Ok w) (hb : Below w.heap.size w w') : x.Ok w' := ⟨h.by_.kept hb, h.lc, h.nm, h.cm, h.z⟩
section
variable {H : Type} {enc : TypeId × Value → H} {W : World}
theorem open_wt {sp : Nat → Bool} {held : Bool} {fuel : Nat} {v : Value} {x : DataW H × List MemPlace} (h : DataW.trod enc Try.prog W 0 sp held fuel 27 [v] = some x) (hw : ∀ k ∈ x.1.weights Try.prog 27, k ≤ reachBytes) :
    ∃ y : Wt, v = .slice y.a y.bs.length y.cap ∧ y.Ok W := by
  rcases open_slice Try.underlying27 h with ⟨hcs, _⟩ | ⟨ad, len, cap, m, n, D, Pl, hcs, _, hl, hm, hmm, hx, hel⟩
  · simp at hcs
    exact ⟨⟨none, 0, []⟩, hcs, ⟨fun i h => by simp at h, Nat.le_refl _, Nat.zero_le _, Nat.zero_le _, fun _ => rfl⟩⟩
  · simp at hcs
    have hlm : len ≤ m := by rw [hmm]; split <;> omega
    have each : ∀ i, i < m → ∃ b : BitVec 8, W.cell? (ad.add i) = some (.int .u8 (ub b)) := by
      intro i hi
      obtain ⟨cs', h1, h2⟩ := hel i hi
      rw [cells5] at h1
      obtain ⟨_, hlen, hcell⟩ := World.cells?_some h1
      obtain ⟨z, e, _, wz⟩ := DataW.trod_int Try.underlying5 h2
      have := hcell 0 (by omega)
      rw [add_add, e] at this
      have bd := bounds_u8 wz
      refine ⟨BitVec.ofNat 8 z.toNat, ?_⟩
      rw [← ub_of z bd.1 (by omega)]
      simpa using this
    obtain ⟨f, hf⟩ := choose_lt each
    have hle : len ≤ 140737488351232 := by
      have h1 := hw ((((List.range len).map D).length + _) * Try.prog.bytesOf 5) (by
        rw [hx]
        simp only [DataW.weights, Try.underlying27]
        exact List.mem_cons_self)
      rw [bytes5] at h1
      simp only [reachBytes, List.length_map, List.length_range] at h1
      omega
    refine ⟨⟨some ad, cap, (List.range len).map f⟩, by rw [hcs]; simp, ⟨fun i h => ?_, by simpa using hl, by simpa using hle, hm, fun e => by cases e⟩⟩
    have hi : i < len := by simpa using h
    have h0 := hf 0 (by omega)
    have hs : ad.spot = none := World.cell?_spot (a := ad) (v := .int .u8 (ub (f 0))) (by simpa [Addr.add] using h0)
    have hh := hf i (by omega)
    refine ⟨ad.block, ad.off, ?_, ?_⟩
    · cases ad; simp only at hs; subst hs; rfl
    · rw [addr_off hs] at hh; simpa using hh
/-- The cells of a frame that was handed in. -/
theorem open_cells {sp : Nat → Bool} {held : Bool} {fuel : Nat} {c : List Value} {x : DataW H × List MemPlace} (h : DataW.trod enc Try.prog W 0 sp held fuel 41 c = some x) (hw : ∀ n ∈ x.1.weights Try.prog 41, n ≤ reachBytes) :
    ∃ (k s n cl sh : Int) (y : Wt), c = [.int .i64 k, .int .u64 s, .int .u64 n, .int .i64 cl, .int .i64 sh, .slice y.a y.bs.length y.cap] ∧ 0 ≤ s ∧ s ≤ 18446744073709551615 ∧ 0 ≤ n ∧ n ≤ 18446744073709551615 ∧ y.Ok W := by
  obtain ⟨xs, k, _, hx, hl, hxl, hf⟩ := DataW.trod_struct Try.underlying41 h
  rw [cells25] at hl
  have hxl2 : xs.length = 6 := hxl
  match c, hl with
  | [v0, v1, v2, v3, v4, v5], _ =>
    match xs, hxl2 with
    | [y0, y1, y2, y3, y4, y5], _ =>
      have g0 := hf 0 _ rfl
      have g1 := hf 1 _ rfl
      have g2 := hf 2 _ rfl
      have g3 := hf 3 _ rfl
      have g4 := hf 4 _ rfl
      have g5 := hf 5 _ rfl
      simp [cells3, cells22, cells23] at g0 g1 g2 g3 g4 g5
      obtain ⟨x0, e0, _, _⟩ := DataW.trod_int Try.underlying3 g0
      obtain ⟨x1, e1, _, w1⟩ := DataW.trod_int Try.underlying39 g1
      obtain ⟨x2, e2, _, w2⟩ := DataW.trod_int Try.underlying39 g2
      obtain ⟨x3, e3, _, _⟩ := DataW.trod_int Try.underlying3 g3
      obtain ⟨x4, e4, _, _⟩ := DataW.trod_int Try.underlying3 g4
      simp at e0 e1 e2 e3 e4
      subst e0 e1 e2 e3 e4
      have b1 := bounds_u64 w1
      have b2 := bounds_u64 w2
      have hwf : ∀ (j : Nat) (t : TypeId) (d : DataW H), ([3, 39, 39, 3, 3, 27] : List TypeId)[j]? = some t → ([y0, y1, y2, y3, y4, y5].map (·.1))[j]? = some d → ∀ n ∈ d.weights Try.prog t, n ≤ reachBytes := by
        intro j t d ht hd n hn
        refine hw n ?_
        rw [hx]
        simp only [DataW.weights, Try.underlying41]
        exact DataW.weights_mem_each ht hd n hn
      obtain ⟨y, rfl, hy⟩ := open_wt g5 (hwf 5 27 y5.1 rfl rfl)
      exact ⟨x0, x1, x2, x3, x4, y, rfl, b1.1, b1.2, b2.1, b2.2, hy⟩
theorem open_fr {rc : Reach} {b0 : Nat} {v : Value} {d : DataW H} {ps : List MemPlace} (hval : Value.okWide Try.prog W rc b0 41 v) (hd : DataW.Trod enc Try.prog W 0 (fun _ => true) true 41 v d ps) (hw : ∀ n ∈ d.weights Try.prog 41, n ≤ reachBytes) :
    ∃ (k s n cl sh : Int) (y : Wt), v = .agg #[.int .i64 k, .int .u64 s, .int .u64 n, .int .i64 cl, .int .i64 sh, .slice y.a y.bs.length y.cap] ∧ 0 ≤ s ∧ s ≤ 18446744073709551615 ∧ 0 ≤ n ∧ n ≤ 18446744073709551615 ∧ y.Ok W := by
  unfold Value.okWide at hval
  rw [Try.underlying41] at hval
  obtain ⟨cs, rfl, _, _⟩ := hval
  obtain ⟨fuel, h⟩ := hd
  obtain ⟨k, s, n, cl, sh, y, e, h1⟩ := open_cells h hw
  simp only [Value.cells] at e
  refine ⟨k, s, n, cl, sh, y, ?_, h1⟩
  rw [show cs = #[.int .i64 k, .int .u64 s, .int .u64 n, .int .i64 cl, .int .i64 sh, .slice y.a y.bs.length y.cap] from Array.toList_inj.1 e]
end
end Go.Proofs.Ytkhogbnoincbeab
