import Derived.Test.YtnohammflhadpaaRows
import Derived.Test.YtnohammflhadpaaSb32
import Derived.JoinedCond
import Derived.ProofKit
import Derived.OpenShut
import Derived.SizedLaws
import Derived.Deep.Slices
namespace Go.Proofs.Ytnohammflhadpaa
open Go.ChangeShapes Go.WideShapes Go.ChangeAt Go.RowKit Go.Deep
set_option maxRecDepth 100000

theorem own : ownKnob Try.prog.godebug = none := by kernel_rfl
theorem laidOut : laidOutB Try.prog = true := by kernel_rfl
theorem cells5 : Try.prog.cellsOf 5 = 1 := by kernel_rfl
theorem cells25 : Try.prog.cellsOf 25 = 1 := by kernel_rfl
theorem cells3 : Try.prog.cellsOf 3 = 1 := by kernel_rfl
theorem cells4 : Try.prog.cellsOf 4 = 1 := by kernel_rfl
theorem cells22 : Try.prog.cellsOf 22 = 1 := by kernel_rfl
theorem cells24 : Try.prog.cellsOf 24 = 4 := by kernel_rfl
theorem cells43 : Try.prog.cellsOf 43 = 8 := by kernel_rfl
theorem bytes5 : Try.prog.bytesOf 5 = 1 := by kernel_rfl
theorem bytes25 : Try.prog.bytesOf 25 = 24 := by kernel_rfl
theorem bytes43 : Try.prog.bytesOf 43 = 80 := by kernel_rfl
theorem addr_off {a : Addr} (h : a.spot = none) (i : Nat) : a.add i = ⟨a.block, a.off + i, none⟩ := by
  obtain ⟨b, o, s⟩ := a
  simp only at h
  subst h
  exact Addr.add_lit b o i
theorem weights_mem_all {H : Type} {P : Program} {e : TypeId} {d : DataW H} : ∀ {l : List (DataW H)}, d ∈ l → ∀ n ∈ d.weights P e, n ∈ DataW.weightsAll P e l
  | x :: r, h, n, hn => by
    simp only [DataW.weightsAll]
    rcases List.mem_cons.1 h with rfl | h
    · exact List.mem_append_left _ hn
    · exact List.mem_append_right _ (weights_mem_all h n hn)
section
variable {H : Type} {enc : TypeId × Value → H} {W : World}
/-- Bytes that were handed in. -/
theorem open_wt {sp : Nat → Bool} {held : Bool} {fuel : Nat} {v : Value} {x : DataW H × List MemPlace} (h : DataW.trod enc Try.prog W 0 sp held fuel 25 [v] = some x) (hw : ∀ k ∈ x.1.weights Try.prog 25, k ≤ reachBytes) :
    ∃ y : Wt, v = .slice y.a y.bs.length y.cap ∧ y.Ok W := by
  rcases open_slice Try.underlying25 h with ⟨hcs, _⟩ | ⟨ad, len, cap, m, n, D, Pl, hcs, _, hl, hm, hmm, hx, hel⟩
  · simp at hcs
    exact ⟨⟨none, 0, []⟩, hcs, ⟨fun i h => by simp at h, Nat.le_refl _, Nat.zero_le _, Nat.zero_le _, fun _ => rfl⟩⟩
  · simp at hcs
    have hlm : len ≤ m := by rw [hmm]; split <;> omega
    have each : ∀ i, i < m → ∃ b : BitVec 8, W.cell? (ad.add i) = some (.int .u8 (ub b)) := by
      intro i hi
      obtain ⟨cs', h1, h2⟩ := hel i hi
      rw [cells5] at h1
      obtain ⟨_, hlen, hcell⟩ := World.cells?_some h1
      obtain ⟨z, e, _, wz⟩ := DataW.trod_int Try.underlying5 h2
      have := hcell 0 (by omega)
      rw [add_add, e] at this
      have bd := bounds_u8 wz
      refine ⟨BitVec.ofNat 8 z.toNat, ?_⟩
      rw [← ub_of z bd.1 (by omega)]
      simpa using this
    obtain ⟨f, hf⟩ := choose_lt each
    have hle : len ≤ 140737488355328 := by
      have h1 := hw ((((List.range len).map D).length + _) * Try.prog.bytesOf 5) (by
        rw [hx]
        simp only [DataW.weights, Try.underlying25]
        exact List.mem_cons_self)
      rw [bytes5] at h1
      simp only [reachBytes, List.length_map, List.length_range] at h1
      omega
    refine ⟨⟨some ad, cap, (List.range len).map f⟩, by rw [hcs]; simp, ⟨fun i h => ?_, by simpa using hl, by simpa using hle, hm, fun e => by cases e⟩⟩
    have hi : i < len := by simpa using h
    have h0 := hf 0 (by omega)
    have hs : ad.spot = none := World.cell?_spot (a := ad) (v := .int .u8 (ub (f 0))) (by simpa [Addr.add] using h0)
    have hh := hf i (by omega)
    refine ⟨ad.block, ad.off, ?_, ?_⟩
    · cases ad; simp only at hs; subst hs; rfl
    · rw [addr_off hs] at hh; simpa using hh
theorem open_wts {sp : Nat → Bool} {held : Bool} {fuel len cap : Nat} {a : Option Addr} {x : DataW H × List MemPlace} (h : DataW.trod enc Try.prog W 0 sp held fuel 48 [.slice a len cap] = some x) (hw : ∀ k ∈ x.1.weights Try.prog 48, k ≤ reachBytes) :
    ∃ Ws : List Wt, Ws.length = len ∧ WtsAt W a Ws ∧ len ≤ 140737488355328 := by
  rcases open_slice Try.underlying48 h with ⟨hcs, _⟩ | ⟨ad, l, c, m, n, D, Pl, hcs, _, hl, hm, hmm, hx, hel⟩
  · simp at hcs
    obtain ⟨rfl, rfl, rfl⟩ := hcs
    exact ⟨[], rfl, fun i h => by simp at h, Nat.zero_le _⟩
  · simp at hcs
    obtain ⟨rfl, rfl, rfl⟩ := hcs
    have hlm : len ≤ m := by rw [hmm]; split <;> omega
    have each : ∀ i, i < len → ∃ y : Wt, W.cell? (ad.add i) = some (.slice y.a y.bs.length y.cap) ∧ y.Ok W := by
      intro i hi
      obtain ⟨cs', h1, h2⟩ := hel i (by omega)
      rw [cells25] at h1
      obtain ⟨_, hlen, hcell⟩ := World.cells?_some h1
      match cs', hlen with
      | [v], _ =>
        obtain ⟨y, rfl, hy⟩ := open_wt h2 (fun k hk => hw k (by
          rw [hx]
          simp only [DataW.weights, Try.underlying48]
          exact List.mem_cons_of_mem _ (List.mem_append_left _ (weights_mem_all (d := D i) (List.mem_map.2 ⟨i, by simpa using hi, rfl⟩) k hk))))
        have := hcell 0 (by omega)
        rw [add_add] at this
        exact ⟨y, by simpa using this, hy⟩
    have hinst : Inhabited Wt := ⟨⟨none, 0, []⟩⟩
    obtain ⟨f, hf⟩ := choose_lt each
    refine ⟨(List.range len).map f, by simp, fun i h => ?_, ?_⟩
    · have hi : i < len := by simpa using h
      have h0 := (hf 0 (by omega)).1
      have hs : ad.spot = none := World.cell?_spot (a := ad) (v := .slice (f 0).a (f 0).bs.length (f 0).cap) (by simpa [Addr.add] using h0)
      have hh := hf i (by omega)
      refine ⟨ad.block, ad.off, ?_, ?_, ?_⟩
      · cases ad; simp only at hs; subst hs; rfl
      · have h1 := hh.1
        rw [addr_off hs] at h1
        simpa using h1
      · simpa using hh.2
    · have h1 := hw ((((List.range len).map D).length + _) * Try.prog.bytesOf 25) (by
        rw [hx]
        simp only [DataW.weights, Try.underlying48]
        exact List.mem_cons_self)
      rw [bytes25] at h1
      simp only [reachBytes, List.length_map, List.length_range] at h1
      omega
theorem open_opq {n : Nat} {sp : Nat → Bool} {held : Bool} {cs : List Value} {y : DataW H × List MemPlace} (h : DataW.trod enc Try.prog W 0 sp held n 43 cs = some y) :
    ∃ o : OpQ, cs = o.cells ∧ 0 ≤ o.edge ∧ o.edge ≤ 18446744073709551615 := by
  obtain ⟨xs, k, _, _, hl, hxl, hf⟩ := DataW.trod_struct Try.underlying43 h
  rw [cells43] at hl
  match cs, hl with
  | [v0, v1, v2, v3, v4, v5, v6, v7], _ =>
    have hx : xs.length = 8 := hxl
    match xs, hx with
    | [y0, y1, y2, y3, y4, y5, y6, y7], _ =>
      have g0 := hf 0 _ rfl
      have g1 := hf 1 _ rfl
      have g2 := hf 2 _ rfl
      have g3 := hf 3 _ rfl
      have g4 := hf 4 _ rfl
      have g5 := hf 5 _ rfl
      have g6 := hf 6 _ rfl
      simp [cells3, cells4, cells22] at g0 g1 g2 g3 g4 g5 g6
      obtain ⟨x0, e0, _, _⟩ := DataW.trod_int Try.underlying3 g0
      obtain ⟨x1, e1, _⟩ := DataW.trod_bool Try.underlying4 g1
      obtain ⟨x2, e2, _, _⟩ := DataW.trod_int Try.underlying3 g2
      obtain ⟨x3, e3, _, _⟩ := DataW.trod_int Try.underlying22 g3
      obtain ⟨x4, e4, _⟩ := DataW.trod_bool Try.underlying4 g4
      obtain ⟨x5, e5, _, w5⟩ := DataW.trod_int Try.underlying22 g5
      obtain ⟨x6, e6, _, _⟩ := DataW.trod_int Try.underlying3 g6
      simp at e0 e1 e2 e3 e4 e5 e6
      subst e0 e1 e2 e3 e4 e5 e6
      have b5 := bounds_u64 w5
      exact ⟨⟨x0, x1, x2, x3, x4, x5, x6, v7⟩, rfl, b5.1, b5.2⟩
theorem open_opqs {sp : Nat → Bool} {held : Bool} {fuel len cap : Nat} {a : Option Addr} {x : DataW H × List MemPlace} (h : DataW.trod enc Try.prog W 0 sp held fuel 41 [.slice a len cap] = some x) (hw : ∀ k ∈ x.1.weights Try.prog 41, k ≤ reachBytes) :
    ∃ Os : List OpQ, Os.length = len ∧ OpqAt W a Os ∧ len ≤ 140737488355328 := by
  rcases open_slice Try.underlying41 h with ⟨hcs, _⟩ | ⟨ad, l, c, m, n, D, Pl, hcs, _, hl, hm, hmm, hx, hel⟩
  · simp at hcs
    obtain ⟨rfl, rfl, rfl⟩ := hcs
    exact ⟨[], rfl, fun i h => by simp at h, Nat.zero_le _⟩
  · simp at hcs
    obtain ⟨rfl, rfl, rfl⟩ := hcs
    have hlm : len ≤ m := by rw [hmm]; split <;> omega
    have each : ∀ i, i < len → ∃ o : OpQ, (∀ j v, o.cells[j]? = some v → W.cell? (ad.add (i * 8 + j)) = some v) ∧ 0 ≤ o.edge ∧ o.edge ≤ 18446744073709551615 := by
      intro i hi
      obtain ⟨cs', h1, h2⟩ := hel i (by omega)
      rw [cells43] at h1
      obtain ⟨_, hlen, hcell⟩ := World.cells?_some h1
      obtain ⟨o, rfl, hb⟩ := open_opq h2
      refine ⟨o, fun j v hv => ?_, hb⟩
      have hj : j < 8 := by have := (List.getElem?_eq_some_iff.1 hv).1; simpa [OpQ.cells] using this
      have := hcell j (by omega)
      rw [add_add, hv] at this
      exact this
    have hinst : Inhabited OpQ := ⟨⟨0, false, 0, 0, false, 0, 0, .bool false⟩⟩
    obtain ⟨f, hf⟩ := choose_lt each
    refine ⟨(List.range len).map f, by simp, fun i h => ?_, ?_⟩
    · have hi : i < len := by simpa using h
      have h0 := (hf 0 (by omega)).1 0 _ rfl
      have hs : ad.spot = none := World.cell?_spot (a := ad) (v := .int .i64 (f 0).kind) (by simpa [Addr.add] using h0)
      have hh := hf i (by omega)
      refine ⟨ad.block, ad.off, ?_, fun j v hv => ?_, ?_⟩
      · cases ad; simp only at hs; subst hs; rfl
      · have h1 := hh.1 j v (by simpa using hv)
        rw [addr_off hs] at h1
        rw [Nat.add_assoc]
        exact h1
      · simpa using hh.2
    · have h1 := hw ((((List.range len).map D).length + _) * Try.prog.bytesOf 43) (by
        rw [hx]
        simp only [DataW.weights, Try.underlying41]
        exact List.mem_cons_self)
      rw [bytes43] at h1
      simp only [reachBytes, List.length_map, List.length_range] at h1
      omega
/-- A Setup by value. -/
theorem open_setup {rc : Reach} {b0 : Nat} {v : Value} {d : DataW H} {ps : List MemPlace} (hval : Value.okWide Try.prog W rc b0 24 v) (hd : DataW.Trod enc Try.prog W 0 (fun _ => true) true 24 v d ps) :
    ∃ b r m e : Int, v = .agg #[.int .u64 b, .int .i64 r, .int .i64 m, .int .u64 e] ∧ 0 ≤ b ∧ 0 ≤ e ∧ e ≤ 18446744073709551615 := by
  unfold Value.okWide at hval
  rw [Try.underlying24] at hval
  obtain ⟨cs, rfl, _, _⟩ := hval
  obtain ⟨fuel, h⟩ := hd
  obtain ⟨xs, k, _, _, hl, hxl, hf⟩ := DataW.trod_struct Try.underlying24 h
  rw [cells24] at hl
  simp only [Value.cells] at hl hf
  have hx : xs.length = 4 := hxl
  match hc : cs.toList, hl with
  | [v0, v1, v2, v3], _ =>
    rw [hc] at hf
    match xs, hx with
    | [y0, y1, y2, y3], _ =>
      have g0 := hf 0 _ rfl
      have g1 := hf 1 _ rfl
      have g2 := hf 2 _ rfl
      have g3 := hf 3 _ rfl
      simp [cells3, cells22] at g0 g1 g2 g3
      obtain ⟨x0, e0, _, w0⟩ := DataW.trod_int Try.underlying22 g0
      obtain ⟨x1, e1, _, _⟩ := DataW.trod_int Try.underlying3 g1
      obtain ⟨x2, e2, _, _⟩ := DataW.trod_int Try.underlying3 g2
      obtain ⟨x3, e3, _, w3⟩ := DataW.trod_int Try.underlying22 g3
      simp at e0 e1 e2 e3
      subst e0 e1 e2 e3
      have b0 := bounds_u64 w0
      have b3 := bounds_u64 w3
      refine ⟨x0, x1, x2, x3, ?_, b0.1, b3.1, b3.2⟩
      rw [show cs = #[.int .u64 x0, .int .i64 x1, .int .i64 x2, .int .u64 x3] from Array.toList_inj.1 hc]
end
end Go.Proofs.Ytnohammflhadpaa
