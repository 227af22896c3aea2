import Derived.Test.YtgfefopihkiihaaRows
import Derived.Test.YtgfefopihkiihaaCa0
import Derived.JoinedCond
import Derived.ProofKit
import Derived.OpenShut
import Derived.SizedLaws
import Derived.Deep.Slices
namespace Go.Proofs.Ytgfefopihkiihaa
open Go.ChangeShapes Go.WideShapes Go.ChangeAt Go.RowKit Go.Deep
set_option maxRecDepth 100000

theorem own : ownKnob Try.prog.godebug = none := by kernel_rfl
theorem laidOut : laidOutB Try.prog = true := by kernel_rfl
theorem cells3 : Try.prog.cellsOf 3 = 1 := by kernel_rfl
theorem cells4 : Try.prog.cellsOf 4 = 1 := by kernel_rfl
theorem cells5 : Try.prog.cellsOf 5 = 1 := by kernel_rfl
theorem cells24 : Try.prog.cellsOf 24 = 1 := by kernel_rfl
theorem cells25 : Try.prog.cellsOf 25 = 1 := by kernel_rfl
theorem cells30 : Try.prog.cellsOf 30 = 1 := by kernel_rfl
theorem cells31 : Try.prog.cellsOf 31 = 1 := by kernel_rfl
theorem cells33 : Try.prog.cellsOf 33 = 5 := by kernel_rfl
theorem cells58 : Try.prog.cellsOf 58 = 4 := by kernel_rfl
theorem bytes5 : Try.prog.bytesOf 5 = 1 := by kernel_rfl
theorem bytes33 : Try.prog.bytesOf 33 = 56 := by kernel_rfl
theorem bytes58 : Try.prog.bytesOf 58 = 40 := by kernel_rfl
theorem addr_off {a : Addr} (h : a.spot = none) (i : Nat) : a.add i = ⟨a.block, a.off + i, none⟩ := by
  obtain ⟨b, o, s⟩ := a
  simp only at h
  subst h
  exact Addr.add_lit b o i
theorem weights_mem_all {H : Type} {P : Program} {e : TypeId} {d : DataW H} : ∀ {l : List (DataW H)}, d ∈ l → ∀ n ∈ d.weights P e, n ∈ DataW.weightsAll P e l
  | x :: r, h, n, hn => by
    simp only [DataW.weightsAll]
    rcases List.mem_cons.1 h with rfl | h
    · exact List.mem_append_left _ hn
    · exact List.mem_append_right _ (weights_mem_all h n hn)
section
variable {H : Type} {enc : TypeId × Value → H} {W : World}
theorem open_bytes {sp : Nat → Bool} {held : Bool} {fuel len cap : Nat} {a : Option Addr} {x : DataW H × List MemPlace} (h : DataW.trod enc Try.prog W 0 sp held fuel 31 [.slice a len cap] = some x) (hw : ∀ k ∈ x.1.weights Try.prog 31, k ≤ reachBytes) :
    ∃ bs : List (BitVec 8), bs.length = len ∧ BytesAt W a bs ∧ len ≤ 140737488355328 ∧ (a = none → cap = 0) := by
  rcases open_slice Try.underlying31 h with ⟨hcs, _⟩ | ⟨ad, l, c, m, n, D, Pl, hcs, _, hl, hm, hmm, hx, hel⟩
  · simp at hcs
    obtain ⟨rfl, rfl, rfl⟩ := hcs
    exact ⟨[], rfl, fun i h => by simp at h, Nat.zero_le _, fun _ => rfl⟩
  · simp at hcs
    obtain ⟨rfl, rfl, rfl⟩ := hcs
    have hlm : len ≤ m := by rw [hmm]; split <;> omega
    have each : ∀ i, i < m → ∃ b : BitVec 8, W.cell? (ad.add i) = some (.int .u8 (ub b)) := by
      intro i hi
      obtain ⟨cs', h1, h2⟩ := hel i hi
      rw [cells5] at h1
      obtain ⟨_, hlen, hcell⟩ := World.cells?_some h1
      obtain ⟨z, e, _, wz⟩ := DataW.trod_int Try.underlying5 h2
      have := hcell 0 (by omega)
      rw [add_add, e] at this
      have bd := bounds_u8 wz
      refine ⟨BitVec.ofNat 8 z.toNat, ?_⟩
      rw [← ub_of z bd.1 (by omega)]
      simpa using this
    obtain ⟨f, hf⟩ := choose_lt each
    refine ⟨(List.range len).map f, by simp, fun i h => ?_, ?_, fun e => by cases e⟩
    · have hi : i < len := by simpa using h
      have h0 := hf 0 (by omega)
      have hs : ad.spot = none := World.cell?_spot (a := ad) (v := .int .u8 (ub (f 0))) (by simpa [Addr.add] using h0)
      have hh := hf i (by omega)
      refine ⟨ad.block, ad.off, ?_, ?_⟩
      · cases ad; simp only at hs; subst hs; rfl
      · rw [addr_off hs] at hh; simpa using hh
    · have h1 := hw ((((List.range len).map D).length + _) * Try.prog.bytesOf 5) (by
        rw [hx]
        simp only [DataW.weights, Try.underlying31]
        exact List.mem_cons_self)
      rw [bytes5] at h1
      simp only [reachBytes, List.length_map, List.length_range] at h1
      omega
theorem cell_slice {t e : TypeId} (ht : Try.prog.underlying t = some (.slice e)) {sp : Nat → Bool} {held : Bool} {fuel : Nat} {v : Value} {x : DataW H × List MemPlace} (h : DataW.trod enc Try.prog W 0 sp held fuel t [v] = some x) : ∃ a len cap, v = .slice a len cap := by
  rcases open_slice ht h with ⟨hcs, _⟩ | ⟨ad, l, c, m, n, D, Pl, hcs, _⟩
  · simp at hcs
    exact ⟨_, _, _, hcs⟩
  · simp at hcs
    exact ⟨_, _, _, hcs⟩
/-- An event that was handed in. -/
theorem open_evt {n : Nat} {sp : Nat → Bool} {held : Bool} {cs : List Value} {y : DataW H × List MemPlace} (h : DataW.trod enc Try.prog W 0 sp held n 33 cs = some y) (hw : ∀ k ∈ y.1.weights Try.prog 33, k ≤ reachBytes) :
    ∃ o : Evt, cs = ecells o ∧ EvtOk W o := by
  obtain ⟨xs, k, _, hy, hl, hxl, hf⟩ := DataW.trod_struct Try.underlying33 h
  rw [cells33] at hl
  match cs, hl with
  | [v0, v1, v2, v3, v4], _ =>
    have hx : xs.length = 5 := hxl
    match xs, hx with
    | [y0, y1, y2, y3, y4], _ =>
      have g0 := hf 0 _ rfl
      have g1 := hf 1 _ rfl
      have g2 := hf 2 _ rfl
      have g3 := hf 3 _ rfl
      have g4 := hf 4 _ rfl
      simp [cells3, cells30, cells31] at g0 g1 g2 g3 g4
      obtain ⟨x0, e0, _, _⟩ := DataW.trod_int Try.underlying3 g0
      obtain ⟨x1, e1, _, _⟩ := DataW.trod_int Try.underlying3 g1
      obtain ⟨x2, e2, _, _⟩ := DataW.trod_int Try.underlying3 g2
      obtain ⟨x3, e3, _, wz⟩ := DataW.trod_int Try.underlying30 g3
      obtain ⟨a4, l4, c4, e4⟩ := cell_slice Try.underlying31 g4
      simp at e0 e1 e2 e3
      subst e0 e1 e2 e3 e4
      have bd := bounds_u64 wz
      obtain ⟨bs, rfl, hB, hbl, hz⟩ := open_bytes g4 (fun k hk => hw k (by
        rw [hy]
        simp only [DataW.weights, Try.underlying33]
        exact DataW.weights_mem_each (j := 4) (t := 31) (d := y4.1) rfl rfl _ hk))
      exact ⟨⟨x0, x1, x2, x3, a4, c4, bs⟩, rfl, hB, hbl, bd.1, by show x3 < _; omega, hz⟩
instance : Inhabited Evt := ⟨⟨0, 0, 0, 0, none, 0, []⟩⟩
theorem open_evs {sp : Nat → Bool} {held : Bool} {fuel len cap : Nat} {a : Option Addr} {x : DataW H × List MemPlace} (h : DataW.trod enc Try.prog W 0 sp held fuel 22 [.slice a len cap] = some x) (hw : ∀ k ∈ x.1.weights Try.prog 22, k ≤ reachBytes) :
    ∃ l : List Evt, l.length = len ∧ EvsAt W a l ∧ len ≤ 2513169434916 := by
  rcases open_slice Try.underlying22 h with ⟨hcs, _⟩ | ⟨ad, l, c, m, n, D, Pl, hcs, _, hl, hm, hmm, hx, hel⟩
  · simp at hcs
    obtain ⟨rfl, rfl, rfl⟩ := hcs
    exact ⟨[], rfl, ⟨RowAt.nil _ _, fun e he => by simp at he⟩, Nat.zero_le _⟩
  · simp at hcs
    obtain ⟨rfl, rfl, rfl⟩ := hcs
    have hlm : len ≤ m := by rw [hmm]; split <;> omega
    have each : ∀ i, i < len → ∃ o : Evt, (∀ (j : Nat) v, (ecells o)[j]? = some v → W.cell? (ad.add (i * 5 + j)) = some v) ∧ EvtOk W o := by
      intro i hi
      obtain ⟨cs', h1, h2⟩ := hel i (by omega)
      rw [cells33] at h1
      obtain ⟨_, hlen, hcell⟩ := World.cells?_some h1
      obtain ⟨o, rfl, hok⟩ := open_evt h2 (fun k hk => hw k (by
        rw [hx]
        simp only [DataW.weights, Try.underlying22]
        exact List.mem_cons_of_mem _ (List.mem_append_left _ (weights_mem_all (d := D i) (List.mem_map.2 ⟨i, by simpa using hi, rfl⟩) k hk))))
      refine ⟨o, fun j v hv => ?_, hok⟩
      have hj : j < 5 := by have := (List.getElem?_eq_some_iff.1 hv).1; rwa [ecells_len] at this
      have := hcell j (by omega)
      rw [add_add, hv] at this
      exact this
    obtain ⟨f, hf⟩ := choose_lt each
    refine ⟨(List.range len).map f, by simp, ⟨fun i o ho => ?_, fun e he => ?_⟩, ?_⟩
    · have hi : i < len := by simpa using (List.getElem?_eq_some_iff.1 ho).1
      have ho' : o = f i := by simpa [hi] using ho.symm
      subst ho'
      have h0 := (hf 0 (by omega)).1 0 _ rfl
      have hs : ad.spot = none := World.cell?_spot (a := ad) (v := .int .i64 (f 0).what) (by simpa [Addr.add] using h0)
      have hh := hf i hi
      refine ⟨ad.block, ad.off, ?_, fun j v hv => ?_⟩
      · cases ad; simp only at hs; subst hs; rfl
      · have h1 := hh.1 j v hv
        rw [addr_off hs] at h1
        rw [Nat.add_assoc]
        exact h1
    · obtain ⟨i, hi, rfl⟩ := List.mem_map.1 he
      exact (hf i (by simpa using hi)).2
    · have h1 := hw ((((List.range len).map D).length + _) * Try.prog.bytesOf 33) (by
        rw [hx]
        simp only [DataW.weights, Try.underlying22]
        exact List.mem_cons_self)
      rw [bytes33] at h1
      simp only [reachBytes, List.length_map, List.length_range] at h1
      omega
end
end Go.Proofs.Ytgfefopihkiihaa
