import Derived.Test.YtgkfnbbgohdalaaDoorLaid
import Derived.Test.YtgkfnbbgohdalaaDoorFr4
namespace Go.Proofs.YtgkfnbbgohdalaaDoor
open Go.ChangeShapes Go.WideShapes Go.ChangeAt Go.RowKit Go.Deep
set_option maxRecDepth 100000
theorem cells22 : Tryd.prog.cellsOf 22 = 1 := by kernel_rfl
theorem cells23 : Tryd.prog.cellsOf 23 = 1 := by kernel_rfl
theorem cells24 : Tryd.prog.cellsOf 24 = 1 := by kernel_rfl
theorem cells4 : Tryd.prog.cellsOf 4 = 1 := by kernel_rfl
theorem cells27 : Tryd.prog.cellsOf 27 = 12 := by kernel_rfl
theorem cells56 : Tryd.prog.cellsOf 56 = 2 := by kernel_rfl
theorem bytes56 : Tryd.prog.bytesOf 56 = 16 := by kernel_rfl
section
variable {H : Type} {enc : TypeId × Value → H} {W : World}
theorem open_rg {n : Nat} {sp : Nat → Bool} {held : Bool} {cs : List Value} {y : DataW H × List MemPlace} (h : DataW.trod enc Tryd.prog W 0 sp held n 56 cs = some y) :
    ∃ r : Nat × Nat, cs = [.int .u64 (r.1 : Int), .int .u64 (r.2 : Int)] ∧ r.1 < 18446744073709551616 ∧ r.2 < 18446744073709551616 := by
  obtain ⟨xs, k, _, _, hl, hxl, hf⟩ := DataW.trod_struct Tryd.underlying56 h
  rw [cells56] at hl
  match cs, hl with
  | [v0, v1], _ =>
    have g0 := hf 0 _ rfl
    have g1 := hf 1 _ rfl
    have hx : xs.length = 2 := hxl
    match xs, hx with
    | [y0, y1], _ =>
      simp [cells22] at g0 g1
      obtain ⟨lo, e0, _, w0⟩ := DataW.trod_int Tryd.underlying22 g0
      obtain ⟨hi, e1, _, w1⟩ := DataW.trod_int Tryd.underlying22 g1
      simp at e0 e1
      subst e0 e1
      have b0 := bounds_u64 w0
      have b1 := bounds_u64 w1
      exact ⟨(lo.toNat, hi.toNat), by simp only; rw [Int.toNat_of_nonneg b0.1, Int.toNat_of_nonneg b1.1], by simp only; omega, by simp only; omega⟩
theorem open_ranges {sp : Nat → Bool} (hsp : ∀ b, sp b = true) {held : Bool} {fuel : Nat} {v : Value} {x : DataW H × List MemPlace} (h : DataW.trod enc Tryd.prog W 0 sp held fuel 24 [v] = some x) :
    ∃ (l : List (Nat × Nat)) (a : Option Addr) (cap : Nat), v = .slice a l.length cap ∧ RangesAt W a l ∧ (∀ r ∈ l, r.1 < 18446744073709551616 ∧ r.2 < 18446744073709551616) ∧ (l.length = 0 ∨ ∃ elems sp, x.1 = .slice elems sp ∧ elems.length = l.length) := by
  rcases open_slice Tryd.underlying24 h with ⟨hcs, _⟩ | ⟨ad, len, c, m, n, D, Pl, hcs, _, hl, hm, hmm, hx, hel⟩
  · simp at hcs
    subst hcs
    exact ⟨[], none, 0, rfl, fun i h => by simp at h, fun r h => (by cases h), .inl rfl⟩
  · simp at hcs
    subst hcs
    rw [hsp] at hmm
    simp only [if_true] at hmm
    subst hmm
    have each : ∀ i, i < m → ∃ r : Nat × Nat, W.cell? (ad.add (i * 2)) = some (.int .u64 (r.1 : Int)) ∧ W.cell? (ad.add (i * 2 + 1)) = some (.int .u64 (r.2 : Int)) ∧ r.1 < 18446744073709551616 ∧ r.2 < 18446744073709551616 := by
      intro i hi
      obtain ⟨cs', h1, h2⟩ := hel i hi
      rw [cells56] at h1
      obtain ⟨_, hlen, hcell⟩ := World.cells?_some h1
      obtain ⟨r, e, w1, w2⟩ := open_rg h2
      have g0 := hcell 0 (by omega)
      have g1 := hcell 1 (by omega)
      rw [add_add, e] at g0 g1
      exact ⟨r, by simpa using g0, by simpa using g1, w1, w2⟩
    obtain ⟨f, hf⟩ := choose_lt each
    refine ⟨(List.range len).map f, some ad, m, by simp, fun i h => ?_, fun r hr => ?_, .inr ⟨_, _, by rw [hx], by simp⟩⟩
    · have hi : i < len := by simpa using h
      have h0 := (hf 0 (by omega)).1
      have hs : ad.spot = none := World.cell?_spot (a := ad) (by simpa [Addr.add] using h0)
      have hh := hf i (by omega)
      refine ⟨ad.block, ad.off, ?_, ?_, ?_⟩
      · cases ad; simp only at hs; subst hs; rfl
      · have := hh.1; rw [addr_off hs] at this; simpa using this
      · have := hh.2.1; rw [addr_off hs] at this; simpa [Nat.add_assoc] using this
    · obtain ⟨i, hi, rfl⟩ := List.mem_map.1 hr
      exact (hf i (by have := List.mem_range.1 hi; omega)).2.2
theorem open_bytesV {sp : Nat → Bool} (hsp : ∀ b, sp b = true) {held : Bool} {fuel : Nat} {v : Value} {x : DataW H × List MemPlace} (h : DataW.trod enc Tryd.prog W 0 sp held fuel 23 [v] = some x) :
    ∃ (bs : List (BitVec 8)) (a : Option Addr) (cap : Nat), v = .slice a bs.length cap ∧ BytesAt W a bs ∧ (bs.length = 0 ∨ ∃ elems sp, x.1 = .slice elems sp ∧ elems.length = bs.length) := by
  rcases open_slice Tryd.underlying23 h with ⟨hcs, _⟩ | ⟨ad, len, c, m, n, D, Pl, hcs, _⟩
  · simp at hcs
    subst hcs
    exact ⟨[], none, 0, rfl, fun i h => by simp at h, .inl rfl⟩
  · simp at hcs
    subst hcs
    obtain ⟨bs, e, hB, _, hx⟩ := open_bytes hsp h
    subst e
    refine ⟨bs, _, _, rfl, hB, ?_⟩
    rcases hx with h0 | ⟨el, sp2, e1, _, e3⟩
    · left
      rcases open_slice Tryd.underlying23 h with ⟨hcs, _⟩ | ⟨ad2, l2, c2, m2, n2, D2, Pl2, hcs, _, hl2, _⟩
      · simp at hcs
      · simp at hcs; omega
    · exact .inr ⟨el, sp2, e1, e3⟩

theorem slice_le {t e : TypeId} {d : DataW H} {elems spare : List (DataW H)} (hd : d = .slice elems spare) (hu : Tryd.prog.underlying t = some (.slice e)) (hw : ∀ n ∈ d.weights Tryd.prog t, n ≤ reachBytes) : (elems.length + spare.length) * Tryd.prog.bytesOf e ≤ reachBytes := by
  subst hd
  exact hw _ (by simp [DataW.weights, hu])
theorem open_frame {sp : Nat → Bool} (hsp : ∀ b, sp b = true) {held : Bool} {fuel : Nat} {c : List Value} {x : DataW H × List MemPlace} (h : DataW.trod enc Tryd.prog W 0 sp held fuel 27 c = some x) (hw : ∀ n ∈ x.1.weights Tryd.prog 27, n ≤ reachBytes) :
    ∃ f da dc ra rc ma mc, FrAt W c f da dc ra rc ma mc := by
  obtain ⟨xs, k, _, hx, hl, hxl, hf⟩ := DataW.trod_struct Tryd.underlying27 h
  rw [cells27] at hl
  have hxl2 : xs.length = 12 := hxl
  match c, hl with
  | [v0, v1, v2, v3, v4, v5, v6, v7, v8, v9, v10, v11], _ =>
    match xs, hxl2 with
    | [y0, y1, y2, y3, y4, y5, y6, y7, y8, y9, y10, y11], _ =>
      have g0 := hf 0 _ rfl
      have g1 := hf 1 _ rfl
      have g2 := hf 2 _ rfl
      have g3 := hf 3 _ rfl
      have g4 := hf 4 _ rfl
      have g5 := hf 5 _ rfl
      have g6 := hf 6 _ rfl
      have g7 := hf 7 _ rfl
      have g8 := hf 8 _ rfl
      have g9 := hf 9 _ rfl
      have g10 := hf 10 _ rfl
      have g11 := hf 11 _ rfl
      simp [cells3, cells22, cells23, cells24, cells25, cells4] at g0 g1 g2 g3 g4 g5 g6 g7 g8 g9 g10 g11
      obtain ⟨kind, e0, _, w0⟩ := DataW.trod_int Tryd.underlying3 g0
      obtain ⟨path, e1, _, w1⟩ := DataW.trod_int Tryd.underlying3 g1
      obtain ⟨num, e2, _, w2⟩ := DataW.trod_int Tryd.underlying22 g2
      obtain ⟨off, e3, _, w3⟩ := DataW.trod_int Tryd.underlying22 g3
      obtain ⟨edge, e4, _, w4⟩ := DataW.trod_int Tryd.underlying22 g4
      obtain ⟨data, da, dc, e5, hD, s5⟩ := open_bytesV hsp g5
      obtain ⟨ranges, ra, rc, e6, hR, hrl, s6⟩ := open_ranges hsp g6
      obtain ⟨token, e7, _, w7⟩ := DataW.trod_int Tryd.underlying25 g7
      obtain ⟨nonce, e8, _, w8⟩ := DataW.trod_int Tryd.underlying25 g8
      obtain ⟨mac, ma, mc, e9, hM, s9⟩ := open_bytesV hsp g9
      obtain ⟨backup, e10, _⟩ := DataW.trod_bool Tryd.underlying4 g10
      obtain ⟨which, e11, _, w11⟩ := DataW.trod_int Tryd.underlying3 g11
      simp at e0 e1 e2 e3 e4 e7 e8 e10 e11
      subst e0 e1 e2 e3 e4 e5 e6 e7 e8 e9 e10 e11
      have b2 := bounds_u64 w2
      have b3 := bounds_u64 w3
      have b4 := bounds_u64 w4
      have b7 := bounds_u32 w7
      have b8 := bounds_u32 w8
      have hwf : ∀ (j : Nat) (t : TypeId) (d : DataW H), ([3, 3, 22, 22, 22, 23, 24, 25, 25, 23, 4, 3] : List TypeId)[j]? = some t → ([y0, y1, y2, y3, y4, y5, y6, y7, y8, y9, y10, y11].map (·.1))[j]? = some d → ∀ n ∈ d.weights Tryd.prog t, n ≤ reachBytes := by
        intro j t d ht hd n hn
        refine hw n ?_
        rw [hx]
        simp only [DataW.weights, Tryd.underlying27]
        exact DataW.weights_mem_each ht hd n hn
      have l5 : data.length ≤ 281474976710656 := by
        rcases s5 with h0 | ⟨el, sp2, e, e2⟩
        · omega
        · have := slice_le e Tryd.underlying23 (hwf 5 23 y5.1 rfl rfl)
          rw [bytes5] at this; simp only [reachBytes] at this; omega
      have l9 : mac.length ≤ 281474976710656 := by
        rcases s9 with h0 | ⟨el, sp2, e, e2⟩
        · omega
        · have := slice_le e Tryd.underlying23 (hwf 9 23 y9.1 rfl rfl)
          rw [bytes5] at this; simp only [reachBytes] at this; omega
      have l6 : ranges.length ≤ 281474976710656 := by
        rcases s6 with h0 | ⟨el, sp2, e, e2⟩
        · omega
        · have := slice_le e Tryd.underlying24 (hwf 6 24 y6.1 rfl rfl)
          rw [bytes56] at this; simp only [reachBytes] at this; omega
      refine ⟨⟨kind, path, num.toNat, off.toNat, edge.toNat, data, ranges, token.toNat, nonce.toNat, mac, backup, which⟩, da, dc, ra, rc, ma, mc, ?_⟩
      exact
        { cells := by simp only [fcells]; rw [Int.toNat_of_nonneg b2.1, Int.toNat_of_nonneg b3.1, Int.toNat_of_nonneg b4.1, Int.toNat_of_nonneg b7.1, Int.toNat_of_nonneg b8.1]
          data := hD, ranges := hR, mac := hM
          num := by simp only; omega
          off := by simp only; omega
          edge := by simp only; omega
          rlt := hrl
          token := by simp only; have := b7.2; omega
          nonce := by simp only; have := b8.2; omega
          dlen := l5, rlen := l6, mlen := l9 }
end
end Go.Proofs.YtgkfnbbgohdalaaDoor
