import Derived.Test.YtoeldomhkeancaaEOpen
import Derived.Test.YtoeldomhkeancaaLw0
namespace Go.Proofs.Ytoeldomhkeancaa
open Go.ChangeShapes Go.WideShapes Go.ChangeAt Go.RowKit Go.Deep
set_option maxRecDepth 100000

theorem cells3 : Try.prog.cellsOf 3 = 1 := by kernel_rfl
theorem cells4 : Try.prog.cellsOf 4 = 1 := by kernel_rfl
theorem cells5 : Try.prog.cellsOf 5 = 1 := by kernel_rfl
theorem cells22 : Try.prog.cellsOf 22 = 1 := by kernel_rfl
theorem cells23 : Try.prog.cellsOf 23 = 1 := by kernel_rfl
theorem cells25 : Try.prog.cellsOf 25 = 1 := by kernel_rfl
theorem cells26 : Try.prog.cellsOf 26 = 1 := by kernel_rfl
theorem cells28 : Try.prog.cellsOf 28 = 5 := by kernel_rfl
theorem cells53 : Try.prog.cellsOf 53 = 4 := by kernel_rfl
theorem bytes5 : Try.prog.bytesOf 5 = 1 := by kernel_rfl
theorem bytes4 : Try.prog.bytesOf 4 = 1 := by kernel_rfl
theorem bytes3 : Try.prog.bytesOf 3 = 8 := by kernel_rfl
theorem bytes53 : Try.prog.bytesOf 53 = 48 := by kernel_rfl
theorem addr_off {a : Addr} (h : a.spot = none) (i : Nat) : a.add i = ⟨a.block, a.off + i, none⟩ := by
  obtain ⟨b, o, s⟩ := a
  simp only at h
  subst h
  exact Addr.add_lit b o i
theorem weights_mem_all {H : Type} {P : Program} {e : TypeId} {d : DataW H} : ∀ {l : List (DataW H)}, d ∈ l → ∀ n ∈ d.weights P e, n ∈ DataW.weightsAll P e l
  | x :: r, h, n, hn => by
    simp only [DataW.weightsAll]
    rcases List.mem_cons.1 h with rfl | h
    · exact List.mem_append_left _ hn
    · exact List.mem_append_right _ (weights_mem_all h n hn)
section
variable {H : Type} {enc : TypeId × Value → H} {W : World}
/-- Elements of one cell each. -/
theorem el_of {ad : Addr} {len : Nat} {f : Nat → Value} (hf : ∀ i, i < len → W.cell? (ad.add i) = some (f i)) : ElAt W (some ad) ((List.range len).map f) := fun k x hx => by
  have hk := (List.getElem?_eq_some_iff.1 hx).1
  have hk' : k < len := by simpa using hk
  have h0 := hf 0 (by omega)
  have hs : ad.spot = none := World.cell?_spot (a := ad) (by simpa [Addr.add] using h0)
  have h2 := hf k hk'
  rw [addr_off hs] at h2
  have h3 : x = f k := by simpa [hk'] using hx.symm
  exact ⟨ad.block, ad.off, by cases ad; simp only at hs; subst hs; rfl, by rw [h3]; exact h2⟩
theorem open_bytes {sp : Nat → Bool} {held : Bool} {fuel len cap : Nat} {a : Option Addr} {x : DataW H × List MemPlace} (h : DataW.trod enc Try.prog W 0 sp held fuel 23 [.slice a len cap] = some x) :
    ∃ bs : List (BitVec 8), bs.length = len ∧ BytesAt W a bs ∧ (len = 0 ∨ ∃ elems rest, x.1 = .slice elems rest ∧ elems.length = len) := by
  rcases open_slice Try.underlying23 h with ⟨hcs, _⟩ | ⟨ad, l, c, m, n, D, Pl, hcs, _, hl, hm, hmm, hx, hel⟩
  · simp at hcs
    obtain ⟨rfl, rfl, rfl⟩ := hcs
    exact ⟨[], rfl, fun i h => by simp at h, .inl rfl⟩
  · simp at hcs
    obtain ⟨rfl, rfl, rfl⟩ := hcs
    have hlm : len ≤ m := by rw [hmm]; split <;> omega
    have each : ∀ i, i < m → ∃ b : BitVec 8, W.cell? (ad.add i) = some (.int .u8 (ub b)) := by
      intro i hi
      obtain ⟨cs', h1, h2⟩ := hel i hi
      rw [cells5] at h1
      obtain ⟨_, hlen, hcell⟩ := World.cells?_some h1
      obtain ⟨z, e, _, wz⟩ := DataW.trod_int Try.underlying5 h2
      have := hcell 0 (by omega)
      rw [add_add, e] at this
      have bd := bounds_u8 wz
      refine ⟨BitVec.ofNat 8 z.toNat, ?_⟩
      rw [← ub_of z bd.1 (by omega)]
      simpa using this
    obtain ⟨f, hf⟩ := choose_lt each
    refine ⟨(List.range len).map f, by simp, fun i h => ?_, .inr ⟨_, _, by rw [hx], by simp⟩⟩
    have hi : i < len := by simpa using h
    have h0 := hf 0 (by omega)
    have hs : ad.spot = none := World.cell?_spot (a := ad) (v := .int .u8 (ub (f 0))) (by simpa [Addr.add] using h0)
    have hh := hf i (by omega)
    refine ⟨ad.block, ad.off, ?_, ?_⟩
    · cases ad; simp only at hs; subst hs; rfl
    · rw [addr_off hs] at hh; simpa using hh
theorem open_bools {sp : Nat → Bool} {held : Bool} {fuel len cap : Nat} {a : Option Addr} {x : DataW H × List MemPlace} (h : DataW.trod enc Try.prog W 0 sp held fuel 25 [.slice a len cap] = some x) (hw : ∀ k ∈ x.1.weights Try.prog 25, k ≤ reachBytes) :
    ∃ l : List Bool, l.length = len ∧ ElAt W a (l.map Value.bool) ∧ len ≤ 140737488355328 := by
  rcases open_slice Try.underlying25 h with ⟨hcs, _⟩ | ⟨ad, l, c, m, n, D, Pl, hcs, _, hl, hm, hmm, hx, hel⟩
  · simp at hcs
    obtain ⟨rfl, rfl, rfl⟩ := hcs
    exact ⟨[], rfl, fun i x h => by simp at h, Nat.zero_le _⟩
  · simp at hcs
    obtain ⟨rfl, rfl, rfl⟩ := hcs
    have hlm : len ≤ m := by rw [hmm]; split <;> omega
    have each : ∀ i, i < m → ∃ b : Bool, W.cell? (ad.add i) = some (.bool b) := by
      intro i hi
      obtain ⟨cs', h1, h2⟩ := hel i hi
      rw [cells4] at h1
      obtain ⟨_, hlen, hcell⟩ := World.cells?_some h1
      obtain ⟨z, e, _⟩ := DataW.trod_bool Try.underlying4 h2
      have := hcell 0 (by omega)
      rw [add_add, e] at this
      exact ⟨z, by simpa using this⟩
    obtain ⟨f, hf⟩ := choose_lt each
    refine ⟨(List.range len).map f, by simp, ?_, ?_⟩
    · rw [List.map_map]
      exact el_of (f := Value.bool ∘ f) (fun i hi => hf i (by omega))
    · have h1 := hw ((((List.range len).map D).length + _) * Try.prog.bytesOf 4) (by
        rw [hx]
        simp only [DataW.weights, Try.underlying25]
        exact List.mem_cons_self)
      rw [bytes4] at h1
      simp only [reachBytes, List.length_map, List.length_range] at h1
      omega
theorem open_jits {sp : Nat → Bool} {held : Bool} {fuel len cap : Nat} {a : Option Addr} {x : DataW H × List MemPlace} (h : DataW.trod enc Try.prog W 0 sp held fuel 26 [.slice a len cap] = some x) (hw : ∀ k ∈ x.1.weights Try.prog 26, k ≤ reachBytes) :
    ∃ l : List Int, l.length = len ∧ ElAt W a (l.map (Value.int .i64)) ∧ len ≤ 140737488355328 := by
  rcases open_slice Try.underlying26 h with ⟨hcs, _⟩ | ⟨ad, l, c, m, n, D, Pl, hcs, _, hl, hm, hmm, hx, hel⟩
  · simp at hcs
    obtain ⟨rfl, rfl, rfl⟩ := hcs
    exact ⟨[], rfl, fun i x h => by simp at h, Nat.zero_le _⟩
  · simp at hcs
    obtain ⟨rfl, rfl, rfl⟩ := hcs
    have hlm : len ≤ m := by rw [hmm]; split <;> omega
    have each : ∀ i, i < m → ∃ b : Int, W.cell? (ad.add i) = some (.int .i64 b) := by
      intro i hi
      obtain ⟨cs', h1, h2⟩ := hel i hi
      rw [cells3] at h1
      obtain ⟨_, hlen, hcell⟩ := World.cells?_some h1
      obtain ⟨z, e, _, _⟩ := DataW.trod_int Try.underlying3 h2
      have := hcell 0 (by omega)
      rw [add_add, e] at this
      exact ⟨z, by simpa using this⟩
    obtain ⟨f, hf⟩ := choose_lt each
    refine ⟨(List.range len).map f, by simp, ?_, ?_⟩
    · rw [List.map_map]
      exact el_of (f := Value.int .i64 ∘ f) (fun i hi => hf i (by omega))
    · have h1 := hw ((((List.range len).map D).length + _) * Try.prog.bytesOf 3) (by
        rw [hx]
        simp only [DataW.weights, Try.underlying26]
        exact List.mem_cons_self)
      rw [bytes3] at h1
      simp only [reachBytes, List.length_map, List.length_range] at h1
      omega
theorem cell_slice {t e : TypeId} (ht : Try.prog.underlying t = some (.slice e)) {sp : Nat → Bool} {held : Bool} {fuel : Nat} {v : Value} {x : DataW H × List MemPlace} (h : DataW.trod enc Try.prog W 0 sp held fuel t [v] = some x) : ∃ a len cap, v = .slice a len cap := by
  rcases open_slice ht h with ⟨hcs, _⟩ | ⟨ad, l, c, m, n, D, Pl, hcs, _⟩
  · simp at hcs
    exact ⟨_, _, _, hcs⟩
  · simp at hcs
    exact ⟨_, _, _, hcs⟩
/-- A configuration that was handed in. -/
theorem open_conf {n : Nat} {sp : Nat → Bool} {held : Bool} {cs : List Value} {y : DataW H × List MemPlace} (h : DataW.trod enc Try.prog W 0 sp held n 28 cs = some y) (hw : ∀ k ∈ y.1.weights Try.prog 28, k ≤ reachBytes) :
    ∃ (r d q : Int) (la ja : Option Addr) (lc jc : Nat) (loss : List Bool) (jit : List Int), cs = confC r d q (.slice la loss.length lc) (.slice ja jit.length jc) ∧ ElAt W la (loss.map Value.bool) ∧ ElAt W ja (jit.map (Value.int .i64)) ∧ loss.length ≤ 140737488355328 ∧ jit.length ≤ 140737488355328 := by
  obtain ⟨xs, k, _, hy, hl, hxl, hf⟩ := DataW.trod_struct Try.underlying28 h
  rw [cells28] at hl
  match cs, hl with
  | [v0, v1, v2, v3, v4], _ =>
    have hx : xs.length = 5 := hxl
    match xs, hx with
    | [y0, y1, y2, y3, y4], _ =>
      have g0 := hf 0 _ rfl
      have g1 := hf 1 _ rfl
      have g2 := hf 2 _ rfl
      have g3 := hf 3 _ rfl
      have g4 := hf 4 _ rfl
      simp [cells3, cells25, cells26] at g0 g1 g2 g3 g4
      obtain ⟨x0, e0, _, _⟩ := DataW.trod_int Try.underlying3 g0
      obtain ⟨x1, e1, _, _⟩ := DataW.trod_int Try.underlying3 g1
      obtain ⟨x2, e2, _, _⟩ := DataW.trod_int Try.underlying3 g2
      obtain ⟨a3, l3, c3, e3⟩ := cell_slice Try.underlying25 g3
      obtain ⟨a4, l4, c4, e4⟩ := cell_slice Try.underlying26 g4
      simp at e0 e1 e2
      subst e0 e1 e2 e3 e4
      obtain ⟨loss, rfl, hB, hl3⟩ := open_bools g3 (fun k hk => hw k (by
        rw [hy]
        simp only [DataW.weights, Try.underlying28]
        exact DataW.weights_mem_each (j := 3) (t := 25) (d := y3.1) rfl rfl _ hk))
      obtain ⟨jit, rfl, hJ, hl4⟩ := open_jits g4 (fun k hk => hw k (by
        rw [hy]
        simp only [DataW.weights, Try.underlying28]
        exact DataW.weights_mem_each (j := 4) (t := 26) (d := y4.1) rfl rfl _ hk))
      exact ⟨x0, x1, x2, a3, a4, c3, c4, loss, jit, rfl, hB, hJ, hl3, hl4⟩
theorem open_confArg {rc : Reach} {b0 : Nat} {v : Value} {d : DataW H} {ps : List MemPlace} (hval : Value.okWide Try.prog W rc b0 28 v) (hd : DataW.Trod enc Try.prog W 0 (fun _ => true) true 28 v d ps) (hw : ∀ k ∈ d.weights Try.prog 28, k ≤ reachBytes) :
    ∃ (r d q : Int) (la ja : Option Addr) (lc jc : Nat) (loss : List Bool) (jit : List Int), v = .agg (confC r d q (.slice la loss.length lc) (.slice ja jit.length jc)).toArray ∧ ElAt W la (loss.map Value.bool) ∧ ElAt W ja (jit.map (Value.int .i64)) ∧ loss.length ≤ 140737488355328 ∧ jit.length ≤ 140737488355328 := by
  unfold Value.okWide at hval
  rw [Try.underlying28] at hval
  obtain ⟨cs, rfl, _, _⟩ := hval
  obtain ⟨fuel, hf⟩ := hd
  obtain ⟨r, d, q, la, ja, lc, jc, loss, jit, e, h1, h2, h3, h4⟩ := open_conf hf hw
  refine ⟨r, d, q, la, ja, lc, jc, loss, jit, ?_, h1, h2, h3, h4⟩
  simp only [Value.cells] at e
  rw [show cs = (confC r d q (.slice la loss.length lc) (.slice ja jit.length jc)).toArray from Array.toList_inj.1 e]
/-- A call of a script that was handed in. -/
theorem open_op {n : Nat} {sp : Nat → Bool} {held : Bool} {cs : List Value} {y : DataW H × List MemPlace} (h : DataW.trod enc Try.prog W 0 sp held n 53 cs = some y) (hw : ∀ k ∈ y.1.weights Try.prog 53, k ≤ reachBytes) :
    ∃ o : Opv, cs = [.int .i64 o.kind, .bool o.sec, .int .u64 o.now, .slice o.fa o.bs.length o.fc] ∧ BytesAt W o.fa o.bs ∧ o.bs.length ≤ 140737488355328 := by
  obtain ⟨xs, k, _, hy, hl, hxl, hf⟩ := DataW.trod_struct Try.underlying53 h
  rw [cells53] at hl
  match cs, hl with
  | [v0, v1, v2, v3], _ =>
    have hx : xs.length = 4 := hxl
    match xs, hx with
    | [y0, y1, y2, y3], _ =>
      have g0 := hf 0 _ rfl
      have g1 := hf 1 _ rfl
      have g2 := hf 2 _ rfl
      have g3 := hf 3 _ rfl
      simp [cells3, cells4, cells22, cells23] at g0 g1 g2 g3
      obtain ⟨x0, e0, _, _⟩ := DataW.trod_int Try.underlying3 g0
      obtain ⟨x1, e1, _⟩ := DataW.trod_bool Try.underlying4 g1
      obtain ⟨x2, e2, _, _⟩ := DataW.trod_int Try.underlying22 g2
      obtain ⟨a3, l3, c3, e3⟩ := cell_slice Try.underlying23 g3
      simp at e0 e1 e2
      subst e0 e1 e2 e3
      obtain ⟨bs, rfl, hB, hsl⟩ := open_bytes g3
      refine ⟨⟨x0, x1, x2, a3, c3, bs⟩, rfl, hB, ?_⟩
      rcases hsl with h0 | ⟨el, sp2, e, e2⟩
      · show bs.length ≤ _
        omega
      · have h1 : (el.length + sp2.length) * Try.prog.bytesOf 5 ∈ y.1.weights Try.prog 53 := by
          rw [hy]
          simp only [DataW.weights, Try.underlying53]
          refine DataW.weights_mem_each (j := 3) (t := 23) (d := y3.1) rfl rfl _ ?_
          rw [e]
          simp [DataW.weights, Try.underlying23]
        have h2 := hw _ h1
        rw [bytes5] at h2
        simp only [reachBytes] at h2
        show bs.length ≤ _
        omega
instance : Inhabited Opv := ⟨⟨0, false, 0, none, 0, []⟩⟩
theorem open_ops {sp : Nat → Bool} {held : Bool} {fuel len cap : Nat} {a : Option Addr} {x : DataW H × List MemPlace} (h : DataW.trod enc Try.prog W 0 sp held fuel 47 [.slice a len cap] = some x) (hw : ∀ k ∈ x.1.weights Try.prog 47, k ≤ reachBytes) :
    ∃ l : List Opv, l.length = len ∧ OpsAt W W.heap.size a l ∧ len ≤ 2932031007402 := by
  rcases open_slice Try.underlying47 h with ⟨hcs, _⟩ | ⟨ad, l, c, m, n, D, Pl, hcs, _, hl, hm, hmm, hx, hel⟩
  · simp at hcs
    obtain ⟨rfl, rfl, rfl⟩ := hcs
    exact ⟨[], rfl, fun i x h => by simp at h, Nat.zero_le _⟩
  · simp at hcs
    obtain ⟨rfl, rfl, rfl⟩ := hcs
    have hlm : len ≤ m := by rw [hmm]; split <;> omega
    have each : ∀ i, i < len → ∃ o : Opv, (∀ (j : Nat) v, [(.int .i64 o.kind : Value), .bool o.sec, .int .u64 o.now, .slice o.fa o.bs.length o.fc][j]? = some v → W.cell? (ad.add (i * 4 + j)) = some v) ∧ BytesAt W o.fa o.bs ∧ o.bs.length ≤ 140737488355328 := by
      intro i hi
      obtain ⟨cs', h1, h2⟩ := hel i (by omega)
      rw [cells53] at h1
      obtain ⟨_, hlen, hcell⟩ := World.cells?_some h1
      obtain ⟨o, rfl, hB, hb⟩ := open_op h2 (fun k hk => hw k (by
        rw [hx]
        simp only [DataW.weights, Try.underlying47]
        exact List.mem_cons_of_mem _ (List.mem_append_left _ (weights_mem_all (d := D i) (List.mem_map.2 ⟨i, by simpa using hi, rfl⟩) k hk))))
      refine ⟨o, fun j v hv => ?_, hB, hb⟩
      have hj : j < 4 := by have := (List.getElem?_eq_some_iff.1 hv).1; simpa using this
      have := hcell j (by omega)
      rw [add_add, hv] at this
      exact this
    obtain ⟨f, hf⟩ := choose_lt each
    refine ⟨(List.range len).map f, by simp, fun i o ho => ?_, ?_⟩
    · have hi : i < len := by simpa using (List.getElem?_eq_some_iff.1 ho).1
      have ho' : o = f i := by simpa [hi] using ho.symm
      subst ho'
      have h0 := (hf 0 (by omega)).1 0 _ rfl
      have hs : ad.spot = none := World.cell?_spot (a := ad) (v := .int .i64 (f 0).kind) (by simpa [Addr.add] using h0)
      have hh := hf i hi
      have hc : ∀ (j : Nat) v, [(.int .i64 (f i).kind : Value), .bool (f i).sec, .int .u64 (f i).now, .slice (f i).fa (f i).bs.length (f i).fc][j]? = some v → W.cell? ⟨ad.block, ad.off + i * 4 + j, none⟩ = some v := fun j v hv => by
        have h1 := hh.1 j v hv
        rw [addr_off hs] at h1
        rw [Nat.add_assoc]
        exact h1
      refine ⟨⟨ad.block, ad.off, ?_, World.block_lt_of_cell? W ⟨ad.block, ad.off + i * 4 + 0, none⟩ (hc 0 _ rfl), hc 0 _ rfl, hc 1 _ rfl, hc 2 _ rfl, hc 3 _ rfl⟩, hh.2.1, hh.2.2, fun ad' e hne => ?_⟩
      · cases ad; simp only at hs; subst hs; rfl
      · cases hbs : (f i).bs with
        | nil => exact absurd hbs hne
        | cons y r =>
          obtain ⟨g, o, e2, hcc⟩ := hh.2.1 0 (by rw [hbs]; simp)
          rw [e] at e2
          injection e2 with e2
          subst e2
          exact World.block_lt_of_cell? W _ hcc
    · have h1 := hw ((((List.range len).map D).length + _) * Try.prog.bytesOf 53) (by
        rw [hx]
        simp only [DataW.weights, Try.underlying47]
        exact List.mem_cons_self)
      rw [bytes53] at h1
      simp only [reachBytes, List.length_map, List.length_range] at h1
      omega
end
end Go.Proofs.Ytoeldomhkeancaa
