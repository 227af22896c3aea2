import Derived.Test.YtdbdiebgjnofgabRows
import Derived.Test.YtdbdiebgjnofgabSd9
import Derived.JoinedCond
import Derived.ProofKit
import Derived.OpenShut
import Derived.SizedLaws
import Derived.Deep.Slices
namespace Go.Proofs.Ytdbdiebgjnofgab
open Go.ChangeShapes Go.WideShapes Go.ChangeAt Go.RowKit Go.Deep
set_option maxRecDepth 100000

theorem own : ownKnob Try.prog.godebug = none := by kernel_rfl
theorem laidOut : laidOutB Try.prog = true := by kernel_rfl
section
variable {H : Type} {enc : TypeId × Value → H} {P : Program} {w : World} {base : Nat} {spare : Nat → Bool} {held : Bool}
theorem trodAll_five {t t' t'' t3 t4 : TypeId} {args : Array Value} {ds : List (DataW H)} {ps : List MemPlace} (h : DataW.TrodAll enc P w base spare held [t, t', t'', t3, t4] args.toList ds ps) :
    ∃ v v' v'' v3 v4 d d' d'' d3 d4 p p' p'' p3 p4, args = #[v, v', v'', v3, v4] ∧ ds = [d, d', d'', d3, d4] ∧ ps = p ++ p' ++ p'' ++ p3 ++ p4 ∧ DataW.Trod enc P w base spare held t v d p ∧ DataW.Trod enc P w base spare held t' v' d' p' ∧ DataW.Trod enc P w base spare held t'' v'' d'' p'' ∧ DataW.Trod enc P w base spare held t3 v3 d3 p3 ∧ DataW.Trod enc P w base spare held t4 v4 d4 p4 := by
  obtain ⟨v, vs, d, ds', p, q, hargs, rfl, rfl, hd, hrest⟩ := trodAll_cons h
  obtain ⟨v', vs', d', ds'', p', q', rfl, rfl, rfl, hd', hrest'⟩ := trodAll_cons hrest
  obtain ⟨v'', vs'', d'', ds''', p'', q'', rfl, rfl, rfl, hd'', hrest''⟩ := trodAll_cons hrest'
  obtain ⟨v3, vs3, d3, ds3, p3, q3, rfl, rfl, rfl, hd3, hrest3⟩ := trodAll_cons hrest''
  obtain ⟨v4, vs4, d4, ds4, p4, q4, rfl, rfl, rfl, hd4, hrest4⟩ := trodAll_cons hrest3
  obtain ⟨rfl, rfl, rfl⟩ := trodAll_nil hrest4
  exact ⟨v, v', v'', v3, v4, d, d', d'', d3, d4, p, p', p'', p3, p4, by cases args; simp_all, rfl, by simp, hd, hd', hd'', hd3, hd4⟩
theorem trodAll_four' {t t' t'' t3 : TypeId} {args : Array Value} {ds : List (DataW H)} {ps : List MemPlace} (h : DataW.TrodAll enc P w base spare held [t, t', t'', t3] args.toList ds ps) :
    ∃ v v' v'' v3 d d' d'' d3 p p' p'' p3, args = #[v, v', v'', v3] ∧ ds = [d, d', d'', d3] ∧ ps = p ++ p' ++ p'' ++ p3 ∧ DataW.Trod enc P w base spare held t v d p ∧ DataW.Trod enc P w base spare held t' v' d' p' ∧ DataW.Trod enc P w base spare held t'' v'' d'' p'' ∧ DataW.Trod enc P w base spare held t3 v3 d3 p3 := by
  obtain ⟨v, vs, d, dsa, p, q, hargs, rfl, rfl, hd, hrest⟩ := trodAll_cons h
  obtain ⟨v', vs', d', dsb, p', q', rfl, rfl, rfl, hd', hrest'⟩ := trodAll_cons hrest
  obtain ⟨v'', vs'', d'', dsc, p'', q'', rfl, rfl, rfl, hd'', hrest''⟩ := trodAll_cons hrest'
  obtain ⟨v3, vs3, d3, ds3, p3, q3, rfl, rfl, rfl, hd3, hrest3⟩ := trodAll_cons hrest''
  obtain ⟨rfl, rfl, rfl⟩ := trodAll_nil hrest3
  exact ⟨v, v', v'', v3, d, d', d'', d3, p, p', p'', p3, by cases args; simp_all, rfl, by simp, hd, hd', hd'', hd3⟩
end
theorem addr_off {a : Addr} (h : a.spot = none) (i : Nat) : a.add i = ⟨a.block, a.off + i, none⟩ := by
  obtain ⟨b, o, s⟩ := a
  simp only at h
  subst h
  exact Addr.add_lit b o i
theorem weights_mem_all {H : Type} {P : Program} {e : TypeId} {d : DataW H} : ∀ {l : List (DataW H)}, d ∈ l → ∀ n ∈ d.weights P e, n ∈ DataW.weightsAll P e l
  | x :: r, h, n, hn => by
    simp only [DataW.weightsAll]
    rcases List.mem_cons.1 h with rfl | h
    · exact List.mem_append_left _ hn
    · exact List.mem_append_right _ (weights_mem_all h n hn)
theorem cells3 : Try.prog.cellsOf 3 = 1 := by kernel_rfl
theorem cells4 : Try.prog.cellsOf 4 = 1 := by kernel_rfl
theorem cells22 : Try.prog.cellsOf 22 = 1 := by kernel_rfl
theorem cells23 : Try.prog.cellsOf 23 = 1 := by kernel_rfl
theorem cells24 : Try.prog.cellsOf 24 = 1 := by kernel_rfl
theorem cells26 : Try.prog.cellsOf 26 = 5 := by kernel_rfl
theorem cells28 : Try.prog.cellsOf 28 = 9 := by kernel_rfl
theorem cells36 : Try.prog.cellsOf 32 = 3 := by kernel_rfl
theorem cells43 : Try.prog.cellsOf 39 = 12 := by kernel_rfl
/-- A list's elements, each of so many cells, from an address on. -/
def RowsAt {α : Type} (cells : α → List Value) (sz : Nat) (W : World) (a : Option Addr) (L : List α) : Prop := ∀ k (h : k < L.length), ∃ g o, a = some ⟨g, o, none⟩ ∧ ∀ j u, (cells L[k])[j]? = some u → W.cell? ⟨g, o + k * sz + j, none⟩ = some u
section
variable {H : Type} {enc : TypeId × Value → H} {W : World}
theorem open_rows {α : Type} [Inhabited α] (cells : α → List Value) (Ok : α → Prop) {T E sz bs : Nat} (hu : Try.prog.underlying T = some (.slice E)) (hc : Try.prog.cellsOf E = sz) (hb : Try.prog.bytesOf E = bs) (hcl : ∀ x, (cells x).length = sz) (hpos : 0 < sz) {held : Bool}
    (elem : ∀ {n : Nat} {cs : List Value} {y : DataW H × List MemPlace}, DataW.trod enc Try.prog W 0 (fun _ => true) held n E cs = some y → (∀ k ∈ y.1.weights Try.prog E, k ≤ reachBytes) → ∃ x, cs = cells x ∧ Ok x)
    {fuel : Nat} {v : Value} {x : DataW H × List MemPlace} (h : DataW.trod enc Try.prog W 0 (fun _ => true) held fuel T [v] = some x) (hw : ∀ k ∈ x.1.weights Try.prog T, k ≤ reachBytes) :
    ∃ (L : List α) (a : Option Addr) (cap : Nat), v = .slice a L.length cap ∧ L.length ≤ cap ∧ RowsAt cells sz W a L ∧ (∀ x ∈ L, Ok x) ∧ L.length * bs ≤ reachBytes ∧ ((a = none ∧ L.length = 0 ∧ cap = 0) ∨ ∃ ad, a = some ad) := by
  rcases open_slice hu h with ⟨hcs, _⟩ | ⟨ad, len, c, m, n, D, Pl, hcs, _, hl, hm, hmm, hx, hel⟩
  · simp at hcs
    subst hcs
    exact ⟨[], none, 0, rfl, Nat.zero_le _, fun i h => by simp at h, fun r h => (by cases h), by simp, .inl ⟨rfl, rfl, rfl⟩⟩
  · simp at hcs
    subst hcs
    simp only [if_true] at hmm
    subst hmm
    have each : ∀ i, i < len → ∃ y : α, (∀ j u, (cells y)[j]? = some u → W.cell? (ad.add (i * sz + j)) = some u) ∧ Ok y := by
      intro i hi
      obtain ⟨cs', h1, h2⟩ := hel i (by omega)
      rw [hc] at h1
      obtain ⟨_, hlen, hcell⟩ := World.cells?_some h1
      obtain ⟨y, rfl, hy⟩ := elem h2 (fun k hk => hw k (by
        rw [hx]
        simp only [DataW.weights, hu]
        exact List.mem_cons_of_mem _ (List.mem_append_left _ (weights_mem_all (d := D i) (List.mem_map.2 ⟨i, by simpa using hi, rfl⟩) k hk))))
      refine ⟨y, fun j u hj => ?_, hy⟩
      have hjl : j < sz := by have := (List.getElem?_eq_some_iff.1 hj).1; rwa [hcl] at this
      have := hcell j (by omega)
      rw [add_add, hj] at this
      exact this
    obtain ⟨f, hf⟩ := choose_lt each
    have hsz : (len) * bs ≤ reachBytes := by
      have h1 := hw ((((List.range len).map D).length + _) * Try.prog.bytesOf E) (by
        rw [hx]
        simp only [DataW.weights, hu]
        exact List.mem_cons_self)
      rw [hb] at h1
      refine Nat.le_trans (Nat.mul_le_mul_right _ ?_) h1
      simp
    refine ⟨(List.range len).map f, some ad, m, by simp, by simpa using hl, fun i h => ?_, fun r hr => ?_, by simpa using hsz, .inr ⟨ad, rfl⟩⟩
    · have hi : i < len := by simpa using h
      have hspot : ad.spot = none := by
        have hlc : 0 < (cells (f 0)).length := by rw [hcl]; exact hpos
        have := (hf 0 (by omega)).1 0 _ (List.getElem?_eq_getElem hlc)
        have h2 := World.cell?_spot this
        simpa [Addr.add] using h2
      refine ⟨ad.block, ad.off, by obtain ⟨b, o, s⟩ := ad; simp only at hspot; subst hspot; rfl, fun j u hj => ?_⟩
      have h1 := (hf i hi).1 j u (by simpa using hj)
      rw [addr_off hspot] at h1
      rw [Nat.add_assoc]
      exact h1
    · obtain ⟨i, hi, rfl⟩ := List.mem_map.1 hr
      exact (hf i (by have := List.mem_range.1 hi; omega)).2
theorem rows_src {α : Type} {cells : α → List Value} {sz : Nat} (hcl : ∀ x, (cells x).length = sz) (h1 : ∀ x, ∀ u ∈ cells x, u.oneCell' = true) {a : Option Addr} {cap : Nat} {L : List α} (h : RowsAt cells sz W a L) (ha : (a = none ∧ L.length = 0 ∧ cap = 0) ∨ ∃ ad, a = some ad) :
    SrcAt W sz (.slice a L.length cap) L.length (L.flatMap cells) := by
  have hlen : ∀ M : List α, (M.flatMap cells).length = M.length * sz := fun M => by
    induction M with
    | nil => simp
    | cons x M ih => rw [List.flatMap_cons, List.length_append, ih, hcl, List.length_cons, Nat.succ_mul]; omega
  refine ⟨fun u hu => ?_, hlen L, ?_⟩
  · obtain ⟨x, _, hx⟩ := List.mem_flatMap.1 hu
    exact h1 x u hx
  · rcases ha with ⟨rfl, h0, rfl⟩ | ⟨ad, rfl⟩
    · rw [h0]; exact .inl ⟨rfl, rfl⟩
    · refine .inr ⟨ad, cap, rfl, fun j u hj => ?_⟩
      have key : ∀ (M : List α) (j : Nat) (u : Value), (M.flatMap cells)[j]? = some u → ∃ (k : Nat) (hk : k < M.length) (i : Nat), j = k * sz + i ∧ (cells M[k])[i]? = some u := by
        intro M
        induction M with
        | nil => intro j u hj; simp at hj
        | cons x M ih =>
          intro j u hj
          rw [List.flatMap_cons] at hj
          by_cases hjl : j < (cells x).length
          · rw [List.getElem?_append_left hjl] at hj
            exact ⟨0, by simp, j, by simp, by simpa using hj⟩
          · rw [List.getElem?_append_right (by omega)] at hj
            obtain ⟨k, hk, i, e, hi⟩ := ih _ _ hj
            rw [hcl] at hjl e
            exact ⟨k + 1, by simpa using hk, i, by rw [Nat.succ_mul]; omega, by simpa using hi⟩
      obtain ⟨k, hk, i, rfl, hi⟩ := key L j u hj
      obtain ⟨g, o, e, hc⟩ := h k hk
      cases e
      have := hc i u hi
      rw [Addr.add_lit, ← Nat.add_assoc]
      exact this
theorem fm1 : ∀ L : List Int, (L.flatMap fun x => [Value.int .i64 x]) = L.map fun x => .int .i64 x
  | [] => rfl
  | x :: L => by rw [List.flatMap_cons, fm1 L]; rfl
/-- A list of numbers, with its size. -/
def OnAt (W : World) (s : Sl) : Prop := ∃ xs : List Int, xs.length = s.n ∧ SrcAt W 1 (.slice s.a s.n s.c) s.n (xs.map fun x => .int .i64 x) ∧ s.n ≤ 17592186043904
theorem open_ints {held : Bool} {fuel : Nat} {v : Value} {x : DataW H × List MemPlace} (h : DataW.trod enc Try.prog W 0 (fun _ => true) held fuel 24 [v] = some x) (hw : ∀ k ∈ x.1.weights Try.prog 24, k ≤ reachBytes) :
    ∃ (L : List Int) (a : Option Addr) (cap : Nat), v = .slice a L.length cap ∧ L.length ≤ cap ∧ RowsAt (fun x : Int => [.int .i64 x]) 1 W a L ∧ (∀ x ∈ L, -9223372036854775808 ≤ x ∧ x ≤ 9223372036854775807) ∧ L.length * 8 ≤ reachBytes ∧ ((a = none ∧ L.length = 0 ∧ cap = 0) ∨ ∃ ad, a = some ad) :=
  open_rows (fun x : Int => [.int .i64 x]) _ Try.underlying24 cells3 (by kernel_rfl) (fun _ => rfl) (by decide) (fun h _ => by
    obtain ⟨z, e, _, w0⟩ := DataW.trod_int Try.underlying3 h
    exact ⟨z, e, bounds_i64 w0⟩) h hw
theorem open_on {held : Bool} {fuel : Nat} {v : Value} {x : DataW H × List MemPlace} (h : DataW.trod enc Try.prog W 0 (fun _ => true) held fuel 24 [v] = some x) (hw : ∀ k ∈ x.1.weights Try.prog 24, k ≤ reachBytes) : ∃ s : Sl, v = .slice s.a s.n s.c ∧ OnAt W s := by
  obtain ⟨L, a, cap, rfl, hle, hr, _, hb, ha⟩ := open_ints h hw
  refine ⟨⟨a, L.length, cap⟩, rfl, L, rfl, ?_, by simp only [reachBytes] at hb; show L.length ≤ _; omega⟩
  have := rows_src (cells := fun x : Int => [Value.int .i64 x]) (sz := 1) (fun _ => rfl) (fun x u hu => by have h1 := List.mem_singleton.1 hu; subst h1; rfl) hr ha
  rwa [fm1] at this
theorem open_pick {held : Bool} {n : Nat} {cs : List Value} {y : DataW H × List MemPlace} (h : DataW.trod enc Try.prog W 0 (fun _ => true) held n 32 cs = some y) : ∃ p : Pk, cs = p.cells ∧ (0 ≤ p.off ∧ p.off ≤ 18446744073709551615) := by
  obtain ⟨xs, k, _, _, hl, hxl, hf⟩ := DataW.trod_struct Try.underlying32 h
  rw [cells36] at hl
  match cs, hl with
  | [v0, v1, v2], _ =>
    have g0 := hf 0 _ rfl
    have g1 := hf 1 _ rfl
    have g2 := hf 2 _ rfl
    have hx : xs.length = 3 := hxl
    match xs, hx with
    | [y0, y1, y2], _ =>
      simp [cells3, cells23] at g0 g1 g2
      obtain ⟨z0, e0, _, w0⟩ := DataW.trod_int Try.underlying3 g0
      obtain ⟨z1, e1, _, w1⟩ := DataW.trod_int Try.underlying23 g1
      obtain ⟨z2, e2, _, w2⟩ := DataW.trod_int Try.underlying3 g2
      simp at e0 e1 e2
      subst e0 e1 e2
      exact ⟨⟨z0, z1, z2⟩, rfl, bounds_u64 w1⟩
theorem open_chunk {held : Bool} {n : Nat} {cs : List Value} {y : DataW H × List MemPlace} (h : DataW.trod enc Try.prog W 0 (fun _ => true) held n 26 cs = some y) (hw : ∀ k ∈ y.1.weights Try.prog 26, k ≤ reachBytes) : ∃ c : Cu, cs = c.cells ∧ (0 ≤ c.off ∧ c.off ≤ 18446744073709551615) ∧ OnAt W c.on := by
  obtain ⟨xs, k, _, hy, hl, hxl, hf⟩ := DataW.trod_struct Try.underlying26 h
  rw [cells26] at hl
  match cs, hl with
  | [v0, v1, v2, v3, v4], _ =>
    have g0 := hf 0 _ rfl
    have g1 := hf 1 _ rfl
    have g2 := hf 2 _ rfl
    have g3 := hf 3 _ rfl
    have g4 := hf 4 _ rfl
    have hx : xs.length = 5 := hxl
    match xs, hx with
    | [y0, y1, y2, y3, y4], _ =>
      simp [cells3, cells23, cells4, cells24] at g0 g1 g2 g3 g4
      obtain ⟨z0, e0, _, w0⟩ := DataW.trod_int Try.underlying23 g0
      obtain ⟨z1, e1, _, w1⟩ := DataW.trod_int Try.underlying3 g1
      obtain ⟨z2, e2, _⟩ := DataW.trod_bool Try.underlying4 g2
      obtain ⟨z4, e4, _⟩ := DataW.trod_bool Try.underlying4 g4
      obtain ⟨z3, e3, o3⟩ := open_on g3 (fun n hn => hw n (by rw [hy]; simp only [DataW.weights, Try.underlying26]; exact DataW.weights_mem_each (j := 3) (t := 24) (d := y3.1) rfl rfl n hn))
      simp at e0 e1 e2 e4
      subst e0 e1 e2 e3 e4
      exact ⟨⟨z0, z1, z2, z3, z4⟩, rfl, bounds_u64 w0, o3⟩
theorem open_pv {held : Bool} {n : Nat} {cs : List Value} {y : DataW H × List MemPlace} (h : DataW.trod enc Try.prog W 0 (fun _ => true) held n 39 cs = some y) (hw : ∀ k ∈ y.1.weights Try.prog 39, k ≤ reachBytes) : ∃ p : Pv, cs = p.cells ∧ OnAt W p.c.on := by
  obtain ⟨xs, k, _, hy, hl, hxl, hf⟩ := DataW.trod_struct Try.underlying39 h
  rw [cells43] at hl
  match cs, hl with
  | [v0, v1, v2, v3, v4, v5, v6, v7, v8, v9, v10, v11], _ =>
    have g0 := hf 0 _ rfl
    have g1 := hf 1 _ rfl
    have g2 := hf 2 _ rfl
    have g3 := hf 3 _ rfl
    have g4 := hf 4 _ rfl
    have g5 := hf 5 _ rfl
    have g6 := hf 6 _ rfl
    have g7 := hf 7 _ rfl
    have hx : xs.length = 8 := hxl
    match xs, hx with
    | [y0, y1, y2, y3, y4, y5, y6, y7], _ =>
      simp [cells3, cells23, cells4, cells26] at g0 g1 g2 g3 g4 g5 g6 g7
      obtain ⟨z0, e0, _⟩ := DataW.trod_bool Try.underlying4 g0
      obtain ⟨z1, e1, _⟩ := DataW.trod_bool Try.underlying4 g1
      obtain ⟨z2, e2, _⟩ := DataW.trod_bool Try.underlying4 g2
      obtain ⟨z3, e3, _, w3⟩ := DataW.trod_int Try.underlying23 g3
      obtain ⟨z4, e4, _, w4⟩ := DataW.trod_int Try.underlying3 g4
      obtain ⟨z5, e5, _, w5⟩ := DataW.trod_int Try.underlying3 g5
      obtain ⟨z6, e6, _⟩ := DataW.trod_bool Try.underlying4 g6
      obtain ⟨c, e7, _, o7⟩ := open_chunk g7 (fun n hn => hw n (by rw [hy]; simp only [DataW.weights, Try.underlying39]; exact DataW.weights_mem_each (j := 7) (t := 26) (d := y7.1) rfl rfl n hn))
      simp only [Cu.cells, List.cons.injEq, and_true] at e0 e1 e2 e3 e4 e5 e6 e7
      obtain ⟨f0, f1, f2, f3, f4⟩ := e7
      subst e0 e1 e2 e3 e4 e5 e6 f0 f1 f2 f3 f4
      exact ⟨⟨z0, z1, z2, z3, z4, z5, z6, c⟩, rfl, o7⟩
/-- A view as an argument. -/
structure VwIn (W : World) (V : Vw) : Prop where
  at_ : VwAt W V
  on : OnAt W V.want.on
  each : ∀ p ∈ V.L, OnAt W p.c.on
  le : V.L.length ≤ V.cap
  o0 : 0 ≤ V.want.off
  o1 : V.want.off ≤ 18446744073709551615
  e0 : 0 ≤ V.edge
  e1 : V.edge ≤ 18446744073709551615
instance : Inhabited Vw := ⟨⟨none, 0, [], false, ⟨0, 0, false, ⟨none, 0, 0⟩, false⟩, 0, 0⟩⟩
theorem open_view {held : Bool} {n : Nat} {cs : List Value} {y : DataW H × List MemPlace} (h : DataW.trod enc Try.prog W 0 (fun _ => true) held n 28 cs = some y) (hw : ∀ k ∈ y.1.weights Try.prog 28, k ≤ reachBytes) : ∃ V : Vw, cs = V.cells ∧ VwIn W V := by
  obtain ⟨xs, k, _, hy, hl, hxl, hf⟩ := DataW.trod_struct Try.underlying28 h
  rw [cells28] at hl
  match cs, hl with
  | [v0, v1, v2, v3, v4, v5, v6, v7, v8], _ =>
    have g0 := hf 0 _ rfl
    have g1 := hf 1 _ rfl
    have g2 := hf 2 _ rfl
    have g3 := hf 3 _ rfl
    have g4 := hf 4 _ rfl
    have hx : xs.length = 5 := hxl
    match xs, hx with
    | [y0, y1, y2, y3, y4], _ =>
      simp [cells3, cells23, cells4, cells26, cells22] at g0 g1 g2 g3 g4
      have hwf : ∀ (j : Nat) (t : TypeId) (d : DataW H), ([22, 4, 26, 23, 3] : List TypeId)[j]? = some t → ([y0, y1, y2, y3, y4].map (·.1))[j]? = some d → ∀ n ∈ d.weights Try.prog t, n ≤ reachBytes := by
        intro j t d ht hd n hn
        refine hw n ?_
        rw [hy]
        simp only [DataW.weights, Try.underlying28]
        exact DataW.weights_mem_each ht hd n hn
      obtain ⟨L, a, cap, e0, hle, hr, hok, hb, ha⟩ := open_rows (bs := 96) Pv.cells (fun p => OnAt W p.c.on) Try.underlying22 cells43 (by kernel_rfl) (fun _ => rfl) (by decide) (fun h hw => open_pv h hw) g0 (hwf 0 22 y0.1 rfl rfl)
      obtain ⟨z1, e1, _⟩ := DataW.trod_bool Try.underlying4 g1
      obtain ⟨c, e2, b2, o2⟩ := open_chunk g2 (hwf 2 26 y2.1 rfl rfl)
      obtain ⟨z3, e3, _, w3⟩ := DataW.trod_int Try.underlying23 g3
      obtain ⟨z4, e4, _, w4⟩ := DataW.trod_int Try.underlying3 g4
      simp only [Cu.cells, List.cons.injEq, and_true] at e1 e2 e3 e4
      obtain ⟨f0, f1, f2, f3, f4⟩ := e2
      subst e0 e1 e3 e4 f0 f1 f2 f3 f4
      have b3 := bounds_u64 w3
      exact ⟨⟨a, cap, L, z1, c, z3, z4⟩, rfl, ⟨hr, by simp only [reachBytes] at hb; simp only; omega⟩, o2, hok, hle, b2.1, b2.2, b3.1, b3.2⟩
end
end Go.Proofs.Ytdbdiebgjnofgab
