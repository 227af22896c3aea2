import Derived.Test.YtjpllcliehgnfaaDoorJ27
import Derived.Test.YtjpllcliehgnfaaDoorJ28
import Derived.Test.YtjpllcliehgnfaaDoorLaid
import Derived.Test.YtjpllcliehgnfaaDoorCards
import Derived.JoinedCond
namespace Go.Proofs.YtjpllcliehgnfaaDoor
open Go.ChangeShapes Go.WideShapes Go.ChangeAt Go.RowKit Go.Deep
set_option maxRecDepth 100000

theorem cells3 : Tryd.prog.cellsOf 3 = 1 := by kernel_rfl
theorem cells42 : Tryd.prog.cellsOf 42 = 2 := by kernel_rfl
theorem bytes42 : Tryd.prog.bytesOf 42 = 16 := by kernel_rfl
theorem addr_off {a : Addr} (h : a.spot = none) (i : Nat) : a.add i = ⟨a.block, a.off + i, none⟩ := by
  obtain ⟨b, o, s⟩ := a
  simp only at h
  subst h
  exact Addr.add_lit b o i
theorem weights_mem_all {H : Type} {P : Program} {e : TypeId} {d : DataW H} : ∀ {l : List (DataW H)}, d ∈ l → ∀ n ∈ d.weights P e, n ∈ DataW.weightsAll P e l
  | x :: r, h, n, hn => by
    simp only [DataW.weightsAll]
    rcases List.mem_cons.1 h with rfl | h
    · exact List.mem_append_left _ hn
    · exact List.mem_append_right _ (weights_mem_all h n hn)
/-- A list's elements, each of so many cells, from an address on. -/
def RowsAt {α : Type} (cells : α → List Value) (sz : Nat) (W : World) (a : Option Addr) (L : List α) : Prop := ∀ k (h : k < L.length), ∃ g o, a = some ⟨g, o, none⟩ ∧ ∀ j u, (cells L[k])[j]? = some u → W.cell? ⟨g, o + k * sz + j, none⟩ = some u
section
variable {H : Type} {enc : TypeId × Value → H} {W : World}
theorem open_rows {α : Type} [Inhabited α] (cells : α → List Value) (Ok : α → Prop) {T E sz bs : Nat} (hu : Tryd.prog.underlying T = some (.slice E)) (hc : Tryd.prog.cellsOf E = sz) (hb : Tryd.prog.bytesOf E = bs) (hcl : ∀ x, (cells x).length = sz) (hpos : 0 < sz) {held : Bool}
    (elem : ∀ {n : Nat} {cs : List Value} {y : DataW H × List MemPlace}, DataW.trod enc Tryd.prog W 0 (fun _ => true) held n E cs = some y → (∀ k ∈ y.1.weights Tryd.prog E, k ≤ reachBytes) → ∃ x, cs = cells x ∧ Ok x)
    {fuel : Nat} {v : Value} {x : DataW H × List MemPlace} (h : DataW.trod enc Tryd.prog W 0 (fun _ => true) held fuel T [v] = some x) (hw : ∀ k ∈ x.1.weights Tryd.prog T, k ≤ reachBytes) :
    ∃ (L : List α) (a : Option Addr) (cap : Nat), v = .slice a L.length cap ∧ L.length ≤ cap ∧ RowsAt cells sz W a L ∧ (∀ x ∈ L, Ok x) ∧ L.length * bs ≤ reachBytes ∧ ((a = none ∧ L.length = 0 ∧ cap = 0) ∨ ∃ ad, a = some ad) := by
  rcases open_slice hu h with ⟨hcs, _⟩ | ⟨ad, len, c, m, n, D, Pl, hcs, _, hl, hm, hmm, hx, hel⟩
  · simp at hcs
    subst hcs
    exact ⟨[], none, 0, rfl, Nat.zero_le _, fun i h => by simp at h, fun r h => (by cases h), by simp, .inl ⟨rfl, rfl, rfl⟩⟩
  · simp at hcs
    subst hcs
    simp only [if_true] at hmm
    subst hmm
    have each : ∀ i, i < len → ∃ y : α, (∀ j u, (cells y)[j]? = some u → W.cell? (ad.add (i * sz + j)) = some u) ∧ Ok y := by
      intro i hi
      obtain ⟨cs', h1, h2⟩ := hel i (by omega)
      rw [hc] at h1
      obtain ⟨_, hlen, hcell⟩ := World.cells?_some h1
      obtain ⟨y, rfl, hy⟩ := elem h2 (fun k hk => hw k (by
        rw [hx]
        simp only [DataW.weights, hu]
        exact List.mem_cons_of_mem _ (List.mem_append_left _ (weights_mem_all (d := D i) (List.mem_map.2 ⟨i, by simpa using hi, rfl⟩) k hk))))
      refine ⟨y, fun j u hj => ?_, hy⟩
      have hjl : j < sz := by have := (List.getElem?_eq_some_iff.1 hj).1; rwa [hcl] at this
      have := hcell j (by omega)
      rw [add_add, hj] at this
      exact this
    obtain ⟨f, hf⟩ := choose_lt each
    have hsz : (len) * bs ≤ reachBytes := by
      have h1 := hw ((((List.range len).map D).length + _) * Tryd.prog.bytesOf E) (by
        rw [hx]
        simp only [DataW.weights, hu]
        exact List.mem_cons_self)
      rw [hb] at h1
      refine Nat.le_trans (Nat.mul_le_mul_right _ ?_) h1
      simp
    refine ⟨(List.range len).map f, some ad, m, by simp, by simpa using hl, fun i h => ?_, fun r hr => ?_, by simpa using hsz, .inr ⟨ad, rfl⟩⟩
    · have hi : i < len := by simpa using h
      have hspot : ad.spot = none := by
        have hlc : 0 < (cells (f 0)).length := by rw [hcl]; exact hpos
        have := (hf 0 (by omega)).1 0 _ (List.getElem?_eq_getElem hlc)
        have h2 := World.cell?_spot this
        simpa [Addr.add] using h2
      refine ⟨ad.block, ad.off, by obtain ⟨b, o, s⟩ := ad; simp only at hspot; subst hspot; rfl, fun j u hj => ?_⟩
      have h1 := (hf i hi).1 j u (by simpa using hj)
      rw [addr_off hspot] at h1
      rw [Nat.add_assoc]
      exact h1
    · obtain ⟨i, hi, rfl⟩ := List.mem_map.1 hr
      exact (hf i (by have := List.mem_range.1 hi; omega)).2
theorem open_turn {held : Bool} {n : Nat} {cs : List Value} {y : DataW H × List MemPlace} (h : DataW.trod enc Tryd.prog W 0 (fun _ => true) held n 42 cs = some y) : ∃ x : Int × Int, cs = [.int .i64 x.1, .int .i64 x.2] ∧ True := by
  obtain ⟨xs, k, _, _, hl, hxl, hf⟩ := DataW.trod_struct Tryd.underlying42 h
  rw [cells42] at hl
  match cs, hl with
  | [v0, v1], _ =>
    have g0 := hf 0 _ rfl
    have g1 := hf 1 _ rfl
    have hx : xs.length = 2 := hxl
    match xs, hx with
    | [y0, y1], _ =>
      simp [cells3] at g0 g1
      obtain ⟨z0, e0, _, _⟩ := DataW.trod_int Tryd.underlying3 g0
      obtain ⟨z1, e1, _, _⟩ := DataW.trod_int Tryd.underlying3 g1
      simp at e0 e1
      subst e0 e1
      exact ⟨(z0, z1), rfl, trivial⟩
theorem open_turns {held : Bool} {fuel : Nat} {v : Value} {x : DataW H × List MemPlace} (h : DataW.trod enc Tryd.prog W 0 (fun _ => true) held fuel 39 [v] = some x) (hw : ∀ k ∈ x.1.weights Tryd.prog 39, k ≤ reachBytes) :
    ∃ (L : List (Int × Int)) (a : Option Addr) (cap : Nat), v = .slice a L.length cap ∧ TnAt W a L ∧ L.length * 16 ≤ reachBytes := by
  obtain ⟨L, a, cap, e, _, hr, _, hb, _⟩ := open_rows (fun x : Int × Int => [.int .i64 x.1, .int .i64 x.2]) (fun _ => True) Tryd.underlying39 cells42 bytes42 (fun _ => rfl) (by decide) (fun h _ => open_turn h) h hw
  refine ⟨L, a, cap, e, fun k hk => ?_, hb⟩
  obtain ⟨g, o, ea, hc⟩ := hr k hk
  exact ⟨g, o, ea, hc 0 _ rfl, hc 1 _ rfl⟩
end
theorem comes_any {w : World} (path : Int) (a b : Nat) (ret : Int) (bk : Bool) (L : List (Int × Int)) (ad : Option Addr) (cap : Nat) (hL : TnAt w ad L) (hlen : L.length ≤ 281474976710656) (ha : a < 18446744073709551616) (hb : b < 18446744073709551616) (hK : KTab w) (h1 : 1 ≤ w.heap.size) :
    Calls Tryd.prog 5 #[.int .i64 path, .int .u64 (a : Int), .int .u64 (b : Int), .int .i64 ret, .bool bk, .slice ad L.length cap] w fun e w' => e = .returned (.bool true) ∧ Below w.heap.size w w' := by
  by_cases hp : path = 0
  · subst hp
    exact comes_zero a b ret bk L ad cap hL hlen ha hb hK h1
  · exact comes_path path hp a b ret bk L ad cap hL hlen ha hb hK h1
theorem comes_met (os : Os) (args : Array Value) : laidMetH Tryd.prog Rows.joinComesRow.laid ((World.doorLaid Tryd.prog 400 os).forCall (fun _ _ => 0) ⟨#[], args, []⟩).memory :=
  laidMetH_of_parts3 (fuel := 8) (laidMet_of_run' 8 (by kernel_rfl) (by kernel_rfl)) (by kernel_rfl) (by kernel_rfl)
set_option maxHeartbeats 2000000 in
theorem comes_lifted (os : Os) (started : os.Started) (H : Type) (enc : TypeId × Value → H) :
    ReturnsInHanded {} Tryd.checked os 5 .any (fun w args => (Rows.joinComesSpec.pre enc Tryd.prog Tryd.f5 [] false w args ∧ laidMetH Tryd.prog Rows.joinComesRow.laid w) ∧ sizedMet enc Tryd.prog Tryd.f5 (OpenSpec.ofChange Rows.joinComesSpec) false w args)
      (Rows.joinComesSpec.post enc Tryd.prog Tryd.f5 false true false false) := by
  refine returnsInHanded_of_change_and (C := Tryd.checked) (X := fun w _ => laidMetH Tryd.prog Rows.joinComesRow.laid w) (fun _ _ _ hh h => h.of_heap hh) own started (by kernel_rfl) Tryd.func5
    (ChangeSpec.witness_shaped (enc := enc) (C := Tryd.checked) (os := os) (X := fun w _ => laidMetH Tryd.prog Rows.joinComesRow.laid w) false (World.doorLaid Tryd.prog 400 os) #[.int .i64 0, .int .u64 0, .int .u64 0, .int .i64 0, .bool false, .slice none 0 0] 8 rfl (World.shaped_of_RefB (by kernel_rfl) (by kernel_rfl)) (by kernel_rfl) (by kernel_rfl) (by kernel_rfl) (comes_met os _)) ?_
  intro W base args ds gs before hval0 hW _ hsz0 hL _
  have hsz : (DataW.weightsEach Tryd.prog (Tryd.f5.params.toList ++ Rows.joinComesSpec.plain.varTypes Tryd.prog) (ds ++ gs)).all (· ≤ reachBytes) = true := hsz0
  clear hsz0
  have hval : ∀ (j : Nat) t v, Tryd.f5.params[j]? = some t → args[j]? = some v → Value.okWide Tryd.prog W .any base t v := hval0
  have hW' := hW
  obtain ⟨p, q, hA0, hV, rfl, _, _⟩ := hW
  have hA : DataW.TrodAll enc Tryd.prog W 0 (fun _ => true) true Tryd.f5.params.toList args.toList ds p := hA0
  rw [Tryd.params5] at hA hval hsz
  obtain ⟨v0, vs0, d0, ds0, p0, q0, hargs, rfl, rfl, h0, hr0⟩ := trodAll_cons hA
  obtain ⟨v1, vs1, d1, ds1, p1, q1, rfl, rfl, rfl, h1, hr1⟩ := trodAll_cons hr0
  obtain ⟨v2, vs2, d2, ds2, p2, q2, rfl, rfl, rfl, h2, hr2⟩ := trodAll_cons hr1
  obtain ⟨v3, vs3, d3, ds3, p3, q3, rfl, rfl, rfl, h3, hr3⟩ := trodAll_cons hr2
  obtain ⟨v4, vs4, d4, ds4, p4, q4, rfl, rfl, rfl, h4, hr4⟩ := trodAll_cons hr3
  obtain ⟨v5, vs5, d5, ds5, p5, q5, rfl, rfl, rfl, h5, hr5⟩ := trodAll_cons hr4
  obtain ⟨rfl, rfl, rfl⟩ := trodAll_nil hr5
  obtain rfl : args = #[v0, v1, v2, v3, v4, v5] := by cases args; simp_all
  obtain ⟨rfl, rfl⟩ := trodVars_none hV
  have k0 := h0
  obtain ⟨x0, rfl, rfl, rfl, wx0⟩ := open_int Tryd.underlying3 (hval 0 3 v0 rfl rfl) h0
  have bx0 := bounds_i64 wx0
  have k1 := h1
  obtain ⟨x1, rfl, rfl, rfl, wx1⟩ := open_int Tryd.underlying22 (hval 1 22 v1 rfl rfl) h1
  have bx1 := bounds_u64 wx1
  obtain ⟨n1, rfl⟩ : ∃ N : Nat, x1 = (N : Int) := ⟨x1.toNat, by have := bx1.1; omega⟩
  have hn1 : n1 < 18446744073709551616 := by have := bx1.2; omega
  have k2 := h2
  obtain ⟨x2, rfl, rfl, rfl, wx2⟩ := open_int Tryd.underlying22 (hval 2 22 v2 rfl rfl) h2
  have bx2 := bounds_u64 wx2
  obtain ⟨n2, rfl⟩ : ∃ N : Nat, x2 = (N : Int) := ⟨x2.toNat, by have := bx2.1; omega⟩
  have hn2 : n2 < 18446744073709551616 := by have := bx2.2; omega
  have k3 := h3
  obtain ⟨x3, rfl, rfl, rfl, wx3⟩ := open_int Tryd.underlying3 (hval 3 3 v3 rfl rfl) h3
  have bx3 := bounds_i64 wx3
  have k4 := h4
  obtain ⟨x4, rfl, rfl, rfl⟩ := open_bool Tryd.underlying4 (hval 4 4 v4 rfl rfl) h4
  have k5 := h5
  have lt5 : ∀ x ∈ p5, x.block < W.heap.size := by obtain ⟨m, hm⟩ := k5; exact DataW.trod_lt m _ _ _ hm
  obtain ⟨sa5, sl5, sc5, rfl⟩ := okWide_slice Tryd.underlying39 (hval 5 39 v5 rfl rfl)
  obtain ⟨L5, a5, c5, e5, hr5', hb5⟩ : ∃ (L : List (Int × Int)) (a : Option Addr) (cap : Nat), Value.slice sa5 sl5 sc5 = .slice a L.length cap ∧ TnAt W a L ∧ L.length * 16 ≤ reachBytes := by
    obtain ⟨fuel, hf⟩ := h5
    exact open_turns hf (fun k hk => by simpa using List.all_eq_true.1 hsz k (DataW.weights_mem_each (j := 5) (t := 39) (d := d5) rfl rfl k hk))
  cases e5
  have hL2 : laidMet Tryd.prog Rows.joinComesRow.laid W := by rw [MakeChecks.laidMetH_plain _ _ _ (by kernel_rfl)] at hL; exact hL
  have hK : KTab W := ktab_of (rest := []) hL2
  have h1s : 1 ≤ W.heap.size := World.block_lt_of_cell? W _ (hK 0 (by decide))
  clear hA0 hval0 hL hL2
  refine (comes_any x0 n1 n2 x3 x4 L5 sa5 sc5 hr5' (by simp only [reachBytes] at hb5; omega) hn1 hn2 hK h1s).mono fun e W' ⟨he, bel⟩ => ?_
  subst he
  exact ⟨_, rfl, _, _, _, [], _, [], hW', trodAll_mk1 (shut_bool Tryd.underlying4 _), trodAll_cons_mk (Below.trod laidOut (by kernel_rfl) (of_decide_eq_true (by kernel_rfl)) k0 bel (by simp)) (trodAll_cons_mk (Below.trod laidOut (by kernel_rfl) (of_decide_eq_true (by kernel_rfl)) k1 bel (by simp)) (trodAll_cons_mk (Below.trod laidOut (by kernel_rfl) (of_decide_eq_true (by kernel_rfl)) k2 bel (by simp)) (trodAll_cons_mk (Below.trod laidOut (by kernel_rfl) (of_decide_eq_true (by kernel_rfl)) k3 bel (by simp)) (trodAll_cons_mk (Below.trod laidOut (by kernel_rfl) (of_decide_eq_true (by kernel_rfl)) k4 bel (by simp)) (trodAll_cons_mk (Below.trod laidOut (by kernel_rfl) (of_decide_eq_true (by kernel_rfl)) k5 bel lt5) (trodAll_mk0)))))), rfl, bel.frame _, fun h => by cases h⟩

theorem comes_row : Rows.JoinComesSaid :=
  OpenClaim.holds_of_wide 5 Tryd.f5 rfl rfl rfl rfl rfl rfl rfl ⟨rfl, rfl, rfl, rfl, rfl⟩ rfl rfl rfl rfl rfl (by kernel_rfl) Tryd.func5 (by kernel_rfl)
    (of_decide_eq_true (by kernel_rfl)) (by unfold Func.isWrapper; first | (rw [if_pos (by decide +kernel)]; kernel_rfl) | (rw [if_neg (by decide +kernel)]; exact ⟨rfl, rfl⟩))
    (fun os started H enc _ => comes_lifted os started H enc)

/-- Whatever of the three frames is heard, in any order, again and again: as long as neither goes back to None both come to be Joined, and stay so. -/
theorem comes_holds : Rows.JoinComesCardSaid :=
  Claim7.holds_tied_plain_at .later [] [.data] true (true, "d90a9ada5ba4e67d6bd6025e9728d897d297ba5146348f309bd2dbe0b73cb695") false
    comes_row (fun _ h => by cases h) (by kernel_rfl) (fun _ h => by cases h) joinComes_row_tie rfl ⟨rfl, rfl⟩ (by kernel_rfl) rfl
    (fun f fn hf hfn => by
      obtain rfl : f = 5 := Option.some.inj ((show Tryd.prog.funcNamed Rows.joinComesRow.func = some 5 by kernel_rfl).symm.trans hf) |>.symm
      obtain rfl : fn = Tryd.f5 := (Option.some.inj (Tryd.func5.symm.trans hfn)).symm
      exact ⟨by kernel_rfl, fun j t ht => by
        rw [Tryd.params5] at ht
        have hm : t ∈ [3, 22, 22, 3, 4, 39] := by simpa using Array.mem_of_getElem? ht
        have hall : ([3, 22, 22, 3, 4, 39].all fun u => !Tryd.prog.wantsStandIn u) = true := by kernel_rfl
        exact (show Tryd.prog.wantsStandIn t = false by simpa using List.all_eq_true.1 hall t hm)⟩)
    (by kernel_rfl)
#print axioms comes_holds
end Go.Proofs.YtjpllcliehgnfaaDoor
