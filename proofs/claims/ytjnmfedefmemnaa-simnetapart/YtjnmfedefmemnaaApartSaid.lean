import Derived.Test.YtjnmfedefmemnaaOpenOps
import Derived.Test.YtjnmfedefmemnaaApart
namespace Go.Proofs.Ytjnmfedefmemnaa
open Go.ChangeShapes Go.WideShapes Go.ChangeAt Go.RowKit Go.Deep
set_option maxRecDepth 100000

theorem bytes35 : Try.prog.bytesOf 5 = 1 := by kernel_rfl
theorem bytes37 : Try.prog.bytesOf 60 = 80 := by kernel_rfl
theorem weights_mem_all {H : Type} {P : Program} {e : TypeId} {d : DataW H} : ∀ {l : List (DataW H)}, d ∈ l → ∀ n ∈ d.weights P e, n ∈ DataW.weightsAll P e l
  | x :: r, h, n, hn => by
    simp only [DataW.weightsAll]
    rcases List.mem_cons.1 h with rfl | h
    · exact List.mem_append_left _ hn
    · exact List.mem_append_right _ (weights_mem_all h n hn)
section
variable {H : Type} {enc : TypeId × Value → H} {W : World}
theorem open_op_sized {n : Nat} {sp : Nat → Bool} {held : Bool} {cs : List Value} {y : DataW H × List MemPlace} (h : DataW.trod enc Try.prog W 0 sp held n 60 cs = some y) (hw : ∀ k ∈ y.1.weights Try.prog 60, k ≤ reachBytes) :
    ∃ o : OpV, cs = o.cells ∧ BytesAt W o.fa o.frame ∧ o.frame.length ≤ 140737488351232 := by
  obtain ⟨xs, k, _, hy, hl, hxl, hf⟩ := DataW.trod_struct Try.underlying60 h
  rw [cells60] at hl
  match cs, hl with
  | [v0, v1, v2, v3, v4, v5, v6, v7, v8], _ =>
    have hx : xs.length = 9 := hxl
    match xs, hx with
    | [y0, y1, y2, y3, y4, y5, y6, y7, y8], _ =>
      have g0 := hf 0 _ rfl
      have g1 := hf 1 _ rfl
      have g2 := hf 2 _ rfl
      have g3 := hf 3 _ rfl
      have g4 := hf 4 _ rfl
      have g5 := hf 5 _ rfl
      have g6 := hf 6 _ rfl
      have g7 := hf 7 _ rfl
      have g8 := hf 8 _ rfl
      simp [cells3, cells4, cells5, cells22] at g0 g1 g2 g3 g4 g5 g6 g7 g8
      obtain ⟨x0, e0, _, _⟩ := DataW.trod_int Try.underlying3 g0
      obtain ⟨x1, e1, _⟩ := DataW.trod_bool Try.underlying4 g1
      obtain ⟨x2, e2, _, _⟩ := DataW.trod_int Try.underlying3 g2
      obtain ⟨x3, e3, _, _⟩ := DataW.trod_int Try.underlying3 g3
      obtain ⟨x4, e4, _, _⟩ := DataW.trod_int Try.underlying3 g4
      obtain ⟨x5, e5, _, _⟩ := DataW.trod_int Try.underlying3 g5
      obtain ⟨x6, e6, _, w6⟩ := DataW.trod_int Try.underlying5 g6
      obtain ⟨x7, e7, _⟩ := DataW.trod_bool Try.underlying4 g7
      obtain ⟨a8, l8, c8, e8⟩ := cell_slice g8
      simp at e0 e1 e2 e3 e4 e5 e6 e7
      subst e0 e1 e2 e3 e4 e5 e6 e7 e8
      obtain ⟨bs, rfl, hB, _, hsl⟩ := open_bytes g8
      have b6 := bounds_u8 w6
      refine ⟨⟨x0, x1, x2, x3, x4, x5, BitVec.ofNat 8 x6.toNat, x7, bs, a8, c8⟩, ?_, hB, ?_⟩
      · show _ = [_, _, _, _, _, _, _, _, _]
        rw [← ub_of x6 b6.1 (by omega)]
      · rcases hsl with h0 | ⟨el, sp2, e, e2⟩
        · show bs.length ≤ _
          omega
        · have h1 : (el.length + sp2.length) * Try.prog.bytesOf 5 ∈ y.1.weights Try.prog 60 := by
            rw [hy]
            simp only [DataW.weights, Try.underlying60]
            refine DataW.weights_mem_each (j := 8) (t := 22) (d := y8.1) rfl rfl _ ?_
            rw [e]
            simp [DataW.weights, Try.underlying22]
          have h2 := hw _ h1
          rw [bytes35] at h2
          simp only [reachBytes] at h2
          show bs.length ≤ _
          omega
theorem open_ops_sized {sp : Nat → Bool} {held : Bool} {fuel len cap : Nat} {a : Option Addr} {x : DataW H × List MemPlace} (h : DataW.trod enc Try.prog W 0 sp held fuel 57 [.slice a len cap] = some x) (hw : ∀ k ∈ x.1.weights Try.prog 57, k ≤ reachBytes) :
    ∃ ops : List OpV, ops.length = len ∧ OpsAt W a ops ∧ (∀ o ∈ ops, o.frame.length ≤ 140737488351232) ∧ len ≤ 1759218604390 := by
  rcases open_slice Try.underlying57 h with ⟨hcs, _⟩ | ⟨ad, l, c, m, n, D, Pl, hcs, _, hl, hm, hmm, hx, hel⟩
  · simp at hcs
    obtain ⟨rfl, rfl, rfl⟩ := hcs
    exact ⟨[], rfl, fun i h => by simp at h, (fun f hf => by cases hf), Nat.zero_le _⟩
  · simp at hcs
    obtain ⟨rfl, rfl, rfl⟩ := hcs
    have hlm : len ≤ m := by rw [hmm]; split <;> omega
    have each : ∀ i, i < len → ∃ o : OpV, (∀ j v, o.cells[j]? = some v → W.cell? (ad.add (i * 9 + j)) = some v) ∧ BytesAt W o.fa o.frame ∧ o.frame.length ≤ 140737488351232 := by
      intro i hi
      obtain ⟨cs', h1, h2⟩ := hel i (by omega)
      rw [cells60] at h1
      obtain ⟨_, hlen, hcell⟩ := World.cells?_some h1
      obtain ⟨o, rfl, hB, hb⟩ := open_op_sized h2 (fun k hk => hw k (by
        rw [hx]
        simp only [DataW.weights, Try.underlying57]
        exact List.mem_cons_of_mem _ (List.mem_append_left _ (weights_mem_all (d := D i) (List.mem_map.2 ⟨i, by simpa using hi, rfl⟩) k hk))))
      refine ⟨o, fun j v hv => ?_, hB, hb⟩
      have hj : j < 9 := by have := (List.getElem?_eq_some_iff.1 hv).1; simpa [OpV.cells] using this
      have := hcell j (by omega)
      rw [add_add, hv] at this
      exact this
    obtain ⟨f, hf⟩ := choose_lt each
    refine ⟨(List.range len).map f, by simp, fun i h => ?_, fun o ho => ?_, ?_⟩
    · have hi : i < len := by simpa using h
      have h0 := (hf 0 (by omega)).1 0 _ rfl
      have hs : ad.spot = none := World.cell?_spot (a := ad) (v := .int .i64 (f 0).kind) (by simpa [Addr.add] using h0)
      have hh := hf i (by omega)
      refine ⟨ad.block, ad.off, ?_, fun j v hv => ?_, ?_⟩
      · cases ad; simp only at hs; subst hs; rfl
      · have h1 := hh.1 j v (by simpa using hv)
        rw [addr_off hs] at h1
        rw [Nat.add_assoc]
        exact h1
      · simpa using hh.2.1
    · obtain ⟨j, hj, rfl⟩ := List.mem_map.1 ho
      exact (hf j (by simpa using hj)).2.2
    · have h1 := hw ((((List.range len).map D).length + _) * Try.prog.bytesOf 60) (by
        rw [hx]
        simp only [DataW.weights, Try.underlying57]
        exact List.mem_cons_self)
      rw [bytes37] at h1
      simp only [reachBytes, List.length_map, List.length_range] at h1
      omega
end
end Go.Proofs.Ytjnmfedefmemnaa
namespace Go.Proofs.Ytjnmfedefmemnaa
open Go.ChangeShapes Go.WideShapes Go.ChangeAt Go.RowKit Go.Deep

set_option maxRecDepth 100000 in
theorem apart_lifted (os : Os) (started : os.Started) (H : Type) (enc : TypeId × Value → H) :
    ReturnsInHanded {} Try.checked os 8 .any (Rows.simnetApartSpec.pre6 enc Try.prog Try.f8 Rows.simnetApartRow.domain false) (Rows.simnetApartSpec.post enc Try.prog Try.f8 false true false false) := by
  refine returnsInHanded_of_change_sized (C := Try.checked) own started (by kernel_rfl) Try.func8
    (ChangeSpec.witness6 (enc := enc) (C := Try.checked) false ⟨#[], #[.slice none 0 0, .slice none 0 0, .int .i64 0, .int .i64 0], []⟩ 8 (by kernel_rfl) (by kernel_rfl) (by kernel_rfl) (by kernel_rfl)) ?_
  intro W base args ds gs before hval0 hW _ hsz0 _
  have hsz : (DataW.weightsEach Try.prog (Try.f8.params.toList ++ Rows.simnetApartSpec.plain.varTypes Try.prog) (ds ++ gs)).all (· ≤ reachBytes) = true := hsz0
  clear hsz0
  have hval : ∀ (j : Nat) t v, Try.f8.params[j]? = some t → args[j]? = some v → Value.okWide Try.prog W .any base t v := hval0
  have hW' := hW
  obtain ⟨p, q, hA0, hV, rfl, _, _⟩ := hW
  have hA : DataW.TrodAll enc Try.prog W 0 (fun _ => true) true Try.f8.params.toList args.toList ds p := hA0
  rw [Try.params8] at hA hval hsz
  obtain ⟨v0, v1, v2, v3, d0, d1, d2, d3, p0, p1, p2, p3, rfl, rfl, rfl, h0, h1, h2, h3⟩ := trodAll_four hA
  obtain ⟨rfl, rfl⟩ := trodVars_none hV
  obtain ⟨a0, len, cap, rfl⟩ := okWide_slice Try.underlying27 (hval 0 27 v0 rfl rfl)
  obtain ⟨a1, lenb, capb, rfl⟩ := okWide_slice Try.underlying57 (hval 1 57 v1 rfl rfl)
  obtain ⟨x, rfl, rfl, rfl, wx⟩ := open_int Try.underlying3 (hval 2 3 v2 rfl rfl) h2
  obtain ⟨y, rfl, rfl, rfl, wy⟩ := open_int Try.underlying3 (hval 3 3 v3 rfl rfl) h3
  have k0 := h0
  have k1 := h1
  have lt0 : ∀ x ∈ p0, x.block < W.heap.size := by obtain ⟨m, hm⟩ := k0; exact DataW.trod_lt m _ _ _ hm
  have lt1 : ∀ x ∈ p1, x.block < W.heap.size := by obtain ⟨m, hm⟩ := k1; exact DataW.trod_lt m _ _ _ hm
  obtain ⟨ps, hpl, hP, _⟩ : ∃ ps : List Int, ps.length = len ∧ CellsAt W a0 (ps.map (Value.int .i64)) ∧ len ≤ Rows.uptoBulk d0 := by
    obtain ⟨fuel, hf⟩ := h0
    exact open_ints hf
  obtain ⟨ops, hol, hO, hfl, hb1⟩ : ∃ ops : List OpV, ops.length = lenb ∧ OpsAt W a1 ops ∧ (∀ o ∈ ops, o.frame.length ≤ 140737488351232) ∧ lenb ≤ 1759218604390 := by
    obtain ⟨fuel, hf⟩ := h1
    exact open_ops_sized hf (fun k hk => by simpa using List.all_eq_true.1 hsz k (DataW.weights_mem_each (j := 1) (t := 57) (d := d1) rfl rfl k hk))
  clear hA0 hval0
  refine (apart_any (c1 := cap) (c2 := capb) x y hP hpl hO hol hb1 hfl).mono fun e W' ⟨he, bel⟩ => ?_
  subst he
  exact ⟨_, rfl, _, _, _, [], _, [], hW', trodAll_mk1 (shut_bool Try.underlying4 _), (trodAll_cons_mk (Below.trod laidOut (by kernel_rfl) (of_decide_eq_true (by kernel_rfl)) k0 bel lt0) (trodAll_cons_mk (Below.trod laidOut (by kernel_rfl) (of_decide_eq_true (by kernel_rfl)) k1 bel lt1) (trodAll_cons_mk (shut_int Try.underlying3 wx) (trodAll_cons_mk (shut_int Try.underlying3 wy) trodAll_mk0)))), rfl, bel.frame _, fun h => by cases h⟩

/-- Bags know nothing of one another. -/
theorem apart_holds : Rows.SimnetApartSaid :=
  OpenClaim.holds_of_wide 8 Try.f8 rfl rfl rfl rfl rfl rfl rfl ⟨rfl, rfl, rfl, rfl, rfl⟩ rfl rfl rfl rfl rfl (by kernel_rfl) Try.func8 (by kernel_rfl)
    (of_decide_eq_true (by kernel_rfl)) (by unfold Func.isWrapper; first | (rw [if_pos (by decide +kernel)]; kernel_rfl) | (rw [if_neg (by decide +kernel)]; exact ⟨rfl, rfl⟩))
    (fun os started H enc _ => apart_lifted os started H enc)
#print axioms apart_holds
end Go.Proofs.Ytjnmfedefmemnaa
