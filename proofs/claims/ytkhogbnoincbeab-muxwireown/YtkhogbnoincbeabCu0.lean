import Derived.Test.YtkhogbnoincbeabAll3
namespace Go.Proofs.Ytkhogbnoincbeab
open Go.RowKit Go.Maps Go.Sort
set_option maxRecDepth 100000

theorem info23 : ∃ i : TypeInfo, Try.prog.info? 27 = some i ∧ i.zero = some (.slice none 0 0) ∧ i.size = 1 ∧ i.bytes = 24 := by
  have h : (Try.prog.info? 27).isSome = true := by kernel_rfl
  obtain ⟨i, hi⟩ := Option.isSome_iff_exists.1 h
  refine ⟨i, hi, ?_, ?_, ?_⟩
  · have : (Try.prog.info? 27).bind (·.zero) = some (.slice none 0 0) := by kernel_rfl
    rw [hi] at this
    exact this
  · have : (Try.prog.info? 27).map (·.size) = some 1 := by kernel_rfl
    rw [hi] at this
    simpa using this
  · have : (Try.prog.info? 27).map (·.bytes) = some 24 := by kernel_rfl
    rw [hi] at this
    simpa using this
theorem bsl23 (w : World) (a : Option Addr) (n c : Nat) : (Instr.buildSlice 31 1 #[(0, .slice a n c)]).run Try.prog w = .ok (.slice (some ⟨w.heap.size, 0, none⟩) 1 1) (w.alloc (.cells #[.slice a n c] 27)) := by kernel_rfl
/-- A list of pieces that was made. -/
structure PcL (w : World) (B : Nat) (v : Value) (Qs : List (Value × List (BitVec 8))) : Prop where
  own : w.ownsRow B 27 1 v Qs.length (Qs.map (·.1))
  by_ : ∀ x ∈ Qs, OwnBy w B x.1 x.2
section
variable {w w' : World} {B : Nat} {v : Value} {Qs : List (Value × List (BitVec 8))}
theorem PcL.kept (h : PcL w B v Qs) (hb : Below w.heap.size w w') : PcL w' B v Qs := ⟨own_below h.own hb, fun x hx => own_below (h.by_ x hx) hb⟩
theorem PcL.at (h : PcL w B v Qs) : ∃ a c, v = .slice a Qs.length c ∧ PcsAt w a (Qs.map (·.2)) := by
  rcases h.own.2 with ⟨rfl, e⟩ | ⟨g, cap, cur, rfl, _, hg, hnc, hcm, hcs, htk⟩
  · exact ⟨none, 0, by rw [e], fun i hi => absurd hi (by rw [List.length_map]; omega)⟩
  · refine ⟨_, cap, rfl, fun i hi => ?_⟩
    have hi' : i < Qs.length := by simpa using hi
    obtain ⟨ax, cx, e1, e2, e3, e4, e5, _⟩ := ownBy_shape (h.by_ Qs[i] (List.getElem_mem hi'))
    refine ⟨g, 0, ax, cx, rfl, ?_, ?_, e5⟩
    · rw [Nat.zero_add, cell_of_row w g _ _ _ _ hg, ← Array.getElem?_toList, ← List.getElem?_take_of_lt (by omega : i < Qs.length * 1), htk, List.getElem?_map, List.getElem?_eq_getElem hi']
      simp only [Option.map_some, List.getElem_map]
      rw [e1]
    · simp only [List.getElem_map]
      exact e2
theorem push_pc (h : PcL w B v Qs) (hB : B ≤ w.heap.size) (hl : Qs.length ≤ 2097152) {x : Value × List (BitVec 8)} (hx : OwnBy w B x.1 x.2) {bx : Nat} (hb : Row w bx [x.1] 27) (ty : TypeId) :
    ∃ v' w', (Builtin.append_ #[31, 31] ty #[v, .slice (some ⟨bx, 0, none⟩) 1 1]).run Try.prog w = .ok v' w' ∧ PcL w' B v' (Qs ++ [x]) ∧ Fr (fun k => B ≤ k) w w' := by
  obtain ⟨i, h1, h2, h3, h4⟩ := info23
  obtain ⟨ax, cx, e1, _⟩ := ownBy_shape hx
  obtain ⟨v', w', hr, ho, hg, _, ha⟩ := run_append_own_at (P := Try.prog) w B 31 ty 27 i _ 1 24 Try.underlying31 h1 h2 h3 h4 rfl (by decide) v Qs.length (Qs.map (·.1)) h.own ⟨bx, 0, none⟩ 1 1 [x.1] rfl (fun j u hu => by
    rw [Addr.add_mid, Nat.zero_add]; exact hb.cell j u hu) (fun u hu => by rw [List.mem_singleton] at hu; subst hu; rw [e1]; rfl) (by unfold maxLen; omega) (by omega) hB
  have hf := Fr.of_grown (S := fun k => v.ownBlock = some k) hg (fun k e => .inl e)
  have hno : ∀ y : Value × List (BitVec 8), OwnBy w B y.1 y.2 → OwnBy w' B y.1 y.2 := fun y hy => hf.own hy (fun g hg e => by
    obtain ⟨c', hr'⟩ := own_row25 h.own e
    have := own_type hy hg hr'
    cases this)
  refine ⟨v', w', hr, ⟨?_, fun y hy => ?_⟩, hf.wider (fun k hk => own_ge h.own hk)⟩
  · rw [show (Qs ++ [x]).length = Qs.length + 1 by simp, List.map_append]
    exact ho
  · rcases List.mem_append.1 hy with hy | hy
    · exact hno y (h.by_ y hy)
    · rw [List.mem_singleton] at hy
      subst hy
      exact hno _ hx
end
/-- The frame at a place of a row. -/
theorem FrV.at {w : World} {B : Nat} {v : Value} {Ps : List (PF × Value)} (h : FrV w B v Ps) : ∃ a c, v = .slice a Ps.length c ∧ ∀ i (hi : i < Ps.length), ∃ g ax cx, a = some ⟨g, 0, none⟩ ∧ Ps[i].2 = .slice ax Ps[i].1.bs.length cx ∧ BytesAt w ax Ps[i].1.bs ∧ ∀ j u, (pcells Ps[i])[j]? = some u → w.cell? ⟨g, i * 6 + j, none⟩ = some u := by
  rcases h.own.2 with ⟨rfl, e⟩ | ⟨g, cap, cur, rfl, _, hg, hnc, hcm, hcs, htk⟩
  · exact ⟨none, 0, by rw [e], fun i hi => absurd hi (by omega)⟩
  · refine ⟨_, cap, rfl, fun i hi => ?_⟩
    obtain ⟨ax, cx, e1, e2⟩ : ∃ ax cx, Ps[i].2 = .slice ax Ps[i].1.bs.length cx ∧ BytesAt w ax Ps[i].1.bs := by
      rcases h.dt Ps[i] (List.getElem_mem hi) with ⟨hd, hn⟩ | ⟨g', hd, hr, _⟩
      · exact ⟨none, 0, by rw [hd, hn]; rfl, by rw [hn]; exact fun k hk => absurd hk (Nat.not_lt_zero _)⟩
      · refine ⟨some ⟨g', 0, none⟩, _, hd, fun k hk => ⟨g', 0, rfl, ?_⟩⟩
        rw [Nat.zero_add]
        exact hr.cell k _ (bcells_get hk)
    refine ⟨g, ax, cx, rfl, e1, e2, fun j u hu => ?_⟩
    have hj : j < 6 := (List.getElem?_eq_some_iff.1 hu).1
    rw [cell_of_row w g _ _ _ _ hg, ← Array.getElem?_toList, ← List.getElem?_take_of_lt (by omega : i * 6 + j < Ps.length * 6), htk, flatP_at Ps i j hi hj]
    exact hu
end Go.Proofs.Ytkhogbnoincbeab
