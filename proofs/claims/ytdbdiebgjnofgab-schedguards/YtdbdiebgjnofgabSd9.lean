import Derived.Test.YtdbdiebgjnofgabSd8
namespace Go.Proofs.Ytdbdiebgjnofgab
open Go.RowKit Go.Maps Go.Sort
set_option maxRecDepth 100000

theorem eg44 : ∀ args w, (callFunc 96 args).run Try.prog w = .ok (.enter 96 args) w := enters_of Try.func96 (by kernel_rfl) rfl
theorem eg43 : ∀ args w, (callFunc 95 args).run Try.prog w = .ok (.enter 95 args) w := enters_of Try.func95 (by kernel_rfl) rfl
theorem below_fr {S : Nat → Prop} {w w' : World} (h : Fr S w w') (hS : ∀ k, ¬ S k) : Below w.heap.size w w' := h.below (fun x hx => absurd hx (hS x)) (Nat.le_refl _)
theorem next0_any {w : World} {s : Nat} {V : Vw} (h : VwAt w V) (hs : Row w s [.iface 75 (.agg #[])] 85) : Calls Try.prog 7 #[.pointer (some ⟨s, 0, none⟩), V.val] w fun e w' => e = .returned (pkv (minO V)) ∧ Below w.heap.size w w' :=
  (next_by (T := 75) (f := 96) (S := fun _ => False) (R := fun _ => True) (hs.cell 0 _ rfl) (fun _ => by kernel_rfl) eg44 (fun _ e => e.elim) (fun _ _ _ _ => trivial) (fun e => e)
    (fun w' hb => (min_any (h.kept hb)).mono (by rintro e w2 ⟨rfl, hb2⟩; exact ⟨rfl, fr0 hb2, trivial⟩))).mono (by rintro e w2 ⟨rfl, hf, _⟩; exact ⟨rfl, below_fr hf (fun _ e => e)⟩)
abbrev av0 : Pv := ⟨true, false, true, 9, 2, 0, false, ⟨0, 0, false, ⟨none, 0, 0⟩, false⟩⟩
abbrev av1 : Pv := ⟨true, false, true, 3, 1, 0, false, ⟨0, 0, false, ⟨none, 0, 0⟩, false⟩⟩
abbrev avw (g : Nat) : Vw := ⟨some ⟨g, 0, none⟩, 2, [av0, av1], true, ⟨5, 2, false, ⟨none, 0, 0⟩, false⟩, 9, 2⟩
theorem min_av (g : Nat) : minO (avw g) = some ⟨1, 5, 2⟩ := by rfl
def fcells (L : List Pv) : List Value := L.flatMap Pv.cells
theorem fcells_get : ∀ (L : List Pv) (k : Nat) (h : k < L.length) (j : Nat) (v : Value), L[k].cells[j]? = some v → (fcells L)[k * 12 + j]? = some v
  | [], k, h, _, _, _ => by simp at h
  | p :: L, 0, _, j, v, hv => by
    rw [fcells, List.flatMap_cons, Nat.zero_mul, Nat.zero_add, List.getElem?_append_left (by have := (List.getElem?_eq_some_iff.1 hv).1; simpa using this)]
    exact hv
  | p :: L, k + 1, h, j, v, hv => by
    have := fcells_get L k (by simpa using h) j v (by simpa using hv)
    rw [fcells, List.flatMap_cons, List.getElem?_append_right (by simp; omega)]
    rw [show (k + 1) * 12 + j - p.cells.length = k * 12 + j by simp; omega]
    exact this
theorem Row.paths {w : World} {g : Nat} {L : List Pv} {t : TypeId} (h : Row w g (fcells L) t) : PathsAt w (some ⟨g, 0, none⟩) L := fun k hk => ⟨g, 0, rfl, fun j v hv => by rw [Nat.zero_add]; exact h.cell _ _ (fcells_get L k hk j v hv)⟩
set_option maxHeartbeats 2000000 in
theorem alive_any (w : World) : Calls Try.prog 8 #[] w fun e w' => e = .returned (.bool true) ∧ Below w.heap.size w w' := by
  have HN := hid (new0_any w none none 0 0 0 0)
  go_enter Try.func8, Try.ntmps8
  go_upto_region 3 with (go_at_call 6; refine HN.out.mono ?_; rintro e w1 ⟨hb, s, rfl, hs, hr⟩; have HB := hid hb; have HR := hid hr; clear hb hs hr)
  refine wp_world fun W HW => ?_
  have HB1 : Hid (Below w.heap.size w W) := by show Below _ _ _; rw [HW.out]; exact (HB.out.alloc HB.out.size _).alloc (by have := HB.out.size; simp; omega) _
  have HR1 : Hid (Row W s [.iface 75 (.agg #[])] 85) := by show Row _ _ _ _; rw [HW.out]; exact (HR.out.alloc _).alloc _
  have HV : Hid (VwAt W (avw w1.heap.size)) := by
    refine ⟨Row.paths (t := 39) ?_, by simp⟩
    rw [HW.out]
    exact (Row.new' _ _ _ _ _ rfl rfl).alloc _
  have HX : Hid (Row W (w1.heap.size + 1) (avw w1.heap.size).cells 28) := by show Row _ _ _ _; rw [HW.out]; exact Row.new' _ _ _ _ _ (by simp) rfl
  have b0 := HX.out.cell 0 _ rfl
  have b1 := HX.out.cell 1 _ rfl
  have b2 := HX.out.cell 2 _ rfl
  have b3 := HX.out.cell 3 _ rfl
  have b4 := HX.out.cell 4 _ rfl
  have b5 := HX.out.cell 5 _ rfl
  have b6 := HX.out.cell 6 _ rfl
  have b7 := HX.out.cell 7 _ rfl
  have b8 := HX.out.cell 8 _ rfl
  have HC := next0_any HV.out HR1.out
  rw [min_av] at HC
  simp only [Vw.val, Vw.cells, List.length_cons, List.length_nil, Nat.zero_add, Nat.reduceAdd, pkv, Pk.cells] at HC
  simp only [List.length_cons, List.length_nil, Nat.zero_add, Nat.reduceAdd] at b0
  replace HC := hid HC
  clear HW HX HB HR
  go_wp2_with (go_at_call 7; refine HC.out.mono ?_; rintro e w2 ⟨rfl, hb2⟩; have HB2 := hid (HB1.out.trans (hb2.mono HB1.out.size)); clear hb2)

  go_ret
  exact ⟨rfl, HB2.out.alloc HB2.out.size _⟩
end Go.Proofs.Ytdbdiebgjnofgab
