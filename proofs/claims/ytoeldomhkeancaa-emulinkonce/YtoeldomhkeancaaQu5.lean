import Derived.Test.YtoeldomhkeancaaQu3
namespace Go.Proofs.Ytoeldomhkeancaa
open Go.RowKit Go.Maps
set_option maxRecDepth 100000

theorem cell_heap {w w' : World} (h : w'.heap = w.heap) (ad : Addr) : w'.cell? ad = w.cell? ad := by unfold World.cell?; rw [h]
theorem bytes_heap {w w' : World} (h : w'.heap = w.heap) {a : Option Addr} {bs : List (BitVec 8)} (hB : BytesAt w a bs) : BytesAt w' a bs := fun k hk => by
  obtain ⟨g, o, e, c⟩ := hB k hk
  exact ⟨g, o, e, (cell_heap h _).trans c⟩
/-- Next tells and turns nothing. -/
theorem next_any {w : World} {p : Nat} {K : Lk} (h : LkAt w p K) (hk : K.Ok) (hl : K.Fl.length ≤ 2932031007402) : Calls Try.prog 10 #[pt p 0] w fun e w' => (∃ u, e = .returned u) ∧ w' = w := by
  cases hx : K.Fl[0]? with
  | none =>
    have h0 : K.Fl = [] := List.eq_nil_of_length_eq_zero (by have := List.getElem?_eq_none_iff.1 hx; omega)
    exact (next_nil h hk.q0 h0).mono fun e w' hh => ⟨⟨_, hh.1⟩, hh.2⟩
  | some x => exact (next_some h hk.q0 hx hl).mono fun e w' hh => ⟨⟨_, hh.1⟩, hh.2⟩
/-- Of the second's arrivals each stands among the first's. -/
theorem key_found {zs ys : List (It Value)} (h : (zs.map It.key).Perm (ys.map It.key)) {m : Nat} {y : It Value} (hy : ys[m]? = some y) : ∃ (j : Nat) (x : It Value), zs[j]? = some x ∧ x.at_ = y.at_ ∧ x.num = y.num := by
  have h1 : y.key ∈ zs.map It.key := h.mem_iff.2 (List.mem_map_of_mem (List.mem_of_getElem? hy))
  obtain ⟨x, hx, he⟩ := List.mem_map.1 h1
  obtain ⟨j, hj⟩ := List.getElem?_of_mem hx
  refine ⟨j, x, hj, ?_⟩
  simp only [It.key, Prod.mk.injEq] at he
  exact he
end Go.Proofs.Ytoeldomhkeancaa
