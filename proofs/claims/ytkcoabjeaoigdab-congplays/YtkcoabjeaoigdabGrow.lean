import Derived.Test.YtkcoabjeaoigdabCoup
namespace Go.Proofs.Ytkcoabjeaoigdab
open Go.RowKit
set_option maxRecDepth 100000

def stepD (D : Nat → Ln) (n k : Nat) : Int := if (D k).cnt then max (min (1048576 / (D k).c) (coupled (cl D n))) 1 else 1048576 / (D k).c
def upc (D : Nat → Ln) (n k : Nat) : Int := if (D k).c < (D k).t then min ((D k).c + 1024) (D k).t else min ((D k).c + stepD D n k) 262144
theorem own_b {c : Int} (h0 : 1024 ≤ c) (h1 : c ≤ 262144) : 4 ≤ 1048576 / c ∧ 1048576 / c ≤ 1024 := by
  refine ⟨Int.le_ediv_of_mul_le (by omega) (by omega), ?_⟩
  refine Int.ediv_le_of_le_mul (by omega) (by omega)
theorem stepD_b {D : Nat → Ln} {n k : Nat} (h : (D k).Ok) : 1 ≤ stepD D n k ∧ stepD D n k ≤ 1048576 / (D k).c := by
  have := own_b h.c0 h.c1
  unfold stepD
  split <;> omega
theorem upc_b {D : Nat → Ln} {n k : Nat} (h : (D k).Ok) : 1024 ≤ upc D n k ∧ upc D n k ≤ 262144 ∧ (D k).c ≤ upc D n k ∧ ((D k).c < 262144 → (D k).c < upc D n k) := by
  have h1 := stepD_b (n := n) h
  have h2 := h.c0
  have h3 := h.c1
  have h4 := h.t0
  have h5 := h.t1
  unfold upc
  split <;> omega
theorem upc_ok {D : Nat → Ln} {n k : Nat} (h : (D k).Ok) : Ln.Ok { D k with c := upc D n k } := by
  obtain ⟨a, b, _⟩ := upc_b (n := n) h
  exact ⟨a, b, h.t0, h.t1, h.r0, h.r1⟩
theorem cl_mem {D : Nat → Ln} {n k : Nat} (hk : k < n) (h : (D k).cnt = true) : cl D n ≠ [] := by
  have : D k ∈ cl D n := by
    unfold cl
    exact List.mem_filter.2 ⟨List.mem_map.2 ⟨k, by simpa using hk, rfl⟩, h⟩
  intro e
  rw [e] at this
  simp at this
set_option maxHeartbeats 1000000 in
theorem step_any {w : World} {g n k : Nat} {D : Nat → Ln} (h : GAt w g n D) (hk : k < n) :
    Calls Try.prog 28 #[.pointer (some ⟨g, 0, none⟩), .pointer (some ⟨g, k * 4, none⟩)] w fun e w' => e = .returned (.int .i64 (stepD D n k)) ∧ Below w.heap.size w w' := by
  have h8 : k < 8 := Nat.lt_of_lt_of_le hk h.le
  have ok := h.ok k hk
  have c0 := h.cell_c h8
  have c1 := h.cell_t h8
  have c2 := h.cell_on h8
  have c3 := h.cell_r h8
  have ob := own_b ok.c0 ok.c1
  have ed : (1048576 : Int).tdiv (D k).c = 1048576 / (D k).c := Int.tdiv_eq_ediv_of_nonneg (by decide)
  have ew : wrap64 (1048576 / (D k).c) = 1048576 / (D k).c := by unfold wrap64; omega
  have nz : ¬ (D k).c = 0 := by have := ok.c0; omega
  have HC := hid (fun w => counts_any (w := w) (c := (D k).c) (t := (D k).t) (on := (D k).on) (r := (D k).r))
  have HG := hid h
  cases hc : (D k).cnt with
  | false =>
    have HE : Hid (stepD D n k = 1048576 / (D k).c) := by show _ = _; unfold stepD; rw [hc]; rfl
    have hc' : Ln.cnt ⟨(D k).c, (D k).t, (D k).on, (D k).r⟩ = false := hc
    rw [hc'] at HC
    clear h hk ok ob hc hc'
    generalize 1048576 / (D k).c = own at *
    generalize (D k).c = c at *
    go_enter Try.func28, Try.ntmps28
    go_wp2_with (go_at_call 32; refine (HC.out _).mono ?_; rintro e w2 ⟨rfl, hw⟩; have HW := hid hw; clear hw)
    go_ret
    exact ⟨by rw [HE.out]; rfl, by rw [HW.out]; exact below_grow (Below.refl _ _) _⟩
  | true =>
    have HE : Hid (stepD D n k = max (min (1048576 / (D k).c) (coupled (cl D n))) 1) := by show _ = _; unfold stepD; rw [hc]; rfl
    have hc' : Ln.cnt ⟨(D k).c, (D k).t, (D k).on, (D k).r⟩ = true := hc
    rw [hc'] at HC
    have HNE := hid (cl_mem hk hc)
    clear h hk ok ob hc hc'
    generalize 1048576 / (D k).c = own at *
    generalize (D k).c = c at *
    go_enter Try.func28, Try.ntmps28
    go_wp2_with (first
      | (go_at_call 32; refine (HC.out _).mono ?_; clear c0 c1 c2 c3; rintro e w2 ⟨rfl, hw⟩; have HB : Hid (Below w.heap.size w w2) := by (show Below _ _ _; rw [hw]; exact below_grow (Below.refl _ _) _)
         clear hw)
      | (go_at_call 33; refine (coupled_any (HG.out.kept HB.out) HNE.out).mono ?_; rintro e w3 ⟨rfl, hb⟩; have HB3 := hid (HB.out.trans (hb.mono HB.out.size)); clear hb))
    go_ret
    exact ⟨by rw [HE.out]; rfl, HB3.out⟩
end Go.Proofs.Ytkcoabjeaoigdab
