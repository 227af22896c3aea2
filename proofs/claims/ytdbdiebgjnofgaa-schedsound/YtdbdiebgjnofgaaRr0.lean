import Derived.Test.YtdbdiebgjnofgaaSd9
namespace Go.Proofs.Ytdbdiebgjnofgaa
open Go.RowKit Go.Maps Go.Sort
set_option maxRecDepth 100000

abbrev icells (l : List Int) : List Value := l.map fun x => .int .i64 x
/-- A path's weight. -/
def wgt (ws : List Int) (i : Int) : Int := if (ws.length : Int) ≤ i then 1 else min (max (ws[i.toNat]?.getD 0) 1) 255
theorem wgt_bd (ws : List Int) (i : Int) : 1 ≤ wgt ws i ∧ wgt ws i ≤ 255 := by unfold wgt; split <;> omega
/-- Round robin: its weights, whose turn it is, and how many that path has left. -/
structure RRAt (w : World) (r B : Nat) (ws : List Int) (a : Option Addr) (c : Nat) (t l : Int) : Prop where
  row : Row w r [.slice a ws.length c, .int .i64 t, .int .i64 l] 71
  at_ : SlAt w 1 (.slice a ws.length c) ws.length (icells ws)
  ne : ∀ g, (Value.slice a ws.length c).ownBlock = some g → g ≠ r ∧ B ≤ g
  few : ws.length ≤ 17592186044416
  t0 : 0 ≤ t
  t1 : t ≤ 1466015503701
  l0 : 0 ≤ l
  l1 : l ≤ 255
theorem RRAt.kept {w w' : World} {r B : Nat} {ws : List Int} {a : Option Addr} {c : Nat} {t l : Int} (h : RRAt w r B ws a c t l) (hb : Below w.heap.size w w') : RRAt w' r B ws a c t l := ⟨h.row.kept hb h.row.lt, h.at_.kept hb, h.ne, h.few, h.t0, h.t1, h.l0, h.l1⟩
set_option maxHeartbeats 1000000 in
theorem weight_any {w : World} {r B : Nat} {ws : List Int} {a : Option Addr} {c : Nat} {t l : Int} (h : RRAt w r B ws a c t l) (i : Int) (hi : 0 ≤ i) :
    Calls Try.prog 27 #[.pointer (some ⟨r, 0, none⟩), .int .i64 i] w fun e w' => e = .returned (.int .i64 (wgt ws i)) ∧ w' = w := by
  have c0 := h.row.cell 0 _ rfl
  have hf : (ws.length : Int) ≤ 17592186044416 := by have := h.few; omega
  unfold wgt
  by_cases hl : (ws.length : Int) ≤ i
  · rw [if_pos hl]
    clear h
    generalize ws.length = n at *
    go_enter Try.func27, Try.ntmps27
    go_wp2
    go_ret
    exact ⟨rfl, rfl⟩
  · rw [if_neg hl]
    obtain ⟨k, rfl⟩ : ∃ k : Nat, i = k := ⟨i.toNat, by omega⟩
    have hk : k < ws.length := by omega
    obtain ⟨g1, g2, ⟨g3, g4⟩ | ⟨g, o, cap, e, g3⟩⟩ := h.at_
    · omega
    cases e
    have q0 : w.cell? ⟨g, o + k, none⟩ = some (.int .i64 ws[k]) := g3 k _ (by simp [icells, hk])
    have hx : ws[(k : Int).toNat]?.getD 0 = ws[k] := by simp [hk]
    rw [hx]
    generalize ws[k] = x at *
    have hk2 : (k : Int) < ws.length := by omega
    clear h g1 g2 g3 hx hk
    generalize ws.length = n at *
    go_enter Try.func27, Try.ntmps27
    go_wp2
    go_ret
    exact ⟨rfl, rfl⟩
set_option maxHeartbeats 1000000 in
/-- A turn is given. -/
theorem pass_any {w : World} {r B : Nat} {ws : List Int} {a : Option Addr} {c : Nat} {t l : Int} (h : RRAt w r B ws a c t l) (i : Int) (hi : 0 ≤ i) (hi1 : i ≤ 1466015503701) :
    Calls Try.prog 25 #[.pointer (some ⟨r, 0, none⟩), .int .i64 i] w fun e w' => e = .returned (.tuple #[]) ∧ Fr (fun k => k = r) w w' ∧ RRAt w' r B ws a c i (wgt ws i) := by
  have HW := hid (weight_any h i hi)
  have wb := wgt_bd ws i
  have c1 := h.row.cell 1 _ rfl
  have c2 := h.row.cell 2 _ rfl
  have f1 := h.row.frozen 1
  have f2 := h.row.frozen 2
  have H := hid h
  generalize wgt ws i = x at *
  have HWB := hid wb
  clear h wb
  go_enter Try.func25, Try.ntmps25
  go_wp2_with (go_at_call 27; refine HW.out.mono ?_; rintro e w1 ⟨rfl, rfl⟩)
  have hf : Fr (fun k => k = r) w1 ((w1.setCell ⟨r, 1, none⟩ (.int .i64 i)).setCell ⟨r, 2, none⟩ (.int .i64 x)) := ((Fr.setIn (S := fun k => k = r) (B := r) (Fr.refl _ w1) rfl 1 _).setIn (B := r) rfl 2 _)
  refine bodyPost_end (results_none Try.results25 _ _ _) rfl ⟨rfl, hf, ⟨(H.out.row.set 1 _).set 2 _, H.out.at_.fr hf (fun g hg e => (H.out.ne g hg).1 e), H.out.ne, H.out.few, hi, hi1, by have := HWB.out; omega, HWB.out.2⟩⟩
def nxt (n t : Int) : Int := if n ≤ t + 1 then 0 else t + 1
theorem behind_any (w : World) (t n : Int) (h0 : 0 ≤ t) (h1 : t ≤ 1466015503701) : Calls Try.prog 59 #[.int .i64 t, .int .i64 n] w fun e w' => e = .returned (.int .i64 (nxt n t)) ∧ w' = w := by
  unfold nxt
  by_cases h : n ≤ t + 1
  · rw [if_pos h]
    go_enter Try.func59, Try.ntmps59
    go_wp2
    go_ret
    exact ⟨rfl, rfl⟩
  · rw [if_neg h]
    go_enter Try.func59, Try.ntmps59
    go_wp2
    go_ret
    exact ⟨rfl, rfl⟩
end Go.Proofs.Ytdbdiebgjnofgaa
