import Derived.Test.YtoeldomhkeancaaTk0
namespace Go.Proofs.Ytoeldomhkeancaa
open Go.RowKit Go.Maps
set_option maxRecDepth 100000

theorem own1 {w : World} {base : Nat} {t : TypeId} {v : Value} {n : Nat} {xs : List Value} (h : w.ownsRow base t 1 v n xs) : ∃ a cap, v = .slice a n cap ∧ n ≤ cap ∧ cap ≤ maxLen ∧ (a = none → cap = 0) ∧ ∀ (j : Nat) x, xs[j]? = some x → ∃ g, a = some ⟨g, 0, none⟩ ∧ w.cell? ⟨g, j, none⟩ = some x := by
  obtain ⟨hl, ⟨rfl, hn⟩ | ⟨g, cap, cur, rfl, hb, hg, hnc, hcm, hcs, htk⟩⟩ := h
  · subst hn
    refine ⟨none, 0, rfl, Nat.le_refl _, Nat.zero_le _, fun _ => rfl, fun j x hx => ?_⟩
    have := (List.getElem?_eq_some_iff.1 hx).1
    omega
  · refine ⟨_, cap, rfl, hnc, hcm, fun e => (by cases e), fun j x hx => ⟨g, rfl, ?_⟩⟩
    have hj := (List.getElem?_eq_some_iff.1 hx).1
    rw [cell_of_row w g _ _ _ _ hg, ← Array.getElem?_toList, ← hx, ← htk, List.getElem?_take, if_pos (by omega)]
/-- Is a frame lost by the pattern? -/
def lossE (K : Lk) (num : Int) : Bool := (K.loss[(num % (K.loss.length : Int)).toNat]?).getD false
/-- How much later does it come? -/
def jitE (K : Lk) (num : Int) : Int := (K.jit[(num % (K.jit.length : Int)).toNat]?).getD 0
set_option maxHeartbeats 1000000 in
theorem lit_b {w : World} {p b : Nat} {K : Lk} (h : LkAt w p K) (hb : w.cell? ⟨b, 0, none⟩ = some (pt p 0)) {k : Nat} {x : Bool} (hx : K.loss[k]? = some x) (hk : k ≤ 65536) :
    Calls Try.prog 22 #[.int .i64 k, pt b 0] w fun e w' => e = .returned (.bool x) ∧ w' = w := by
  obtain ⟨a, cap, hv, h1, h2, -, h4⟩ := own1 h.lo
  obtain ⟨g, rfl, hc⟩ := h4 k (.bool x) (by simp [hx])
  have c3 := h.row.cell 3 _ rfl
  rw [hv] at c3
  have hkl := (List.getElem?_eq_some_iff.1 hx).1
  have hki : (k : Int) < (K.loss.length : Int) := by omega
  have hk0 : (0 : Int) ≤ (k : Int) := by omega
  clear h hv h1 h2 h4 hx hk hkl
  go_enter Try.func22, Try.ntmps22
  go_wp2
  go_ret
  exact ⟨rfl, rfl⟩
set_option maxHeartbeats 1000000 in
theorem lit_i {w : World} {p b : Nat} {K : Lk} (h : LkAt w p K) (hb : w.cell? ⟨b, 0, none⟩ = some (pt p 0)) {k : Nat} {x : Int} (hx : K.jit[k]? = some x) (hk : k ≤ 65536) :
    Calls Try.prog 35 #[.int .i64 k, pt b 0] w fun e w' => e = .returned (.int .i64 x) ∧ w' = w := by
  obtain ⟨a, cap, hv, h1, h2, -, h4⟩ := own1 h.ji
  obtain ⟨g, rfl, hc⟩ := h4 k (.int .i64 x) (by simp [hx])
  have c3 := h.row.cell 4 _ rfl
  rw [hv] at c3
  have hkl := (List.getElem?_eq_some_iff.1 hx).1
  have hki : (k : Int) < (K.jit.length : Int) := by omega
  have hk0 : (0 : Int) ≤ (k : Int) := by omega
  clear h hv h1 h2 h4 hx hk hkl
  go_enter Try.func35, Try.ntmps35
  go_wp2
  go_ret
  exact ⟨rfl, rfl⟩
theorem mod_nat {n : Nat} (num : Int) (hn : ¬ n = 0) : ∃ k : Nat, num % (n : Int) = (k : Int) ∧ k < n ∧ (num % (n : Int)).toNat = k := by
  have h1 := Int.emod_nonneg num (show (n : Int) ≠ 0 by omega)
  have h2 := Int.emod_lt_of_pos num (show (0 : Int) < (n : Int) by omega)
  exact ⟨(num % (n : Int)).toNat, by omega, by omega, rfl⟩
set_option maxHeartbeats 2000000 in
theorem meet_b {w : World} {p b : Nat} {K : Lk} (h : LkAt w p K) (hl : K.loss.length ≤ 65536) (hb : w.cell? ⟨b, 0, none⟩ = some (pt p 0)) {num : Int} (h0 : 0 ≤ num) :
    Calls Try.prog 21 #[.int .i64 K.loss.length, .int .u64 num, .func (.func 22) #[] #[pt b 0]] w fun e w' => e = .returned (.bool (lossE K num)) ∧ w' = w := by
  obtain ⟨n, hn⟩ : ∃ n, K.loss.length = n := ⟨_, rfl⟩
  by_cases hz : n = 0
  · have HE : Hid (lossE K num = false) := by
      show _ = _
      have : K.loss = [] := List.eq_nil_of_length_eq_zero (by omega)
      unfold lossE
      rw [this]
      rfl
    rw [hn]
    subst hz
    rw [HE.out]
    clear HE h hl hb hn
    go_enter Try.func21, Try.ntmps21
    go_wp2
    go_ret
    exact ⟨rfl, rfl⟩
  · obtain ⟨k, hm, hkn, hkt⟩ := mod_nat num hz
    obtain ⟨x, hx⟩ : ∃ x, K.loss[k]? = some x := ⟨_, List.getElem?_eq_getElem (by omega)⟩
    have HE : lossE K num = x := by
      unfold lossE
      rw [hn, hkt, hx]
      rfl
    have HL := hid (lit_b h hb hx (by omega))
    rw [HE, hn]
    have hni : (n : Int) ≤ 65536 := by omega
    have hn0 : ¬ (n : Int) = 0 := by omega
    have hn1 : (0 : Int) ≤ (n : Int) := by omega
    have hw : IntKind.u64.wrap (n : Int) = (n : Int) := by rw [IntKind.wrap_u64]; omega
    have hm2 : num.tmod (n : Int) = (k : Int) := by rw [Int.tmod_eq_emod_of_nonneg h0]; exact hm
    have hk1 : (k : Int) ≤ 65536 := by omega
    have hk2 : (0 : Int) ≤ (k : Int) := by omega
    have hcf : ∀ (args : Array Value) (w : World), (callFunc 22 args).run Try.prog w = .ok (.enter 22 args) w := fun _ _ => rfl
    clear h hl hb hn hz hx HE hkn hkt
    go_enter Try.func21, Try.ntmps21
    go_wp2_with (go_at_call 22; refine HL.out.mono ?_; rintro e w1 ⟨rfl, rfl⟩)
    go_ret
    exact ⟨rfl, rfl⟩
set_option maxHeartbeats 2000000 in
theorem meet_i {w : World} {p b : Nat} {K : Lk} (h : LkAt w p K) (hl : K.jit.length ≤ 65536) (hb : w.cell? ⟨b, 0, none⟩ = some (pt p 0)) {num : Int} (h0 : 0 ≤ num) :
    Calls Try.prog 34 #[.int .i64 K.jit.length, .int .u64 num, .func (.func 35) #[] #[pt b 0]] w fun e w' => e = .returned (.int .i64 (jitE K num)) ∧ w' = w := by
  obtain ⟨n, hn⟩ : ∃ n, K.jit.length = n := ⟨_, rfl⟩
  by_cases hz : n = 0
  · have HE : Hid (jitE K num = 0) := by
      show _ = _
      have : K.jit = [] := List.eq_nil_of_length_eq_zero (by omega)
      unfold jitE
      rw [this]
      rfl
    rw [hn]
    subst hz
    rw [HE.out]
    clear HE h hl hb hn
    go_enter Try.func34, Try.ntmps34
    go_wp2
    go_ret
    exact ⟨rfl, rfl⟩
  · obtain ⟨k, hm, hkn, hkt⟩ := mod_nat num hz
    obtain ⟨x, hx⟩ : ∃ x, K.jit[k]? = some x := ⟨_, List.getElem?_eq_getElem (by omega)⟩
    have HE : jitE K num = x := by
      unfold jitE
      rw [hn, hkt, hx]
      rfl
    have HL := hid (lit_i h hb hx (by omega))
    rw [HE, hn]
    have hni : (n : Int) ≤ 65536 := by omega
    have hn0 : ¬ (n : Int) = 0 := by omega
    have hn1 : (0 : Int) ≤ (n : Int) := by omega
    have hw : IntKind.u64.wrap (n : Int) = (n : Int) := by rw [IntKind.wrap_u64]; omega
    have hm2 : num.tmod (n : Int) = (k : Int) := by rw [Int.tmod_eq_emod_of_nonneg h0]; exact hm
    have hk1 : (k : Int) ≤ 65536 := by omega
    have hk2 : (0 : Int) ≤ (k : Int) := by omega
    have hcf : ∀ (args : Array Value) (w : World), (callFunc 35 args).run Try.prog w = .ok (.enter 35 args) w := fun _ _ => rfl
    clear h hl hb hn hz hx HE hkn hkt
    go_enter Try.func34, Try.ntmps34
    go_wp2_with (go_at_call 35; refine HL.out.mono ?_; rintro e w1 ⟨rfl, rfl⟩)
    go_ret
    exact ⟨rfl, rfl⟩
end Go.Proofs.Ytoeldomhkeancaa
