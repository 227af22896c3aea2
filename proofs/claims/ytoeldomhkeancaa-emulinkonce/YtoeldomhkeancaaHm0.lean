import Derived.Test.YtoeldomhkeancaaBy0
import Derived.Test.YtoeldomhkeancaaHp0
import Derived.Test.YtoeldomhkeancaaRegN
import Derived.Deep.CutRange
namespace Go.Proofs.Ytoeldomhkeancaa
open Go.RowKit Go.Maps
set_option maxRecDepth 100000

/-- An item's cells. -/
def icells (x : It Value) : List Value := [.int .u64 x.at_, .int .u64 x.num, x.what]
def flatI (L : List (It Value)) : List Value := L.flatMap icells
theorem flatI_len (L : List (It Value)) : (flatI L).length = L.length * 3 := by
  unfold flatI
  induction L with
  | nil => rfl
  | cons x r ih => simp [icells, ih]; omega
theorem flatI_app (a b : List (It Value)) : flatI (a ++ b) = flatI a ++ flatI b := by simp [flatI]
theorem flatI_cell (x : It Value) {j : Nat} {v : Value} (h : (icells x)[j]? = some v) : j < 3 := (List.getElem?_eq_some_iff.1 h).1
theorem flatI_get : ∀ {L : List (It Value)} {k : Nat} {x : It Value}, L[k]? = some x → ∀ {j : Nat} {v : Value}, (icells x)[j]? = some v → (flatI L)[k * 3 + j]? = some v
  | [], _, _, h, _, _, _ => by simp at h
  | y :: r, 0, x, h, j, v, hv => by
    cases h
    have hj := flatI_cell _ hv
    simp only [flatI, List.flatMap_cons]
    rw [List.getElem?_append_left (by simp [icells]; omega), Nat.zero_mul, Nat.zero_add]
    exact hv
  | y :: r, k + 1, x, h, j, v, hv => by
    simp only [flatI, List.flatMap_cons]
    rw [List.getElem?_append_right (by simp [icells]; omega), show (k + 1) * 3 + j - (icells y).length = k * 3 + j by simp [icells]; omega]
    exact flatI_get (L := r) (by simpa using h) hv
theorem flatI_take : ∀ (L : List (It Value)) (k : Nat), (flatI L).take (k * 3) = flatI (L.take k)
  | [], _ => by simp [flatI]
  | _, 0 => by simp [flatI]
  | x :: r, k + 1 => by
    have ih := flatI_take r k
    simp only [flatI, List.flatMap_cons, List.take_succ_cons] at *
    rw [List.take_append, List.take_of_length_le (by simp [icells]; omega), show (k + 1) * 3 - (icells x).length = k * 3 by simp [icells]; omega, ih]
theorem set3 (l : List Value) (o : Nat) (x : It Value) (h : o + 3 ≤ l.length) : l.take o ++ icells x ++ l.drop (o + 3) = ((l.set o (.int .u64 x.at_)).set (o + 1) (.int .u64 x.num)).set (o + 2) x.what := by
  apply List.ext_getElem?
  intro j
  rw [List.append_assoc]
  by_cases h1 : j < o
  · rw [List.getElem?_append_left (by simp; omega), List.getElem?_take, if_pos h1, List.getElem?_set_ne (by omega), List.getElem?_set_ne (by omega), List.getElem?_set_ne (by omega)]
  · rw [List.getElem?_append_right (by simp; omega), List.length_take, Nat.min_eq_left (by omega)]
    by_cases h2 : j < o + 3
    · rw [List.getElem?_append_left (by simp [icells]; omega)]
      obtain rfl | rfl | rfl : j = o ∨ j = o + 1 ∨ j = o + 2 := by omega
      · rw [List.getElem?_set_ne (by omega), List.getElem?_set_ne (by omega), List.getElem?_set_self (by omega)]; simp [icells]
      · rw [List.getElem?_set_ne (by omega), List.getElem?_set_self (by simp; omega)]; simp [icells]
      · rw [List.getElem?_set_self (by simp; omega)]; simp [icells]
    · rw [List.getElem?_append_right (by simp [icells]; omega), List.getElem?_drop, List.getElem?_set_ne (by omega), List.getElem?_set_ne (by omega), List.getElem?_set_ne (by omega)]
      congr 1
      simp [icells]; omega
theorem flatI_set : ∀ {L : List (It Value)} {k : Nat} (x : It Value), k < L.length → flatI (L.set k x) = (flatI L).take (k * 3) ++ icells x ++ (flatI L).drop (k * 3 + 3)
  | [], _, _, h => by simp at h
  | y :: r, 0, x, h => by simp [flatI, icells]
  | y :: r, k + 1, x, h => by
    have ih := flatI_set (L := r) (k := k) x (by simpa using h)
    have e : (k + 1) * 3 = (icells y).length + k * 3 := by simp [icells]; omega
    simp only [flatI, List.flatMap_cons, List.set_cons_succ] at *
    rw [ih, e, List.take_length_add_append, show (icells y).length + k * 3 + 3 = (icells y).length + (k * 3 + 3) by omega, List.drop_length_add_append]
    simp
theorem icells_one {x : It Value} (h : x.what.oneCell' = true) : ∀ u ∈ icells x, u.oneCell' = true := by
  intro u hu
  simp only [icells, List.mem_cons, List.not_mem_nil, or_false] at hu
  rcases hu with rfl | rfl | rfl
  · rfl
  · rfl
  · exact h
theorem Row.result2 {P : Program} {w : World} {g : Nat} {c : List Value} {t : TypeId} {fn : Func} {p u : Tmp} {ty : TypeId} (h : Row w g c t) (hr : fn.results = #[.cell p ty, .tmp u]) (tmps : Array Value) (hp : tmps.getD p undef = .pointer (some ⟨g, 0, none⟩)) (d : TypeDesc)
    (hu : P.underlying ty = some d) (hd : (match d with | .struct _ | .array _ _ => true | _ => false) = true) (hi : (P.info? ty).map (·.size) = some c.length) : (results fn tmps).run P w = .ok (.tuple #[.agg c.toArray, tmps.getD u undef]) w := by
  have hp' : tmps[p]?.getD undef = .pointer (some ⟨g, 0, none⟩) := by simpa using hp
  simp [results, hr, hp', asAddr, run_loadVar_row w g t ty c.toArray (0, 0) d h.at_ hu hd (by simpa using hi)]
set_option maxHeartbeats 400000 in
/-- The place above. -/
theorem above_any (w : World) (k : Nat) (h0 : 0 < k) (hk : k ≤ 4611686018427387904) : Calls Try.prog 44 #[.int .i64 k] w fun e w' => e = .returned (.int .i64 ((par k : Nat) : Int)) ∧ w' = w := by
  have hl : (k : Int) ≤ 4611686018427387904 := by omega
  have h0' : (0 : Int) < k := by omega
  go_enter Try.func44, Try.ntmps44
  go_wp2_with fail
  go_ret
  exact ⟨by first | (unfold par; congr 2; omega) | (simp; unfold par; omega), rfl⟩
end Go.Proofs.Ytoeldomhkeancaa
